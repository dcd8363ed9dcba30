import Derived.Test.YteiajeeincapoacOpenC
import Derived.Test.YteiajeeincapoacScript
import Derived.Deep.Slices
namespace Go.Proofs.Yteiajeeincapoac
open Go.ChangeShapes Go.WideShapes Go.ChangeAt Go.RowKit Go.Joins Go.Deep

structure OpAt (w : World) (b of : Nat) (o : OpP) (av : Option Addr) (cv : Nat) (asec : Option Addr) (csec : Nat) : Prop where
  c0 : w.cell? ⟨b, of, none⟩ = some (.int .i64 o.kind)
  c1 : w.cell? ⟨b, of + 1, none⟩ = some (.int .i64 o.a)
  c2 : w.cell? ⟨b, of + 2, none⟩ = some (.int .i64 o.b)
  c3 : w.cell? ⟨b, of + 3, none⟩ = some (.slice av o.data.length cv)
  c4 : w.cell? ⟨b, of + 4, none⟩ = some (.int .i64 o.size)
  c5 : w.cell? ⟨b, of + 5, none⟩ = some (.slice asec o.sec.length csec)
  c6 : w.cell? ⟨b, of + 6, none⟩ = some (.int .i64 o.rest)
  data : SB w (.slice av o.data.length cv) o.data
  sec : SI w (.slice asec o.sec.length csec) o.sec

def SO (w : World) (v : Value) (ops : List OpP) : Prop :=
  ∃ ao cap, v = .slice ao ops.length cap ∧ ops.length ≤ cap ∧ cap ≤ maxLen ∧ ∀ (i : Nat) (o : OpP), ops[i]? = some o → ∃ b of av cv asec csec, ao = some ⟨b, of, none⟩ ∧ OpAt w b (of + i * 7) o av cv asec csec

theorem OpAt.below {w w' : World} {b of : Nat} {o : OpP} {av : Option Addr} {cv : Nat} {asec : Option Addr} {csec : Nat} (h : OpAt w b of o av cv asec csec) (hb : Below w.heap.size w w') : OpAt w' b of o av cv asec csec :=
  ⟨keep1 hb h.c0, keep1 hb h.c1, keep1 hb h.c2, keep1 hb h.c3, keep1 hb h.c4, keep1 hb h.c5, keep1 hb h.c6, h.data.below hb, h.sec.below hb⟩

def Lens (l : List Int) {H : Type} (d : DataW H) : Prop := l = [] ∨ ∃ elems spare, d = .slice elems spare ∧ l.length ≤ elems.length + spare.length

def OpD (o : OpP) {H : Type} (d : DataW H) : Prop := ∃ x0 x1 x2 x3 y0 y1 y2, d = .agg [x0, x1, x2, x3, .agg [y0, y1, y2]] ∧ Lens o.data x3 ∧ Lens o.sec y1

theorem exists_list {α : Type} (P : Nat → α → Prop) : ∀ n, (∀ i, i < n → ∃ a, P i a) → ∃ l : List α, l.length = n ∧ ∀ i a, l[i]? = some a → P i a
  | 0, _ => ⟨[], rfl, fun i a h => by simp at h⟩
  | n + 1, h => by
    obtain ⟨l, hl, hp⟩ := exists_list P n fun i hi => h i (by omega)
    obtain ⟨a, ha⟩ := h n (by omega)
    refine ⟨l ++ [a], by simp [hl], fun i x hx => ?_⟩
    by_cases hi : i < l.length
    · rw [List.getElem?_append_left hi] at hx
      exact hp i x hx
    · rw [List.getElem?_append_right (by omega)] at hx
      have : i - l.length = 0 := by
        by_cases e : i - l.length = 0
        · exact e
        · rw [List.getElem?_eq_none (by simp; omega)] at hx; cases hx
      rw [this] at hx
      simp at hx
      rw [← hx, show i = n by omega]
      exact ha

theorem cellsOp : Try.prog.cellsOf 33 = 7 := by kernel_rfl
theorem bytesOp : Try.prog.bytesOf 33 = 88 := by kernel_rfl

theorem open_ints_cell {H : Type} {enc : TypeId × Value → H} {W : World} {n : Nat} {v : Value} {y : DataW H × List MemPlace} (h : DataW.trod enc Try.prog W 0 (fun _ => true) true n 24 [v] = some y) :
    ∃ a c l, v = .slice a l.length c ∧ SI W (.slice a l.length c) l ∧ Lens l y.1 := by
  rcases open_ints Try.underlying24 Try.underlying3 (by kernel_rfl) h with ⟨hcs, hx⟩ | ⟨x, ll, c, zs, hcs, _, hl, hm, hz, hx, hcell, hwz⟩
  · simp at hcs
    subst hcs
    exact ⟨none, 0, [], rfl, ⟨none, 0, rfl, Nat.le_refl _, Nat.zero_le _, fun _ => rfl, fun x hx => by cases hx⟩, .inl rfl⟩
  · simp at hcs
    subst hcs
    simp only [if_true] at hz
    have e : (zs.take ll).length = ll := by rw [List.length_take]; omega
    subst hx
    refine ⟨some x, c, zs.take ll, by rw [e], ⟨some x, c, rfl, by omega, hm, (fun h => by cases h), fun y hy i hi => ?_⟩, .inr ⟨_, _, rfl, ?_⟩⟩
    · cases hy
      rw [e] at hi
      rw [hcell i (by omega)]
      simp [List.getD, hi]
    · simp [lits]

theorem open_bytes_cell {H : Type} {enc : TypeId × Value → H} {W : World} {n : Nat} {v : Value} {y : DataW H × List MemPlace} (h : DataW.trod enc Try.prog W 0 (fun _ => true) true n 22 [v] = some y) :
    ∃ a c l, v = .slice a l.length c ∧ SB W (.slice a l.length c) l ∧ Lens l y.1 := by
  rcases open_ints Try.underlying22 Try.underlying5 (by kernel_rfl) h with ⟨hcs, hx⟩ | ⟨x, ll, c, zs, hcs, _, hl, hm, hz, hx, hcell, hwz⟩
  · simp at hcs
    subst hcs
    exact ⟨none, 0, [], rfl, ⟨none, 0, rfl, Nat.le_refl _, Nat.zero_le _, fun _ => rfl, fun x hx => by cases hx⟩, .inl rfl⟩
  · simp at hcs
    subst hcs
    simp only [if_true] at hz
    have e : (zs.take ll).length = ll := by rw [List.length_take]; omega
    subst hx
    refine ⟨some x, c, zs.take ll, by rw [e], ⟨some x, c, rfl, by omega, hm, (fun h => by cases h), fun y hy i hi => ?_⟩, .inr ⟨_, _, rfl, ?_⟩⟩
    · cases hy
      rw [e] at hi
      rw [hcell i (by omega)]
      simp [List.getD, hi]
    · simp [lits]

theorem list3 {α : Type} {l : List α} (h : l.length = 3) : ∃ a b c, l = [a, b, c] := by
  match l, h with
  | [a, b, c], _ => exact ⟨a, b, c, rfl⟩

theorem list5 {α : Type} {l : List α} (h : l.length = 5) : ∃ a b c d e, l = [a, b, c, d, e] := by
  match l, h with
  | [a, b, c, d, e], _ => exact ⟨a, b, c, d, e, rfl⟩

theorem list7 {α : Type} {l : List α} (h : l.length = 7) : ∃ a b c d e f g, l = [a, b, c, d, e, f, g] := by
  match l, h with
  | [a, b, c, d, e, f, g], _ => exact ⟨a, b, c, d, e, f, g, rfl⟩

theorem open_op {H : Type} {enc : TypeId × Value → H} {W : World} {n : Nat} {cs : List Value} {y : DataW H × List MemPlace} (h : DataW.trod enc Try.prog W 0 (fun _ => true) true n 33 cs = some y) :
    ∃ (o : OpP) (av : Option Addr) (cv : Nat) (asec : Option Addr) (csec : Nat), cs = [.int .i64 o.kind, .int .i64 o.a, .int .i64 o.b, .slice av o.data.length cv, .int .i64 o.size, .slice asec o.sec.length csec, .int .i64 o.rest] ∧ SB W (.slice av o.data.length cv) o.data ∧ SI W (.slice asec o.sec.length csec) o.sec ∧ OpD o y.1 := by
  obtain ⟨xs, m, _, rfl, hl, hxl, hf⟩ := DataW.trod_struct Try.underlying33 h
  rw [cellsOp] at hl
  obtain ⟨c0, c1, c2, c3, c4, c5, c6, rfl⟩ := list7 hl
  obtain ⟨y0, y1, y2, y3, y4, rfl⟩ := list5 hxl
  have h0 : DataW.trod enc Try.prog W 0 (fun _ => true) true m 3 (([c0, c1, c2, c3, c4, c5, c6].drop 0).take (Try.prog.cellsOf 3)) = some y0 := hf 0 _ rfl
  have h1 : DataW.trod enc Try.prog W 0 (fun _ => true) true m 3 (([c0, c1, c2, c3, c4, c5, c6].drop 1).take (Try.prog.cellsOf 3)) = some y1 := hf 1 _ rfl
  have h2 : DataW.trod enc Try.prog W 0 (fun _ => true) true m 3 (([c0, c1, c2, c3, c4, c5, c6].drop 2).take (Try.prog.cellsOf 3)) = some y2 := hf 2 _ rfl
  have h3 : DataW.trod enc Try.prog W 0 (fun _ => true) true m 22 (([c0, c1, c2, c3, c4, c5, c6].drop 3).take (Try.prog.cellsOf 22)) = some y3 := hf 3 _ rfl
  have h4 : DataW.trod enc Try.prog W 0 (fun _ => true) true m 26 (([c0, c1, c2, c3, c4, c5, c6].drop 4).take (Try.prog.cellsOf 26)) = some y4 := hf 4 _ rfl
  rw [show Try.prog.cellsOf 3 = 1 by kernel_rfl] at h0 h1 h2
  rw [show Try.prog.cellsOf 22 = 1 by kernel_rfl] at h3
  rw [show Try.prog.cellsOf 26 = 3 by kernel_rfl] at h4
  simp only [List.drop, List.take] at h0 h1 h2 h3 h4
  obtain ⟨k0, e0, _, _⟩ := DataW.trod_int Try.underlying3 h0
  obtain ⟨k1, e1, _, _⟩ := DataW.trod_int Try.underlying3 h1
  obtain ⟨k2, e2, _, _⟩ := DataW.trod_int Try.underlying3 h2
  simp at e0 e1 e2
  subst e0 e1 e2
  obtain ⟨av, cv, data, rfl, hd, ld⟩ := open_bytes_cell h3
  obtain ⟨zs, mm, _, hy4, _, hzl, hg⟩ := DataW.trod_struct Try.underlying26 h4
  obtain ⟨z0, z1, z2, rfl⟩ := list3 hzl
  have g0 : DataW.trod enc Try.prog W 0 (fun _ => true) true mm 3 (([c4, c5, c6].drop 0).take (Try.prog.cellsOf 3)) = some z0 := hg 0 _ rfl
  have g1 : DataW.trod enc Try.prog W 0 (fun _ => true) true mm 24 (([c4, c5, c6].drop 1).take (Try.prog.cellsOf 24)) = some z1 := hg 1 _ rfl
  have g2 : DataW.trod enc Try.prog W 0 (fun _ => true) true mm 3 (([c4, c5, c6].drop 2).take (Try.prog.cellsOf 3)) = some z2 := hg 2 _ rfl
  rw [show Try.prog.cellsOf 3 = 1 by kernel_rfl] at g0 g2
  rw [show Try.prog.cellsOf 24 = 1 by kernel_rfl] at g1
  simp only [List.drop, List.take] at g0 g1 g2
  obtain ⟨j0, f0, _, _⟩ := DataW.trod_int Try.underlying3 g0
  obtain ⟨j2, f2, _, _⟩ := DataW.trod_int Try.underlying3 g2
  simp at f0 f2
  subst f0 f2
  obtain ⟨asec, csec, sec, rfl, hs, ls⟩ := open_ints_cell g1
  refine ⟨⟨k0, k1, k2, data, j0, sec, j2⟩, av, cv, asec, csec, rfl, hd, hs, ?_⟩
  refine ⟨y0.1, y1.1, y2.1, y3.1, z0.1, z1.1, z2.1, ?_, ld, ls⟩
  rw [hy4]
  rfl

theorem open_ops {H : Type} {enc : TypeId × Value → H} {W : World} {ao : Option Addr} {len cap : Nat} {d : DataW H} {ps : List MemPlace}
    (h : DataW.Trod enc Try.prog W 0 (fun _ => true) true 23 (.slice ao len cap) d ps) :
    ∃ ops, SO W (.slice ao len cap) ops ∧ (ops = [] ∨ ∃ elems spare, d = .slice elems spare ∧ elems.length = ops.length ∧ ∀ (i : Nat) (o : OpP), ops[i]? = some o → ∃ x, elems[i]? = some x ∧ OpD o x) := by
  obtain ⟨fuel, hf⟩ := h
  rcases open_slice Try.underlying23 hf with ⟨hcs, _⟩ | ⟨a, ln, cp, m, n, D, Pl, hcs, _, hl, hm, hmm, hx, hel⟩
  · simp [Value.cells] at hcs
    obtain ⟨rfl, rfl, rfl⟩ := hcs
    exact ⟨[], ⟨none, 0, rfl, Nat.le_refl _, Nat.zero_le _, fun i o ho => by simp at ho⟩, .inl rfl⟩
  · simp [Value.cells] at hcs
    obtain ⟨rfl, rfl, rfl⟩ := hcs
    simp only [if_true] at hmm
    obtain ⟨ops, hlo, hops⟩ := exists_list (fun i (o : OpP) => (∃ b of av cv asec csec, (some a : Option Addr) = some ⟨b, of, none⟩ ∧ OpAt W b (of + i * 7) o av cv asec csec) ∧ OpD o (D i)) len (fun i hi => by
      obtain ⟨cs', hc, ht⟩ := hel i (by omega)
      obtain ⟨o, av, cv, asec, csec, rfl, hd, hs, hod⟩ := open_op ht
      rw [cellsOp] at hc
      obtain ⟨_, _, hcell⟩ := World.cells?_some hc
      have hab' : ∃ b' of', a = ⟨b', of', none⟩ := by
        obtain ⟨cs0, hc0, ht0⟩ := hel 0 (by omega)
        rw [cellsOp] at hc0
        obtain ⟨_, hl0, hcell0⟩ := World.cells?_some hc0
        have h0 := hcell0 0 (by omega)
        rw [List.getElem?_eq_getElem (show 0 < cs0.length by omega), show (a.add (0 * 7)).add 0 = a.add 0 by simp [Addr.add]] at h0
        exact addr_lit h0
      obtain ⟨b', of', rfl⟩ := hab'
      refine ⟨o, ⟨b', of', av, cv, asec, csec, rfl, ?_⟩, hod⟩
      have hc' : ∀ j, j < 7 → W.cell? ⟨b', of' + i * 7 + j, none⟩ = [Value.int .i64 o.kind, .int .i64 o.a, .int .i64 o.b, .slice av o.data.length cv, .int .i64 o.size, .slice asec o.sec.length csec, .int .i64 o.rest][j]? := fun j hj => by
        have := hcell j hj
        rw [Addr.add_lit, Addr.add_lit] at this
        exact this
      exact ⟨hc' 0 (by omega), hc' 1 (by omega), hc' 2 (by omega), hc' 3 (by omega), hc' 4 (by omega), hc' 5 (by omega), hc' 6 (by omega), hd, hs⟩)
    simp only [Prod.mk.injEq] at hx
    refine ⟨ops, ⟨some a, cap, by rw [hlo], by omega, hm, fun i o ho => (hops i o ho).1⟩, .inr ⟨_, _, hx.1, by simp [hlo], fun i o ho => ⟨D i, ?_, (hops i o ho).2⟩⟩⟩
    have : i < ops.length := (List.getElem?_eq_some_iff.1 ho).1
    simp [List.getElem?_range (show i < len by omega)]

theorem weights_all_mem {H : Type} {P : Program} {e : TypeId} : ∀ {elems : List (DataW H)} {i : Nat} {x : DataW H}, elems[i]? = some x → ∀ n ∈ x.weights P e, n ∈ DataW.weightsAll P e elems
  | y :: r, 0, x, h, n, hn => by
    simp at h
    subst h
    simp only [DataW.weightsAll, List.mem_append]
    exact .inl hn
  | y :: r, i + 1, x, h, n, hn => by
    simp only [DataW.weightsAll, List.mem_append]
    exact .inr (weights_all_mem (by simpa using h) n hn)
  | [], i, x, h, n, hn => by simp at h

structure OpsB (ops : List OpP) : Prop where
  len : ops.length ≤ 1599289640355
  data : ∀ o ∈ ops, o.data.length ≤ 140737488351232
  sec : ∀ o ∈ ops, o.sec.length ≤ 17592186043904

theorem reach_ops {H : Type} {ts : List TypeId} {ds : List (DataW H)} {j : Nat} {ops : List OpP} {d : DataW H} (h : (DataW.weightsEach Try.prog ts ds).all (· ≤ reachBytes) = true) (ht : ts[j]? = some 23) (hd : ds[j]? = some d)
    (hl : ops = [] ∨ ∃ elems spare, d = .slice elems spare ∧ elems.length = ops.length ∧ ∀ (i : Nat) (o : OpP), ops[i]? = some o → ∃ x, elems[i]? = some x ∧ OpD o x) : OpsB ops := by
  rcases hl with rfl | ⟨elems, spare, rfl, hlen, hel⟩
  · exact ⟨by simp, (fun o ho => by cases ho), (fun o ho => by cases ho)⟩
  · have hin : ∀ o ∈ ops, ∀ x3 y1 : DataW H, (∃ (i : Nat) (x0 x1 x2 y0 y2 : DataW H), elems[i]? = some (DataW.agg [x0, x1, x2, x3, DataW.agg [y0, y1, y2]])) → (∀ a b, x3 = .slice a b → a.length + b.length ≤ reachBytes) ∧ (∀ a b, y1 = .slice a b → (a.length + b.length) * 8 ≤ reachBytes) := by
      intro o ho x3 y1 ⟨i, x0, x1, x2, y0, y2, he⟩
      refine ⟨fun a b hab => ?_, fun a b hab => ?_⟩
      · subst hab
        have := List.all_eq_true.1 h _ (DataW.weights_mem_each ht hd ((a.length + b.length) * Try.prog.bytesOf 5) (by
          simp only [DataW.weights, Try.underlying23, List.mem_cons, List.mem_append]
          exact .inr (.inl (weights_all_mem he _ (by simp [DataW.weights, DataW.weightsEach, Try.underlying33, Try.underlying22])))))
        rw [bytesByte] at this
        have h2 := of_decide_eq_true this
        omega
      · subst hab
        have := List.all_eq_true.1 h _ (DataW.weights_mem_each ht hd ((a.length + b.length) * Try.prog.bytesOf 3) (by
          simp only [DataW.weights, Try.underlying23, List.mem_cons, List.mem_append]
          exact .inr (.inl (weights_all_mem he _ (by simp [DataW.weights, DataW.weightsEach, Try.underlying33, Try.underlying26, Try.underlying24])))))
        rw [bytesInt] at this
        exact of_decide_eq_true this
    refine ⟨?_, fun o ho => ?_, fun o ho => ?_⟩
    · have := sized_slice h ht hd Try.underlying23
      rw [bytesOp] at this
      simp only [reachBytes] at this
      omega
    · obtain ⟨i, hi⟩ := List.mem_iff_getElem?.1 ho
      obtain ⟨x, hx, x0, x1, x2, x3, y0, y1, y2, rfl, l1, l2⟩ := hel i o hi
      have hh := hin o ho x3 y1 ⟨i, x0, x1, x2, y0, y2, hx⟩
      rcases l1 with e | ⟨a, b, e, l1⟩
      · rw [e]; simp
      · have := hh.1 a b e
        simp only [reachBytes] at this
        omega
    · obtain ⟨i, hi⟩ := List.mem_iff_getElem?.1 ho
      obtain ⟨x, hx, x0, x1, x2, x3, y0, y1, y2, rfl, l1, l2⟩ := hel i o hi
      have hh := hin o ho x3 y1 ⟨i, x0, x1, x2, y0, y2, hx⟩
      rcases l2 with e | ⟨a, b, e, l2⟩
      · rw [e]; simp
      · have := hh.2 a b e
        simp only [reachBytes] at this
        omega
end Go.Proofs.Yteiajeeincapoac
