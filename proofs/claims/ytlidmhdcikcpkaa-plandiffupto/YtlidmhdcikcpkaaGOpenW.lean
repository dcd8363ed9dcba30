import Derived.Test.YtlidmhdcikcpkaaGWcp
import Derived.Lib.SmallJoins
import Derived.Deep.Slices
import Derived.SizedLaws
namespace Go.Proofs.Ytlidmhdcikcpkaa
open Go.ChangeShapes Go.WideShapes Go.ChangeAt Go.RowKit Go.Joins Go.Deep
set_option maxRecDepth 20000
set_option linter.unusedVariables false
set_option linter.unusedSimpArgs false

theorem own : ownKnob Try.prog.godebug = none := by kernel_rfl
theorem laidOut : laidOutB Try.prog = true := by kernel_rfl
def Ok64 (n : Int) : Prop := -9223372036854775808 ≤ n ∧ n ≤ 9223372036854775807
theorem i64_in {n : Int} (h : (Lit.int .i64 n).wf = true) : Ok64 n := by
  simp [Lit.wf, IntKind.min, IntKind.max, IntKind.signed, IntKind.bits] at h
  unfold Ok64
  omega

theorem exists_list {α : Type} (P : Nat → α → Prop) : ∀ n, (∀ i, i < n → ∃ a, P i a) → ∃ l : List α, l.length = n ∧ ∀ i a, l[i]? = some a → P i a
  | 0, _ => ⟨[], rfl, fun i a h => by simp at h⟩
  | n + 1, h => by
    obtain ⟨l, hl, hp⟩ := exists_list P n fun i hi => h i (by omega)
    obtain ⟨a, ha⟩ := h n (by omega)
    refine ⟨l ++ [a], by simp [hl], fun i x hx => ?_⟩
    by_cases hi : i < l.length
    · rw [List.getElem?_append_left hi] at hx
      exact hp i x hx
    · rw [List.getElem?_append_right (by omega)] at hx
      have : i - l.length = 0 := by
        by_cases e : i - l.length = 0
        · exact e
        · rw [List.getElem?_eq_none (by simp; omega)] at hx; cases hx
      rw [this] at hx
      simp at hx
      rw [← hx, show i = n by omega]
      exact ha

def Lens (l : List Int) {H : Type} (d : DataW H) : Prop := l = [] ∨ ∃ elems spare, d = .slice elems spare ∧ l.length ≤ elems.length + spare.length

theorem byte_wf {n : Int} (h : (Lit.int .u8 n).wf = true) : 0 ≤ n ∧ n < 256 := by
  simp [Lit.wf, IntKind.min, IntKind.max, IntKind.signed, IntKind.bits] at h
  omega
def Byt (l : List Int) : Prop := ∀ i, 0 ≤ l.getD i 0 ∧ l.getD i 0 < 256

theorem open_bytes_cell {H : Type} {enc : TypeId × Value → H} {W : World} {n : Nat} {v : Value} {y : DataW H × List MemPlace} (h : DataW.trod enc Try.prog W 0 (fun _ => true) true n 34 [v] = some y) :
    ∃ a c l, v = .slice a l.length c ∧ SB W (.slice a l.length c) l ∧ Byt l ∧ Lens l y.1 := by
  rcases open_ints Try.underlying34 Try.underlying5 (by kernel_rfl) h with ⟨hcs, hx⟩ | ⟨x, ll, c, zs, hcs, _, hl, hm, hz, hx, hcell, hwz⟩
  · simp at hcs
    subst hcs
    exact ⟨none, 0, [], rfl, ⟨none, 0, rfl, Nat.le_refl _, Nat.zero_le _, fun _ => rfl, fun x hx => by cases hx⟩, (fun i => by simp), .inl rfl⟩
  · simp at hcs
    subst hcs
    simp only [if_true] at hz
    have e : (zs.take ll).length = ll := by rw [List.length_take]; omega
    subst hx
    refine ⟨some x, c, zs.take ll, by rw [e], ⟨some x, c, rfl, by omega, hm, (fun h => by cases h), fun y hy i hi => ?_⟩, fun i => ?_, .inr ⟨_, _, rfl, ?_⟩⟩
    · cases hy
      rw [e] at hi
      rw [hcell i (by omega)]
      simp [List.getD, hi]
    · by_cases hi : i < (zs.take ll).length
      · rw [List.getD, List.getElem?_eq_getElem hi]
        exact byte_wf (hwz _ (List.mem_of_mem_take (List.getElem_mem hi)))
      · have : (zs.take ll).getD i 0 = 0 := by simp only [List.getD, List.getElem?_eq_none (Nat.le_of_not_lt hi)]; rfl
        rw [this]; decide
    · simp [lits]

theorem cellsWr : Try.prog.cellsOf 41 = 2 := by kernel_rfl

theorem list2x {α : Type} {l : List α} (h : l.length = 2) : ∃ a b, l = [a, b] := by
  match l, h with
  | [a, b], _ => exact ⟨a, b, rfl⟩

def WrD (e : We) {H : Type} (d : DataW H) : Prop := ∃ x0 x1, d = .agg [x0, x1] ∧ Lens e.l x1

theorem open_wrC {H : Type} {enc : TypeId × Value → H} {W : World} {n : Nat} {cs : List Value} {y : DataW H × List MemPlace} (h : DataW.trod enc Try.prog W 0 (fun _ => true) true n 41 cs = some y) :
    ∃ e : We, cs = e.cs.toList ∧ Ok64 e.at' ∧ SB W e.dv e.l ∧ Byt e.l ∧ WrD e y.1 := by
  obtain ⟨xs, m, _, rfl, hl, hxl, hf⟩ := DataW.trod_struct Try.underlying41 h
  rw [cellsWr] at hl
  obtain ⟨c0, c1, rfl⟩ := list2x hl
  obtain ⟨y0, y1, rfl⟩ := list2x hxl
  have h0 : DataW.trod enc Try.prog W 0 (fun _ => true) true m 3 (([c0, c1].drop 0).take (Try.prog.cellsOf 3)) = some y0 := hf 0 _ rfl
  have h1 : DataW.trod enc Try.prog W 0 (fun _ => true) true m 34 (([c0, c1].drop 1).take (Try.prog.cellsOf 34)) = some y1 := hf 1 _ rfl
  rw [show Try.prog.cellsOf 3 = 1 by kernel_rfl] at h0
  rw [show Try.prog.cellsOf 34 = 1 by kernel_rfl] at h1
  simp only [List.drop, List.take] at h0 h1
  obtain ⟨k0, e0, _, q0⟩ := DataW.trod_int Try.underlying3 h0
  simp at e0
  subst e0
  obtain ⟨av, cv, data, rfl, hd, hby, ld⟩ := open_bytes_cell h1
  exact ⟨⟨k0, .slice av data.length cv, data⟩, rfl, i64_in q0, hd, hby, y0.1, y1.1, rfl, ld⟩

/-- A list of writes that is handed in. -/
theorem open_writes {H : Type} {enc : TypeId × Value → H} {W : World} {ao : Option Addr} {len cap : Nat} {d : DataW H} {ps : List MemPlace}
    (h : DataW.Trod enc Try.prog W 0 (fun _ => true) true 36 (.slice ao len cap) d ps) : ∃ R : List We, SW W (.slice ao len cap) R ∧ ((∀ e ∈ R, Ok64 e.at' ∧ Byt e.l) ∧ (R = [] ∨ ∃ elems spare, d = .slice elems spare ∧ elems.length = R.length ∧ ∀ (i : Nat) (e : We), R[i]? = some e → ∃ x, elems[i]? = some x ∧ WrD e x)) := by
  obtain ⟨fuel, hf⟩ := h
  rcases open_slice Try.underlying36 hf with ⟨hcs, _⟩ | ⟨a, ln, cp, m, n, D, Pl, hcs, _, hl, hm, hmm, hx, hel⟩
  · simp [Value.cells] at hcs
    obtain ⟨rfl, rfl, rfl⟩ := hcs
    exact ⟨[], ⟨⟨none, 0, rfl, Nat.le_refl _, Nat.zero_le _, fun h => absurd h (by simp)⟩, fun e he => by simp at he⟩, (fun e he => by simp at he), Or.inl rfl⟩
  · simp [Value.cells] at hcs
    obtain ⟨rfl, rfl, rfl⟩ := hcs
    simp only [if_true] at hmm
    unfold maxLen at hm
    by_cases h0 : len = 0
    · subst h0
      exact ⟨[], ⟨⟨some a, cap, rfl, Nat.zero_le _, hm, fun h => absurd h (by simp)⟩, fun e he => by simp at he⟩, (fun e he => by simp at he), Or.inl rfl⟩
    have hab' : ∃ b' of', a = ⟨b', of', none⟩ ∧ b' < W.heap.size := by
      obtain ⟨cs0, hc0, ht0⟩ := hel 0 (by omega)
      rw [cellsWr] at hc0
      obtain ⟨_, hl0, hcell0⟩ := World.cells?_some hc0
      have h0 := hcell0 0 (by omega)
      rw [List.getElem?_eq_getElem (show 0 < cs0.length by omega), show (a.add (0 * 2)).add 0 = a.add 0 by simp [Addr.add]] at h0
      obtain ⟨b', of', rfl⟩ := addr_lit h0
      refine ⟨b', of', rfl, ?_⟩
      have := World.block_lt_of_cell? _ _ h0
      rw [Addr.add_lit] at this
      exact this
    obtain ⟨b', of', rfl, hbl⟩ := hab'
    obtain ⟨R, hlo, hR⟩ := exists_list (fun i (e : We) => W.rangeAt b' (of' + i * 2) e.cs.toList ∧ Ok64 e.at' ∧ SB W e.dv e.l ∧ Byt e.l ∧ WrD e (D i)) len (fun i hi => by
      obtain ⟨cs', hc, ht⟩ := hel i (by omega)
      obtain ⟨l, rfl, hd⟩ := open_wrC ht
      rw [cellsWr] at hc
      obtain ⟨_, _, hcell⟩ := World.cells?_some hc
      refine ⟨l, fun j u hu => ?_, hd⟩
      have hj : j < 2 := (List.getElem?_eq_some_iff.1 hu).1
      have := hcell j hj
      rw [Addr.add_lit, Addr.add_lit] at this
      rw [this]
      exact hu)
    simp only [Prod.mk.injEq] at hx
    refine ⟨R, ⟨⟨some ⟨b', of', none⟩, cap, by rw [List.length_map, hlo], by rw [List.length_map]; omega, hm, fun _ => ⟨b', of', rfl, hbl, fun i hi => ?_⟩⟩, fun e he => ?_⟩, fun e he => ?_, .inr ⟨_, _, hx.1, by simp [hlo], fun i e he => ⟨D i, ?_, (hR i e he).2.2.2.2⟩⟩⟩
    · rw [List.length_map] at hi
      have := (hR i R[i] (by simp [hi])).1
      simpa [List.getD, hi] using this
    · obtain ⟨i, hi, rfl⟩ := List.getElem_of_mem he
      exact (hR i _ (by simp [hi])).2.2.1
    · obtain ⟨i, hi, rfl⟩ := List.getElem_of_mem he
      exact ⟨(hR i _ (by simp [hi])).2.1, (hR i _ (by simp [hi])).2.2.2.1⟩
    · have : i < R.length := (List.getElem?_eq_some_iff.1 he).1
      simp [List.getElem?_range (show i < len by omega)]

theorem bytesWr : Try.prog.bytesOf 41 = 32 := by kernel_rfl
theorem bytesBy : Try.prog.bytesOf 5 = 1 := by kernel_rfl
theorem all_mem {H : Type} {e : TypeId} {x : DataW H} {n : Nat} : ∀ {l : List (DataW H)}, x ∈ l → n ∈ x.weights Try.prog e → n ∈ DataW.weightsAll Try.prog e l
  | y :: r, h, hn => by
    rw [DataW.weightsAll]
    rcases List.mem_cons.1 h with q | q
    · rw [← q]; exact List.mem_append_left _ hn
    · exact List.mem_append_right _ (all_mem q hn)
theorem reach_writes {H : Type} {ts : List TypeId} {ds : List (DataW H)} {j : Nat} {R : List We} {d : DataW H} (h : (DataW.weightsEach Try.prog ts ds).all (· ≤ reachBytes) = true) (ht : ts[j]? = some 36) (hd : ds[j]? = some d)
    (hl : (∀ e ∈ R, Ok64 e.at' ∧ Byt e.l) ∧ (R = [] ∨ ∃ elems spare, d = .slice elems spare ∧ elems.length = R.length ∧ ∀ (i : Nat) (e : We), R[i]? = some e → ∃ x, elems[i]? = some x ∧ WrD e x)) : sml R := by
  rcases hl.2 with rfl | ⟨elems, spare, rfl, hlen, hel⟩
  · exact ⟨Nat.zero_le _, fun o ho => by cases ho⟩
  · have h1 := sized_slice h ht hd Try.underlying36
    rw [bytesWr] at h1
    simp only [reachBytes] at h1
    refine ⟨by omega, fun e he => ?_⟩
    obtain ⟨i, hi⟩ := List.mem_iff_getElem?.1 he
    obtain ⟨x, hx, x0, x1, rfl, hL⟩ := hel i e hi
    rcases hL with hL | ⟨es, sp, rfl, hL⟩
    · rw [hL]; exact Nat.zero_le _
    · have m0 : (es.length + sp.length) * 1 ∈ (DataW.slice es sp : DataW H).weights Try.prog 34 := by
        rw [DataW.weights, Try.underlying34]
        simp only [bytesBy]
        exact List.mem_cons_self ..
      have m1 : (es.length + sp.length) * 1 ∈ (DataW.agg [x0, .slice es sp] : DataW H).weights Try.prog 41 := by
        rw [DataW.weights, Try.underlying41]
        exact DataW.weights_mem_each (j := 1) (t := 34) (d := .slice es sp) rfl rfl _ m0
      have m2 : (es.length + sp.length) * 1 ∈ (DataW.slice elems spare : DataW H).weights Try.prog 36 := by
        rw [DataW.weights, Try.underlying36]
        exact List.mem_cons_of_mem _ (List.mem_append_left _ (all_mem (List.mem_of_getElem? hx) m1))
      have m3 := of_decide_eq_true (List.all_eq_true.1 h _ (DataW.weights_mem_each ht hd _ m2))
      simp only [reachBytes] at m3
      omega
theorem reach_bytes {H : Type} {ts : List TypeId} {ds : List (DataW H)} {j : Nat} {l : List Int} {d : DataW H} (h : (DataW.weightsEach Try.prog ts ds).all (· ≤ reachBytes) = true) (ht : ts[j]? = some 34) (hd : ds[j]? = some d) (hl : Lens l d) : l.length ≤ 140737488351232 := by
  rcases hl with rfl | ⟨es, sp, rfl, hL⟩
  · exact Nat.zero_le _
  · have h1 := sized_slice h ht hd Try.underlying34
    rw [bytesBy] at h1
    simp only [reachBytes] at h1
    omega

theorem open_bytes {H : Type} {enc : TypeId × Value → H} {W : World} {ao : Option Addr} {len cap : Nat} {d : DataW H} {ps : List MemPlace}
    (h : DataW.Trod enc Try.prog W 0 (fun _ => true) true 34 (.slice ao len cap) d ps) : ∃ l, SB W (.slice ao len cap) l ∧ Byt l ∧ Lens l d := by
  obtain ⟨fuel, hf⟩ := h
  obtain ⟨a, c, l, hv, hs, hb, hl⟩ := open_bytes_cell hf
  rw [hv]
  exact ⟨l, hs, hb, hl⟩
end Go.Proofs.Ytlidmhdcikcpkaa

