import Derived.Test.YtfoglaajnlbnbaaGreatDoorG46Ptm
import Derived.Test.YtfoglaajnlbnbaaGreatDoorG05Pks
namespace Go.Proofs.YtfoglaajnlbnbaaGreatDoor
open Go.ChangeShapes Go.WideShapes Go.ChangeAt Go.RowKit Go.Joins Go.Deep
set_option maxRecDepth 20000
set_option linter.unusedVariables false

theorem cellsPart : Tryz.prog.cellsOf 25 = 2 := by kernel_rfl

theorem list2p {α : Type} {l : List α} (h : l.length = 2) : ∃ a b, l = [a, b] := by
  match l, h with
  | [a, b], _ => exact ⟨a, b, rfl⟩

def PDat {H : Type} (W : World) (o : Pt) (d : DataW H) : Prop := SK W o.1 o.2.1 ∧ (∀ t ∈ o.2.1, Bt t) ∧ o.1.oneCell' = true ∧ (o.2.1 = [] ∨ ∃ x1 es ss, d = .agg [.slice es ss, x1] ∧ es.length = o.2.1.length)

theorem slice_cell {W : World} {H : Type} {enc : TypeId × Value → H} {m : Nat} {c : Value} {y : DataW H × List MemPlace} (h : DataW.trod enc Tryz.prog W 0 (fun _ => true) true m 23 [c] = some y) : ∃ ao len cap, c = .slice ao len cap := by
  rcases open_slice Tryz.underlying23 h with ⟨hcs, _⟩ | ⟨a, ln, cp, m, n, D, Pl, hcs, _⟩
  · simp at hcs; exact ⟨_, _, _, hcs⟩
  · simp at hcs; exact ⟨_, _, _, hcs⟩

theorem open_part {H : Type} {enc : TypeId × Value → H} {W : World} {n : Nat} {cs : List Value} {y : DataW H × List MemPlace} (h : DataW.trod enc Tryz.prog W 0 (fun _ => true) true n 25 cs = some y) :
    ∃ o : Pt, cs = [o.1, .int .i64 o.2.2] ∧ PDat W o y.1 := by
  obtain ⟨xs, m, _, rfl, hl, hxl, hf⟩ := DataW.trod_struct Tryz.underlying25 h
  rw [cellsPart] at hl
  obtain ⟨c0, c1, rfl⟩ := list2p hl
  obtain ⟨y0, y1, rfl⟩ := list2p hxl
  have h0 : DataW.trod enc Tryz.prog W 0 (fun _ => true) true m 23 (([c0, c1].drop 0).take (Tryz.prog.cellsOf 23)) = some y0 := hf 0 _ rfl
  have h1 : DataW.trod enc Tryz.prog W 0 (fun _ => true) true m 3 (([c0, c1].drop 1).take (Tryz.prog.cellsOf 3)) = some y1 := hf 1 _ rfl
  rw [show Tryz.prog.cellsOf 23 = 1 by kernel_rfl] at h0
  rw [show Tryz.prog.cellsOf 3 = 1 by kernel_rfl] at h1
  simp only [List.drop, List.take] at h0 h1
  obtain ⟨k1, e1, _, _⟩ := DataW.trod_int Tryz.underlying3 h1
  obtain ⟨ao, len, cap, rfl⟩ := slice_cell h0
  obtain ⟨R, hR, hB, hL⟩ := open_toks (d := y0.1) (ps := y0.2) ⟨m, h0⟩
  simp at e1
  subst e1
  refine ⟨(.slice ao len cap, R, k1), rfl, hR, hB, rfl, ?_⟩
  rcases hL with hL | ⟨es, ss, he, hle⟩
  · exact .inl hL
  · exact .inr ⟨y1.1, es, ss, by rw [← he]; rfl, hle⟩

theorem open_parts {H : Type} {enc : TypeId × Value → H} {W : World} {ao : Option Addr} {len cap : Nat} {d : DataW H} {ps : List MemPlace}
    (h : DataW.Trod enc Tryz.prog W 0 (fun _ => true) true 22 (.slice ao len cap) d ps) :
    ∃ ops : List Pt, SG W 2 (.slice ao len cap) ops.length (flP ops) ∧ (ops = [] ∨ ∃ elems spare, d = .slice elems spare ∧ ∀ (i : Nat) (o : Pt), ops[i]? = some o → ∃ x, elems[i]? = some x ∧ PDat W o x) := by
  obtain ⟨fuel, hf⟩ := h
  rcases open_slice Tryz.underlying22 hf with ⟨hcs, _⟩ | ⟨a, ln, cp, m, n, D, Pl, hcs, _, hl, hm, hmm, hx, hel⟩
  · simp [Value.cells] at hcs
    obtain ⟨rfl, rfl, rfl⟩ := hcs
    exact ⟨[], .inr ⟨0, rfl, rfl, rfl⟩, .inl rfl⟩
  · simp [Value.cells] at hcs
    obtain ⟨rfl, rfl, rfl⟩ := hcs
    simp only [if_true] at hmm
    obtain ⟨ops, hlo, hops⟩ := exists_list (fun i (o : Pt) => (W.cell? (a.add (i * 2)) = some o.1 ∧ W.cell? (a.add (i * 2 + 1)) = some (.int .i64 o.2.2)) ∧ PDat W o (D i)) len (fun i hi => by
      obtain ⟨cs', hc, ht⟩ := hel i (by omega)
      obtain ⟨o, rfl, hd⟩ := open_part ht
      rw [cellsPart] at hc
      obtain ⟨_, _, hcell⟩ := World.cells?_some hc
      have hab' : ∃ b' of', a = ⟨b', of', none⟩ := by
        obtain ⟨cs0, hc0, ht0⟩ := hel 0 (by omega)
        rw [cellsPart] at hc0
        obtain ⟨_, hl0, hcell0⟩ := World.cells?_some hc0
        have h0 := hcell0 0 (by omega)
        rw [List.getElem?_eq_getElem (show 0 < cs0.length by omega), show (a.add (0 * 2)).add 0 = a.add 0 by simp [Addr.add]] at h0
        exact addr_lit h0
      obtain ⟨b', of', rfl⟩ := hab'
      have hc' : ∀ j, j < 2 → W.cell? ⟨b', of' + i * 2 + j, none⟩ = [o.1, Value.int .i64 o.2.2][j]? := fun j hj => by
        have := hcell j hj
        rw [Addr.add_lit, Addr.add_lit] at this
        exact this
      exact ⟨o, ⟨by rw [Addr.add_lit]; exact hc' 0 (by omega), by rw [Addr.add_lit]; exact hc' 1 (by omega)⟩, hd⟩)
    simp only [Prod.mk.injEq] at hx
    refine ⟨ops, .inl ⟨a, cap, by rw [hlo], flP_len ops, fun j u hu => ?_, fun u hu => ?_⟩, .inr ⟨_, _, hx.1, fun i o ho => ⟨D i, ?_, (hops i o ho).2⟩⟩⟩
    · have hj : j < ops.length * 2 := by rw [← flP_len ops]; exact (List.getElem?_eq_some_iff.1 hu).1
      have hi : j / 2 < ops.length := by omega
      obtain ⟨⟨q1, q2⟩, -⟩ := hops (j / 2) ops[j / 2] (List.getElem?_eq_getElem hi)
      obtain ⟨f1, f2⟩ := flP_get (List.getElem?_eq_getElem hi)
      have hm : j = j / 2 * 2 ∨ j = j / 2 * 2 + 1 := by omega
      rcases hm with e | e
      · rw [e] at hu ⊢; rw [f1] at hu; cases hu; exact q1
      · rw [e] at hu ⊢; rw [f2] at hu; cases hu; exact q2
    · unfold flP csP at hu
      obtain ⟨p, hp, hq⟩ := List.mem_flatMap.1 hu
      obtain ⟨i, hi⟩ := List.mem_iff_getElem?.1 hp
      have := (hops i p hi).2.2.2.1
      simp at hq
      rcases hq with rfl | rfl
      · exact this
      · rfl
    · have : i < ops.length := (List.getElem?_eq_some_iff.1 ho).1
      simp [List.getElem?_range (show i < len by omega)]

theorem weights_allP {H : Type} {e : TypeId} {x : DataW H} : ∀ {l : List (DataW H)}, x ∈ l → ∀ n ∈ x.weights Tryz.prog e, n ∈ DataW.weightsAll Tryz.prog e l
  | y :: r, h, n, hn => by
    rw [DataW.weightsAll]
    rcases List.mem_cons.1 h with rfl | h
    · exact List.mem_append_left _ hn
    · exact List.mem_append_right _ (weights_allP h n hn)

theorem reach_parts {H : Type} {W : World} {ts : List TypeId} {ds : List (DataW H)} {j : Nat} {v : Value} {ops : List Pt} {d : DataW H} (h : (DataW.weightsEach Tryz.prog ts ds).all (· ≤ reachBytes) = true) (ht : ts[j]? = some 22) (hd : ds[j]? = some d) (hs : SG W 2 v ops.length (flP ops))
    (hl : ops = [] ∨ ∃ elems spare, d = .slice elems spare ∧ ∀ (i : Nat) (o : Pt), ops[i]? = some o → ∃ x, elems[i]? = some x ∧ PDat W o x) : SP W v ops := by
  refine ⟨hs, ?_⟩
  rcases hl with rfl | ⟨elems, spare, rfl, hel⟩
  · intro o ho; cases ho
  · intro o ho
    obtain ⟨i, hi⟩ := List.mem_iff_getElem?.1 ho
    obtain ⟨x, hx, hv, hb, -, hw⟩ := hel i o hi
    refine ⟨hv, hb, ?_⟩
    rcases hw with hw | ⟨x1, es, ss, rfl, hle⟩
    · rw [hw]; exact Nat.zero_le _
    · have m1 : (es.length + ss.length) * Tryz.prog.bytesOf 54 ∈ (DataW.slice es ss).weights Tryz.prog 23 := by
        rw [DataW.weights, Tryz.underlying23]
        exact List.mem_cons_self
      have m2 : (es.length + ss.length) * Tryz.prog.bytesOf 54 ∈ (DataW.agg [.slice es ss, x1]).weights Tryz.prog 25 := by
        rw [DataW.weights, Tryz.underlying25]
        exact DataW.weights_mem_each (j := 0) (t := 23) (d := .slice es ss) rfl rfl _ m1
      have m3 : (es.length + ss.length) * Tryz.prog.bytesOf 54 ∈ (DataW.slice elems spare).weights Tryz.prog 22 := by
        rw [DataW.weights, Tryz.underlying22]
        exact List.mem_cons_of_mem _ (List.mem_append_left _ (weights_allP (List.mem_of_getElem? hx) _ m2))
      have m4 := List.all_eq_true.1 h _ (DataW.weights_mem_each ht hd _ m3)
      have m5 : (es.length + ss.length) * Tryz.prog.bytesOf 54 ≤ reachBytes := by simpa using m4
      rw [bytesTok] at m5
      simp only [reachBytes] at m5
      omega
end Go.Proofs.YtfoglaajnlbnbaaGreatDoor

