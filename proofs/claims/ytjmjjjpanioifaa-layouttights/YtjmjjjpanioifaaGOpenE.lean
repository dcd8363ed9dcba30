import Derived.Test.YtjmjjjpanioifaaGEnt
import Derived.Test.YtjmjjjpanioifaaGOpenR
namespace Go.Proofs.Ytjmjjjpanioifaa
open Go.ChangeShapes Go.WideShapes Go.ChangeAt Go.RowKit Go.Joins Go.Deep
set_option maxRecDepth 20000
set_option linter.unusedVariables false
set_option linter.unusedSimpArgs false

theorem cellsEntry : Try.prog.cellsOf 30 = 20 := by kernel_rfl
theorem bytesEntry : Try.prog.bytesOf 30 = 192 := by kernel_rfl

theorem list20 {α : Type} {l : List α} (h : l.length = 20) : ∃ a0 a1 a2 a3 a4 a5 a6 a7 a8 a9 a10 a11 a12 a13 a14 a15 a16 a17 a18 a19, l = [a0, a1, a2, a3, a4, a5, a6, a7, a8, a9, a10, a11, a12, a13, a14, a15, a16, a17, a18, a19] := by
  match l, h with
  | [a0, a1, a2, a3, a4, a5, a6, a7, a8, a9, a10, a11, a12, a13, a14, a15, a16, a17, a18, a19], _ => exact ⟨a0, a1, a2, a3, a4, a5, a6, a7, a8, a9, a10, a11, a12, a13, a14, a15, a16, a17, a18, a19, rfl⟩

theorem list5 {α : Type} {l : List α} (h : l.length = 5) : ∃ a b c d e, l = [a, b, c, d, e] := by
  match l, h with
  | [a, b, c, d, e], _ => exact ⟨a, b, c, d, e, rfl⟩

structure EntO (e : Ent) : Prop where
  frm : Ok64 e.frm
  dat : Ok64 e.dat
  til : Ok64 e.til

theorem open_entC {H : Type} {enc : TypeId × Value → H} {W : World} {n : Nat} {cs : List Value} {y : DataW H × List MemPlace} (h : DataW.trod enc Try.prog W 0 (fun _ => true) true n 30 cs = some y) :
    ∃ l : Ent, cs = l.cs.toList ∧ EntO l := by
  obtain ⟨xs, m, _, rfl, hl, hxl, hf⟩ := DataW.trod_struct Try.underlying30 h
  rw [cellsEntry] at hl
  obtain ⟨c0, c1, c2, c3, c4, c5, c6, c7, c8, c9, c10, c11, c12, c13, c14, c15, c16, c17, c18, c19, rfl⟩ := list20 hl
  obtain ⟨y0, y1, y2, y3, y4, rfl⟩ := list5 hxl
  have h0 : DataW.trod enc Try.prog W 0 (fun _ => true) true m 28 (([c0, c1, c2, c3, c4, c5, c6, c7, c8, c9, c10, c11, c12, c13, c14, c15, c16, c17, c18, c19].drop 0).take (Try.prog.cellsOf 28)) = some y0 := hf 0 _ rfl
  have h1 : DataW.trod enc Try.prog W 0 (fun _ => true) true m 9 (([c0, c1, c2, c3, c4, c5, c6, c7, c8, c9, c10, c11, c12, c13, c14, c15, c16, c17, c18, c19].drop 16).take (Try.prog.cellsOf 9)) = some y1 := hf 1 _ rfl
  have h2 : DataW.trod enc Try.prog W 0 (fun _ => true) true m 3 (([c0, c1, c2, c3, c4, c5, c6, c7, c8, c9, c10, c11, c12, c13, c14, c15, c16, c17, c18, c19].drop 17).take (Try.prog.cellsOf 3)) = some y2 := hf 2 _ rfl
  have h3 : DataW.trod enc Try.prog W 0 (fun _ => true) true m 3 (([c0, c1, c2, c3, c4, c5, c6, c7, c8, c9, c10, c11, c12, c13, c14, c15, c16, c17, c18, c19].drop 18).take (Try.prog.cellsOf 3)) = some y3 := hf 3 _ rfl
  have h4 : DataW.trod enc Try.prog W 0 (fun _ => true) true m 3 (([c0, c1, c2, c3, c4, c5, c6, c7, c8, c9, c10, c11, c12, c13, c14, c15, c16, c17, c18, c19].drop 19).take (Try.prog.cellsOf 3)) = some y4 := hf 4 _ rfl
  rw [cellsCentral] at h0
  rw [show Try.prog.cellsOf 3 = 1 by kernel_rfl] at h2 h3 h4
  rw [show Try.prog.cellsOf 9 = 1 by kernel_rfl] at h1
  simp only [List.drop, List.take] at h0 h1 h2 h3 h4
  obtain ⟨k1, e1, q1, _⟩ := DataW.trod_string Try.underlying9 h1
  obtain ⟨k2, e2, _, q2⟩ := DataW.trod_int Try.underlying3 h2
  obtain ⟨k3, e3, _, q3⟩ := DataW.trod_int Try.underlying3 h3
  obtain ⟨k4, e4, _, q4⟩ := DataW.trod_int Try.underlying3 h4
  obtain ⟨lc, hlc, hld⟩ := open_centralC h0
  simp at e1 e2 e3 e4
  subst e1 e2 e3 e4
  obtain ⟨⟨l0, l1, l2, l3, l4, l5, l6, l7, l8, l9⟩, l10, l11, l12, l13, l14, l15⟩ := lc
  simp only [Cen.cs, List.cons.injEq, and_true] at hlc
  obtain ⟨rfl, rfl, rfl, rfl, rfl, rfl, rfl, rfl, rfl, rfl, rfl, rfl, rfl, rfl, rfl, rfl⟩ := hlc
  exact ⟨⟨⟨⟨l0, l1, l2, l3, l4, l5, l6, l7, l8, l9⟩, l10, l11, l12, l13, l14, l15⟩, k1, k2, k3, k4⟩, rfl, i64_in q2, i64_in q3, i64_in q4⟩

/-- A list of entries that is handed in. -/
theorem open_entries {H : Type} {enc : TypeId × Value → H} {W : World} {ao : Option Addr} {len cap : Nat} {d : DataW H} {ps : List MemPlace}
    (h : DataW.Trod enc Try.prog W 0 (fun _ => true) true 22 (.slice ao len cap) d ps) : ∃ R : List Ent, SR 20 W (.slice ao len cap) (R.map Ent.cs) ∧ ((∀ l ∈ R, EntO l) ∧ (R = [] ∨ ∃ elems spare, d = .slice elems spare ∧ elems.length = R.length)) := by
  obtain ⟨fuel, hf⟩ := h
  rcases open_slice Try.underlying22 hf with ⟨hcs, _⟩ | ⟨a, ln, cp, m, n, D, Pl, hcs, _, hl, hm, hmm, hx, hel⟩
  · simp [Value.cells] at hcs
    obtain ⟨rfl, rfl, rfl⟩ := hcs
    exact ⟨[], ⟨none, 0, rfl, Nat.le_refl _, Nat.zero_le _, fun h => absurd h (by simp)⟩, (fun (l : Ent) (hl : l ∈ ([] : List Ent)) => absurd hl (by simp)), Or.inl rfl⟩
  · simp [Value.cells] at hcs
    obtain ⟨rfl, rfl, rfl⟩ := hcs
    simp only [if_true] at hmm
    unfold maxLen at hm
    by_cases h0 : len = 0
    · subst h0
      exact ⟨[], ⟨some a, cap, rfl, Nat.zero_le _, hm, fun h => absurd h (by simp)⟩, (fun (l : Ent) (hl : l ∈ ([] : List Ent)) => absurd hl (by simp)), Or.inl rfl⟩
    have hab' : ∃ b' of', a = ⟨b', of', none⟩ ∧ b' < W.heap.size := by
      obtain ⟨cs0, hc0, ht0⟩ := hel 0 (by omega)
      rw [cellsEntry] at hc0
      obtain ⟨_, hl0, hcell0⟩ := World.cells?_some hc0
      have h0 := hcell0 0 (by omega)
      rw [List.getElem?_eq_getElem (show 0 < cs0.length by omega), show (a.add (0 * 20)).add 0 = a.add 0 by simp [Addr.add]] at h0
      obtain ⟨b', of', rfl⟩ := addr_lit h0
      refine ⟨b', of', rfl, ?_⟩
      have := World.block_lt_of_cell? _ _ h0
      rw [Addr.add_lit] at this
      exact this
    obtain ⟨b', of', rfl, hbl⟩ := hab'
    obtain ⟨R, hlo, hR⟩ := exists_list (fun i (l : Ent) => W.rangeAt b' (of' + i * 20) l.cs.toList ∧ EntO l) len (fun i hi => by
      obtain ⟨cs', hc, ht⟩ := hel i (by omega)
      obtain ⟨l, rfl, hd⟩ := open_entC ht
      rw [cellsEntry] at hc
      obtain ⟨_, _, hcell⟩ := World.cells?_some hc
      refine ⟨l, fun j u hu => ?_, hd⟩
      have hj : j < 20 := by
        have := (List.getElem?_eq_some_iff.1 hu).1
        rw [Array.length_toList] at this
        exact this
      have := hcell j hj
      rw [Addr.add_lit, Addr.add_lit] at this
      rw [this]
      exact hu)
    simp only [Prod.mk.injEq] at hx
    refine ⟨R, ⟨some ⟨b', of', none⟩, cap, by rw [List.length_map, hlo], by rw [List.length_map]; omega, hm, fun _ => ⟨b', of', rfl, hbl, fun i hi => ?_⟩⟩, fun l hl => ?_, .inr ⟨_, _, hx.1, by simp [hlo]⟩⟩
    · rw [List.length_map] at hi
      have := (hR i R[i] (by simp [hi])).1
      simpa [List.getD, hi] using this
    · obtain ⟨i, hi, rfl⟩ := List.getElem_of_mem hl
      exact (hR i _ (by simp [hi])).2

theorem reach_entries {H : Type} {ts : List TypeId} {ds : List (DataW H)} {j : Nat} {R : List Ent} {d : DataW H} (h : (DataW.weightsEach Try.prog ts ds).all (· ≤ reachBytes) = true) (ht : ts[j]? = some 22) (hd : ds[j]? = some d)
    (hl : (∀ l ∈ R, EntO l) ∧ (R = [] ∨ ∃ elems spare, d = .slice elems spare ∧ elems.length = R.length)) : R.length ≤ 733007751829 := by
  rcases hl.2 with rfl | ⟨elems, spare, rfl, hl⟩
  · simp
  · have := sized_slice h ht hd Try.underlying22
    rw [bytesEntry] at this
    simp only [reachBytes] at this
    omega

theorem open_str12 {H : Type} {enc : TypeId × Value → H} {W : World} {r : Reach} {b0 : Nat} {v : Value} {d : DataW H} {ps : List MemPlace}
    (hv : Value.okWide Try.prog W r b0 9 v) (h : DataW.Trod enc Try.prog W 0 (fun _ => true) true 9 v d ps) : ∃ s, v = .string s ∧ d = .lit (.string s.data.toList) := by
  obtain ⟨s, rfl⟩ := okWide_string Try.underlying9 hv
  obtain ⟨fuel, hf⟩ := h
  obtain ⟨s', hs, hx, _⟩ := DataW.trod_string Try.underlying9 hf
  simp [Value.cells] at hs
  subst hs
  simp only [Prod.mk.injEq] at hx
  exact ⟨s, rfl, hx.1⟩

theorem reach_str12 {H : Type} {ts : List TypeId} {ds : List (DataW H)} {j : Nat} {s : ByteArray} {d : DataW H} (h : (DataW.weightsEach Try.prog ts ds).all (· ≤ reachBytes) = true) (ht : ts[j]? = some 9) (hd : ds[j]? = some d) (hl : d = .lit (.string s.data.toList)) : s.size ≤ 140737488351232 := by
  subst hl
  have m1 := List.all_eq_true.1 h _ (DataW.weights_mem_each ht hd _ (weigh_str s _))
  have m1' : s.size ≤ reachBytes := of_decide_eq_true m1
  unfold reachBytes at m1'
  omega
end Go.Proofs.Ytjmjjjpanioifaa

