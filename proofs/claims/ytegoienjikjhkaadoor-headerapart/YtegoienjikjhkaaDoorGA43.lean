import Derived.Test.YtegoienjikjhkaaDoorGA41
import Derived.Test.YtegoienjikjhkaaDoorGA42
import Derived.Deep.Slices
namespace Go.Proofs.YtegoienjikjhkaaDoor
open Go.RowKit Go.Maps
set_option maxRecDepth 20000
set_option linter.unusedVariables false

theorem SR.front {w : World} {a : Option Addr} {n c : Nat} {R : List Rn} {p : Rn} (h : SR w (.slice a n c) (R ++ [p])) (hn : n = R.length + 1) : SR w (.slice a R.length c) R := by
  obtain ⟨ao, cap, he, h1, h2, h3, h4⟩ := h
  simp only [Value.slice.injEq] at he
  obtain ⟨rfl, -, rfl⟩ := he
  rw [List.length_append, List.length_singleton] at h1
  refine ⟨_, _, rfl, by omega, h2, h3, fun x hx i hi => ?_⟩
  have := h4 x hx i (by rw [List.length_append, List.length_singleton]; omega)
  have e : (R ++ [p]).getD i rn0 = R.getD i rn0 := by simp only [List.getD_eq_getElem?_getD, List.getElem?_append_left hi]
  rwa [e] at this

theorem SR.back {w : World} {a : Option Addr} {n c : Nat} {R : List Rn} {p : Rn} (h : SR w (.slice a n c) (R ++ [p])) (hn : n = R.length + 1) : ∃ b o, a = some ⟨b, o, none⟩ ∧ w.cell? ⟨b, o + R.length * 2, none⟩ = some (.int .i64 p.1) ∧ w.cell? ⟨b, o + R.length * 2 + 1, none⟩ = some (.int .i64 p.2) := by
  have h' : SR w (.slice a (R ++ [p]).length c) (R ++ [p]) := by rw [List.length_append, List.length_singleton, ← hn]; exact h
  obtain ⟨b, o, e, c1, c2⟩ := h'.get (Below.refl _ _) (k := R.length) (by simp)
  have e1 : (R ++ [p]).getD R.length rn0 = p := by simp
  rw [e1] at c1 c2
  exact ⟨b, o, e, c1, c2⟩

theorem cellsRun : Tryd.prog.cellsOf 39 = 2 := by kernel_rfl

theorem open_run {H : Type} {enc : TypeId × Value → H} {W : World} {n : Nat} {cs : List Value} {y : DataW H × List MemPlace} (h : DataW.trod enc Tryd.prog W 0 (fun _ => true) true n 39 cs = some y) :
    ∃ o : Rn, cs = [.int .i64 o.1, .int .i64 o.2] := by
  obtain ⟨xs, m, _, rfl, hl, hxl, hf⟩ := DataW.trod_struct Tryd.underlying39 h
  rw [cellsRun] at hl
  obtain ⟨c0, c1, rfl⟩ := list2 hl
  obtain ⟨y0, y1, rfl⟩ := list2 hxl
  have h0 : DataW.trod enc Tryd.prog W 0 (fun _ => true) true m 3 (([c0, c1].drop 0).take (Tryd.prog.cellsOf 3)) = some y0 := hf 0 _ rfl
  have h1 : DataW.trod enc Tryd.prog W 0 (fun _ => true) true m 3 (([c0, c1].drop 1).take (Tryd.prog.cellsOf 3)) = some y1 := hf 1 _ rfl
  rw [show Tryd.prog.cellsOf 3 = 1 by kernel_rfl] at h0 h1
  simp only [List.drop, List.take] at h0 h1
  obtain ⟨k0, e0, _, _⟩ := DataW.trod_int Tryd.underlying3 h0
  obtain ⟨k1, e1, _, _⟩ := DataW.trod_int Tryd.underlying3 h1
  simp at e0 e1
  subst e0 e1
  exact ⟨(k0, k1), rfl⟩
end Go.Proofs.YtegoienjikjhkaaDoor

namespace Go.Proofs.YtegoienjikjhkaaDoor
open Go.ChangeShapes Go.WideShapes Go.ChangeAt Go.RowKit Go.Joins Go.Deep
set_option maxRecDepth 20000

/-- A list of runs that is handed in. -/
theorem open_runs {H : Type} {enc : TypeId × Value → H} {W : World} {ao : Option Addr} {len cap : Nat} {d : DataW H} {ps : List MemPlace}
    (h : DataW.Trod enc Tryd.prog W 0 (fun _ => true) true 27 (.slice ao len cap) d ps) : ∃ R, SR W (.slice ao len cap) R ∧ (R = [] ∨ ∃ elems spare, d = .slice elems spare ∧ elems.length = R.length) := by
  obtain ⟨fuel, hf⟩ := h
  rcases open_slice Tryd.underlying27 hf with ⟨hcs, _⟩ | ⟨a, ln, cp, m, n, D, Pl, hcs, _, hl, hm, hmm, hx, hel⟩
  · simp [Value.cells] at hcs
    obtain ⟨rfl, rfl, rfl⟩ := hcs
    exact ⟨[], ⟨none, 0, rfl, Nat.le_refl _, Nat.zero_le _, fun _ => rfl, fun x hx => by cases hx⟩, .inl rfl⟩
  · simp [Value.cells] at hcs
    obtain ⟨rfl, rfl, rfl⟩ := hcs
    simp only [if_true] at hmm
    obtain ⟨R, hlo, hR⟩ := exists_list (fun i (o : Rn) => W.cell? (a.add (i * 2)) = some (.int .i64 o.1) ∧ W.cell? (a.add (i * 2 + 1)) = some (.int .i64 o.2)) len (fun i hi => by
      obtain ⟨cs', hc, ht⟩ := hel i (by omega)
      obtain ⟨o, rfl⟩ := open_run ht
      rw [cellsRun] at hc
      obtain ⟨_, _, hcell⟩ := World.cells?_some hc
      have hab' : ∃ b' of', a = ⟨b', of', none⟩ := by
        obtain ⟨cs0, hc0, ht0⟩ := hel 0 (by omega)
        rw [cellsRun] at hc0
        obtain ⟨_, hl0, hcell0⟩ := World.cells?_some hc0
        have h0 := hcell0 0 (by omega)
        rw [List.getElem?_eq_getElem (show 0 < cs0.length by omega), show (a.add (0 * 2)).add 0 = a.add 0 by simp [Addr.add]] at h0
        exact addr_lit h0
      obtain ⟨b', of', rfl⟩ := hab'
      have hc' : ∀ j, j < 2 → W.cell? ⟨b', of' + i * 2 + j, none⟩ = [Value.int .i64 o.1, .int .i64 o.2][j]? := fun j hj => by
        have := hcell j hj
        rw [Addr.add_lit, Addr.add_lit] at this
        exact this
      exact ⟨o, by rw [Addr.add_lit]; exact hc' 0 (by omega), by rw [Addr.add_lit]; exact hc' 1 (by omega)⟩)
    simp only [Prod.mk.injEq] at hx
    refine ⟨R, ⟨some a, cap, by rw [hlo], by omega, hm, (fun e => by cases e), fun x hx i hi => ?_⟩, .inr ⟨_, _, hx.1, by simp [hlo]⟩⟩
    cases hx
    have := hR i (R.getD i rn0) (by simp [hi])
    exact this

theorem bulk_runs {H : Type} {ds : List (DataW H)} {d : DataW H} {R : List Rn} (hk : Rows.uptoSmall H ds = true) (hd : d ∈ ds) (hl : R = [] ∨ ∃ elems spare, d = .slice elems spare ∧ elems.length = R.length) : R.length ≤ 1048576 := by
  rcases hl with rfl | ⟨elems, spare, rfl, hlen⟩
  · exact Nat.zero_le _
  · have h1 : Rows.uptoBulkAll ds ≤ 1048576 := of_decide_eq_true hk
    have h2 := bulk_mem hd
    have h3 := bulk_count elems
    simp only [Rows.uptoBulk] at h2
    omega
end Go.Proofs.YtegoienjikjhkaaDoor

