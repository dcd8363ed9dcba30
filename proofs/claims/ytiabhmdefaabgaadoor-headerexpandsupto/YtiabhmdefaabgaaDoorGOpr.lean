import Derived.Test.YtiabhmdefaabgaaDoorGRey
import Derived.Deep.Slices
namespace Go.Proofs.YtiabhmdefaabgaaDoor
open Go.ChangeShapes Go.WideShapes Go.ChangeAt Go.RowKit Go.Joins Go.Deep
set_option maxRecDepth 20000

/-- A list of runs that is handed in. -/
theorem open_runs {H : Type} {enc : TypeId × Value → H} {W : World} {ao : Option Addr} {len cap : Nat} {d : DataW H} {ps : List MemPlace}
    (h : DataW.Trod enc Tryd.prog W 0 (fun _ => true) true 22 (.slice ao len cap) d ps) : ∃ R, SR W (.slice ao len cap) R ∧ (R = [] ∨ ∃ elems spare, d = .slice elems spare ∧ elems.length = R.length) := by
  obtain ⟨fuel, hf⟩ := h
  rcases open_slice Tryd.underlying22 hf with ⟨hcs, _⟩ | ⟨a, ln, cp, m, n, D, Pl, hcs, _, hl, hm, hmm, hx, hel⟩
  · simp [Value.cells] at hcs
    obtain ⟨rfl, rfl, rfl⟩ := hcs
    exact ⟨[], ⟨none, 0, rfl, Nat.le_refl _, Nat.zero_le _, fun _ => rfl, fun x hx => by cases hx⟩, .inl rfl⟩
  · simp [Value.cells] at hcs
    obtain ⟨rfl, rfl, rfl⟩ := hcs
    simp only [if_true] at hmm
    obtain ⟨R, hlo, hR⟩ := exists_list (fun i (o : Rn) => W.cell? (a.add (i * 2)) = some (.int .i64 o.1) ∧ W.cell? (a.add (i * 2 + 1)) = some (.int .i64 o.2)) len (fun i hi => by
      obtain ⟨cs', hc, ht⟩ := hel i (by omega)
      obtain ⟨o, rfl⟩ := open_run ht
      rw [cellsRun] at hc
      obtain ⟨_, _, hcell⟩ := World.cells?_some hc
      have hab' : ∃ b' of', a = ⟨b', of', none⟩ := by
        obtain ⟨cs0, hc0, ht0⟩ := hel 0 (by omega)
        rw [cellsRun] at hc0
        obtain ⟨_, hl0, hcell0⟩ := World.cells?_some hc0
        have h0 := hcell0 0 (by omega)
        rw [List.getElem?_eq_getElem (show 0 < cs0.length by omega), show (a.add (0 * 2)).add 0 = a.add 0 by simp [Addr.add]] at h0
        exact addr_lit h0
      obtain ⟨b', of', rfl⟩ := hab'
      have hc' : ∀ j, j < 2 → W.cell? ⟨b', of' + i * 2 + j, none⟩ = [Value.int .i64 o.1, .int .i64 o.2][j]? := fun j hj => by
        have := hcell j hj
        rw [Addr.add_lit, Addr.add_lit] at this
        exact this
      exact ⟨o, by rw [Addr.add_lit]; exact hc' 0 (by omega), by rw [Addr.add_lit]; exact hc' 1 (by omega)⟩)
    simp only [Prod.mk.injEq] at hx
    refine ⟨R, ⟨some a, cap, by rw [hlo], by omega, hm, (fun e => by cases e), fun x hx i hi => ?_⟩, .inr ⟨_, _, hx.1, by simp [hlo]⟩⟩
    cases hx
    have := hR i (R.getD i rn0) (by simp [hi])
    exact this

theorem bulk_runs {H : Type} {ds : List (DataW H)} {d : DataW H} {R : List Rn} (hk : Rows.uptoSmall H ds = true) (hd : d ∈ ds) (hl : R = [] ∨ ∃ elems spare, d = .slice elems spare ∧ elems.length = R.length) : R.length ≤ 1048576 := by
  rcases hl with rfl | ⟨elems, spare, rfl, hlen⟩
  · exact Nat.zero_le _
  · have h1 : Rows.uptoBulkAll ds ≤ 1048576 := of_decide_eq_true hk
    have h2 := bulk_mem hd
    have h3 := bulk_count elems
    simp only [Rows.uptoBulk] at h2
    omega
end Go.Proofs.YtiabhmdefaabgaaDoor

