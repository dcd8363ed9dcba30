import Derived.Test.YtiabhmdefaabgabDoorGRla
namespace Go.Proofs.YtiabhmdefaabgabDoor
open Go.RowKit Go.Maps
set_option maxRecDepth 20000
set_option linter.unusedVariables false

theorem eqR_self (l : List Rn) : eqR l l = true := by simp [eqR]
theorem eqI_self (l : List Int) : eqI l l = true := by simp [eqI]

theorem Spare.below {w w' : World} {v : Value} {n : Nat} (h : Spare w v n) (hb : Below w.heap.size w w') : Spare w' v n := by
  obtain ⟨g, rfl, h⟩ := h
  exact ⟨g, rfl, fun j hj => (hb.cell (World.block_lt_of_cell? w _ (h j hj))).trans (h j hj)⟩

end Go.Proofs.YtiabhmdefaabgabDoor

