import Derived.Test.YtiabhmdefaabgacGreatDoorGRn0
namespace Go.Proofs.YtiabhmdefaabgacGreatDoor
open Go.RowKit Go.Maps
set_option maxRecDepth 20000
set_option linter.unusedVariables false

theorem write_nil (v1 v2 : Value) (w : World) : Calls Tryz.prog 6 #[.pointer none, v1, v2] w fun e w' => e = .returned (.int .i64 1) ∧ w' = w := by
  go_enter Tryz.func6, Tryz.ntmps6
  go_wp2
  go_ret
  exact ⟨rfl, rfl⟩

theorem nnum_any (w : World) (x : Int) : Calls Tryz.prog 8 #[.int .i64 x] w fun e w' => e = .returned (.int .i64 x) ∧ w' = w := by
  go_enter Tryz.func8, Tryz.ntmps8
  go_wp2
  go_ret
  exact ⟨rfl, rfl⟩

end Go.Proofs.YtiabhmdefaabgacGreatDoor

