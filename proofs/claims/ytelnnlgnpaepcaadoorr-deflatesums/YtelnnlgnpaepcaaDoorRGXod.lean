import Derived.Test.YtelnnlgnpaepcaaDoorRGXof
namespace Go.Proofs.YtelnnlgnpaepcaaDoorR
open Go.RowKit
set_option maxRecDepth 20000
set_option linter.unusedVariables false

theorem bnum_any (w : World) (x : Int) : Calls Tryd.prog 5 #[.int .i64 x] w fun e w' => e = .returned (.int .i64 x) ∧ w' = w := by
  go_enter Tryd.func5, Tryd.ntmps5
  go_wp2
  go_ret
  exact ⟨rfl, rfl⟩

end Go.Proofs.YtelnnlgnpaepcaaDoorR

