import Derived.Test.YtdpfjfkknimlfaaDoorGXof
namespace Go.Proofs.YtdpfjfkknimlfaaDoor
open Go.RowKit
set_option maxRecDepth 20000
set_option linter.unusedVariables false

theorem bnum_any (w : World) (x : Int) : Calls Tryd.prog 7 #[.int .i64 x] w fun e w' => e = .returned (.int .i64 x) ∧ w' = w := by
  go_enter Tryd.func7, Tryd.ntmps7
  go_wp2
  go_ret
  exact ⟨rfl, rfl⟩

end Go.Proofs.YtdpfjfkknimlfaaDoor

