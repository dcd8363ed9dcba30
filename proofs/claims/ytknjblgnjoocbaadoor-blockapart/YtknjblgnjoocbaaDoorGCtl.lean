import Derived.Test.YtknjblgnjoocbaaDoorGCx
import Derived.Test.YtknjblgnjoocbaaDoorGOp
import Derived.Test.YtknjblgnjoocbaaDoorGEx
namespace Go.Proofs.YtknjblgnjoocbaaDoor
open Go.RowKit Go.Maps
set_option maxRecDepth 20000
set_option linter.unusedVariables false

theorem eqI_self (l : List Int) : eqI l l = true := by simp [eqI]

end Go.Proofs.YtknjblgnjoocbaaDoor

