import Derived.Test.YtelnnlgnpaepcaaDoorRGLof
namespace Go.Proofs.YtelnnlgnpaepcaaDoorR
open Go.RowKit
set_option maxRecDepth 20000
set_option linter.unusedVariables false

end Go.Proofs.YtelnnlgnpaepcaaDoorR

