import Derived.Test.YtdpfjfkknimlfaaDoorGLof
namespace Go.Proofs.YtdpfjfkknimlfaaDoor
open Go.RowKit
set_option maxRecDepth 20000
set_option linter.unusedVariables false

end Go.Proofs.YtdpfjfkknimlfaaDoor

