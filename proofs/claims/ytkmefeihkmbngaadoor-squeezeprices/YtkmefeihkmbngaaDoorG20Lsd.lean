import Derived.Test.YtkmefeihkmbngaaDoorG05Pks
namespace Go.Proofs.YtkmefeihkmbngaaDoor
open Go.RowKit Go.Maps
set_option maxRecDepth 20000
set_option linter.unusedVariables false

end Go.Proofs.YtkmefeihkmbngaaDoor

