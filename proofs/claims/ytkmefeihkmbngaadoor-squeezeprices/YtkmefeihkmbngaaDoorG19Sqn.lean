import Derived.Test.YtkmefeihkmbngaaDoorG03Lsk
namespace Go.Proofs.YtkmefeihkmbngaaDoor
set_option maxRecDepth 20000
set_option linter.unusedVariables false

end Go.Proofs.YtkmefeihkmbngaaDoor

