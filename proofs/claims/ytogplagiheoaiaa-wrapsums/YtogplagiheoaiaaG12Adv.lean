import Derived.Test.YtogplagiheoaiaaG10Adw
namespace Go.Proofs.Ytogplagiheoaiaa
open Go.RowKit Go.Maps
set_option maxRecDepth 20000
set_option linter.unusedVariables false

end Go.Proofs.Ytogplagiheoaiaa

