import Derived.Test.YtogplagiheoaiaaG11Jnw
import Derived.Test.YtogplagiheoaiaaG12Adv
import Derived.Test.YtogplagiheoaiaaG13Lnw
namespace Go.Proofs.Ytogplagiheoaiaa
open Go.RowKit Go.Maps
set_option maxRecDepth 20000
set_option linter.unusedVariables false

end Go.Proofs.Ytogplagiheoaiaa

