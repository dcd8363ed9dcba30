import Derived.Test.YtjmjjjpanioifaaGRCur
namespace Go.Proofs.Ytjmjjjpanioifaa
open Go.RowKit
set_option maxRecDepth 20000
variable {X : Nat → Prop}

end Go.Proofs.Ytjmjjjpanioifaa

