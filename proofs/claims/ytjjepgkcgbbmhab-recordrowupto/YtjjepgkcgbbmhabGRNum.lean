import Derived.Test.YtjjepgkcgbbmhabGRCur
namespace Go.Proofs.Ytjjepgkcgbbmhab
open Go.RowKit
set_option maxRecDepth 20000
variable {X : Nat → Prop}

end Go.Proofs.Ytjjepgkcgbbmhab

