import Derived.Test.YtjjepgkcgbbmhacGRCur
namespace Go.Proofs.Ytjjepgkcgbbmhac
open Go.RowKit
set_option maxRecDepth 20000
variable {X : Nat → Prop}

end Go.Proofs.Ytjjepgkcgbbmhac

