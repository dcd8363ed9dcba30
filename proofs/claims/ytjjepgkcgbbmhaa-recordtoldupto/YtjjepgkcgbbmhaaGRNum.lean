import Derived.Test.YtjjepgkcgbbmhaaGRCur
namespace Go.Proofs.Ytjjepgkcgbbmhaa
open Go.RowKit
set_option maxRecDepth 20000
variable {X : Nat → Prop}

end Go.Proofs.Ytjjepgkcgbbmhaa

