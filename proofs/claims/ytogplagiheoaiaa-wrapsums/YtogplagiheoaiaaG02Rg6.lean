import Derived.Test.YtogplagiheoaiaaG01QRng
import Derived.Shelf.Abstract
import Derived.Shelf.RegionOpen
import Derived.OwnWalkIn
import Derived.TacticsInMore
import Derived.LoopNIn
import Derived.LoopIn
namespace Go.Proofs.Ytogplagiheoaiaa
open Go.RowKit
variable {F : Fence} {n : Nat} {P : Program}

end Go.Proofs.Ytogplagiheoaiaa

