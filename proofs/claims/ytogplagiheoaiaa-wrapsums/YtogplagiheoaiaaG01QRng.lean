import Derived.Test.YtogplagiheoaiaaRows
import Derived.RangeFuncNested
import Derived.RangeFuncBound
import Derived.RangeFuncCalls
import Derived.RangeFuncLeaves
import Derived.RangeFuncBox
namespace Go.Proofs.Ytogplagiheoaiaa.H4
open Go.RowKit
variable {F : Fence} {n : Nat} {P : Program}

structure Rec (l : Nat) (I : Obj → World → Prop) : Prop where
  get : ∀ o W, I o W → W.heap[l]? = some o
  put : ∀ o o' W, I o W → I o' (W.putObj l o')

end Go.Proofs.Ytogplagiheoaiaa.H4

