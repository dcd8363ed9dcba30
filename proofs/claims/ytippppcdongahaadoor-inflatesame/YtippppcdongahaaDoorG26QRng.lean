import Derived.Test.YtippppcdongahaaDoorRows
import Derived.RangeFuncNested
import Derived.RangeFuncBound
import Derived.RangeFuncCalls
import Derived.RangeFuncLeaves
import Derived.RangeFuncBox
namespace Go.Proofs.YtippppcdongahaaDoor.H4
open Go.RowKit
variable {F : Fence} {n : Nat} {P : Program}

structure Rec (l : Nat) (I : Obj → World → Prop) : Prop where
  get : ∀ o W, I o W → W.heap[l]? = some o
  put : ∀ o o' W, I o W → I o' (W.putObj l o')

end Go.Proofs.YtippppcdongahaaDoor.H4

