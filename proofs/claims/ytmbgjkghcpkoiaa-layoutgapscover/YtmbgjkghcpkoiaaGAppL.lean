import Derived.Test.YtmbgjkghcpkoiaaG3
import Derived.Maps.AppendAt
import Derived.Deep.AppendSrc
namespace Go.Proofs.Ytmbgjkghcpkoiaa
open Go.RowKit Go.Maps

/-- What an append does: nothing, or a new block, or its own block written. -/
def Grew (w w' : World) (v v' : Value) : Prop := (v' = v ∧ w' = w) ∨ (v'.ownBlock = some w.heap.size ∧ Below w.heap.size w w') ∨ (v'.ownBlock = v.ownBlock ∧ w'.heap.size = w.heap.size ∧ w.grownBy w' v.ownBlock)

end Go.Proofs.Ytmbgjkghcpkoiaa

