/-
  No cell of these rows narrows 'for every input' (looked for: loops, veiled, ifaces, maps, wideKeys, modest, calm, conditions, laid).
  DERIVED. THE GIVEN ROWS OF THIS SEAT. 6 by the template 'for every input the law returns true; each argument reads behind the call as it read before'; 0 by the template 'total and deterministic' (their statements: YtjhgjohnfkgleabTotals.lean).
  GIVEN WITH THE SEED: the statements are not yours to turn. If you find one false, say at which input.
  Laid BY PROGRAM, IN A SANDBOX (cutbox-rows.mjs): the forced cells as the released guide's own fill.sh prints them over the translation 7dbbb1908f94cf88… (all of the seat's roots in one cut). By AI agents, Wed Nov 11 2026. No macro, syntax, notation, axiom, sorry.
-/
import Derived.Test.YtjhgjohnfkgleabChecked
import GoSem.Claim
import GoSem.ClaimJoined
import GoSem.ClaimMapViews
import Derived.JoinedTies
import Derived.KernelRfl
namespace Go.Proofs.Ytjhgjohnfkgleab
/- THE CELL 'sum', in the pinned program and in every row, IS THE sha256 OF THE DUMP (.gsa) THAT YtjhgjohnfkgleabProg.lean LOADS. Nothing in Lean hashes anything: it is a label: what it is worth is what the hold of that sum in a sandbox is worth. -/
noncomputable def Try.pinned : Pinned := { name := "ytjhgjohnfkgleab", sum := "7dbbb1908f94cf885fc5ca84560ed79b029ffaa7a2dc162b8f33531e04106666", checked := Try.checked }
namespace Rows
def none {H : Type} : Left H := { results := [], args := [] }

/-- 'valiselaw4.HeapDrainsWhatComes': WHATEVER THE INPUT: true; the input reads as it did. -/
def heapDrainsWhatComesSpec : ChangeSpec := { name := "heapDrainsWhatComes", fn := fun _ => fun
  | [d1, d2] => { results := [.lit (.bool true)], args := [d1, d2] }
  | _ => none }
def heapDrainsWhatComesRow : OpenClaim := { program := "ytjhgjohnfkgleab", sum := "7dbbb1908f94cf885fc5ca84560ed79b029ffaa7a2dc162b8f33531e04106666", func := "valise/valiselaw4.HeapDrainsWhatComes", spec := "heapDrainsWhatComes", unfollowed := true, recurses := true, apart := false }
def HeapDrainsWhatComesSaid : Prop := heapDrainsWhatComesRow.holds Try.pinned (OpenSpec.ofChange heapDrainsWhatComesSpec)

/-- ITS FALSE NEIGHBOUR: 'it returns false'. Refute it at one input. -/
def heapDrainsWhatComesWrong : ChangeSpec := { name := "heapDrainsWhatComes", fn := fun _ => fun
  | [d1, d2] => { results := [.lit (.bool false)], args := [d1, d2] }
  | _ => none }
def HeapDrainsWhatComesWrongFalsely : Prop := heapDrainsWhatComesRow.holds Try.pinned (OpenSpec.ofChange heapDrainsWhatComesWrong)

/-- 'valiselaw4.HeapPlays': WHATEVER THE INPUT: true; the input reads as it did. -/
def heapPlaysSpec : ChangeSpec := { name := "heapPlays", fn := fun _ => fun
  | [d] => { results := [.lit (.bool true)], args := [d] }
  | _ => none }
def heapPlaysRow : OpenClaim := { program := "ytjhgjohnfkgleab", sum := "7dbbb1908f94cf885fc5ca84560ed79b029ffaa7a2dc162b8f33531e04106666", func := "valise/valiselaw4.HeapPlays", spec := "heapPlays", apart := false }
def HeapPlaysSaid : Prop := heapPlaysRow.holds Try.pinned (OpenSpec.ofChange heapPlaysSpec)

/-- ITS FALSE NEIGHBOUR: 'it returns false'. Refute it at one input. -/
def heapPlaysWrong : ChangeSpec := { name := "heapPlays", fn := fun _ => fun
  | [d] => { results := [.lit (.bool false)], args := [d] }
  | _ => none }
def HeapPlaysWrongFalsely : Prop := heapPlaysRow.holds Try.pinned (OpenSpec.ofChange heapPlaysWrong)

/-- 'valiselaw4.HeapOrders': WHATEVER THE INPUT: true; the input reads as it did. -/
def heapOrdersSpec : ChangeSpec := { name := "heapOrders", fn := fun _ => fun
  | [d] => { results := [.lit (.bool true)], args := [d] }
  | _ => none }
def heapOrdersRow : OpenClaim := { program := "ytjhgjohnfkgleab", sum := "7dbbb1908f94cf885fc5ca84560ed79b029ffaa7a2dc162b8f33531e04106666", func := "valise/valiselaw4.HeapOrders", spec := "heapOrders", unfollowed := true, recurses := true, apart := false }
def HeapOrdersSaid : Prop := heapOrdersRow.holds Try.pinned (OpenSpec.ofChange heapOrdersSpec)

/-- ITS FALSE NEIGHBOUR: 'it returns false'. Refute it at one input. -/
def heapOrdersWrong : ChangeSpec := { name := "heapOrders", fn := fun _ => fun
  | [d] => { results := [.lit (.bool false)], args := [d] }
  | _ => none }
def HeapOrdersWrongFalsely : Prop := heapOrdersRow.holds Try.pinned (OpenSpec.ofChange heapOrdersWrong)

/-- 'valiselaw4.HeapApart': WHATEVER THE INPUT: true; the input reads as it did. -/
def heapApartSpec : ChangeSpec := { name := "heapApart", fn := fun _ => fun
  | [d] => { results := [.lit (.bool true)], args := [d] }
  | _ => none }
def heapApartRow : OpenClaim := { program := "ytjhgjohnfkgleab", sum := "7dbbb1908f94cf885fc5ca84560ed79b029ffaa7a2dc162b8f33531e04106666", func := "valise/valiselaw4.HeapApart", spec := "heapApart", unfollowed := true, recurses := true, apart := false }
def HeapApartSaid : Prop := heapApartRow.holds Try.pinned (OpenSpec.ofChange heapApartSpec)

/-- ITS FALSE NEIGHBOUR: 'it returns false'. Refute it at one input. -/
def heapApartWrong : ChangeSpec := { name := "heapApart", fn := fun _ => fun
  | [d] => { results := [.lit (.bool false)], args := [d] }
  | _ => none }
def HeapApartWrongFalsely : Prop := heapApartRow.holds Try.pinned (OpenSpec.ofChange heapApartWrong)

/-- 'valiselaw4.HeapDrainsWhatIsLeft': WHATEVER THE INPUT: true; the input reads as it did. -/
def heapDrainsWhatIsLeftSpec : ChangeSpec := { name := "heapDrainsWhatIsLeft", fn := fun _ => fun
  | [d1, d2] => { results := [.lit (.bool true)], args := [d1, d2] }
  | _ => none }
def heapDrainsWhatIsLeftRow : OpenClaim := { program := "ytjhgjohnfkgleab", sum := "7dbbb1908f94cf885fc5ca84560ed79b029ffaa7a2dc162b8f33531e04106666", func := "valise/valiselaw4.HeapDrainsWhatIsLeft", spec := "heapDrainsWhatIsLeft", unfollowed := true, recurses := true, apart := false }
def HeapDrainsWhatIsLeftSaid : Prop := heapDrainsWhatIsLeftRow.holds Try.pinned (OpenSpec.ofChange heapDrainsWhatIsLeftSpec)

/-- ITS FALSE NEIGHBOUR: 'it returns false'. Refute it at one input. -/
def heapDrainsWhatIsLeftWrong : ChangeSpec := { name := "heapDrainsWhatIsLeft", fn := fun _ => fun
  | [d1, d2] => { results := [.lit (.bool false)], args := [d1, d2] }
  | _ => none }
def HeapDrainsWhatIsLeftWrongFalsely : Prop := heapDrainsWhatIsLeftRow.holds Try.pinned (OpenSpec.ofChange heapDrainsWhatIsLeftWrong)

/-- 'valiselaw4.HeapSortsPairs': WHATEVER THE INPUT: true; the input reads as it did. -/
def heapSortsPairsSpec : ChangeSpec := { name := "heapSortsPairs", fn := fun _ => fun
  | [d1, d2] => { results := [.lit (.bool true)], args := [d1, d2] }
  | _ => none }
def heapSortsPairsRow : OpenClaim := { program := "ytjhgjohnfkgleab", sum := "7dbbb1908f94cf885fc5ca84560ed79b029ffaa7a2dc162b8f33531e04106666", func := "valise/valiselaw4.HeapSortsPairs", spec := "heapSortsPairs", unfollowed := true, recurses := true, apart := false }
def HeapSortsPairsSaid : Prop := heapSortsPairsRow.holds Try.pinned (OpenSpec.ofChange heapSortsPairsSpec)

/-- ITS FALSE NEIGHBOUR: 'it returns false'. Refute it at one input. -/
def heapSortsPairsWrong : ChangeSpec := { name := "heapSortsPairs", fn := fun _ => fun
  | [d1, d2] => { results := [.lit (.bool false)], args := [d1, d2] }
  | _ => none }
def HeapSortsPairsWrongFalsely : Prop := heapSortsPairsRow.holds Try.pinned (OpenSpec.ofChange heapSortsPairsWrong)

/- THE SECOND FORM. 'bulk': how many values and letters a reading holds, each counted each time it is reached (what is shared counts as often as it is met; a slice's spare places count too). A statement '..UptoSaid' is the law's where the arguments, and the package variables that the reading takes, are together of bulk at most 1048576: NARROWER than '..Said'. Prove '..Said' where nothing that the law and all that it calls make is longer than what came in: it says more and counts as full. Else prove '..UptoSaid'. A law counts once. -/
mutual
def uptoBulk {H : Type} : DataW H → Nat
  | .lit (.string bytes) => bytes.length + 1
  | .lit _ => 1
  | .nil => 1
  | .ptr d => uptoBulk d + 1
  | .slice elems spare => uptoBulkAll elems + uptoBulkAll spare + 1
  | .agg parts => uptoBulkAll parts + 1
  | .iface _ d => uptoBulk d + 1
  | .map entries => uptoBulkEntries entries + 1
  | .held _ => 1
def uptoBulkAll {H : Type} : List (DataW H) → Nat
  | [] => 0
  | d :: r => uptoBulk d + uptoBulkAll r
def uptoBulkEntries {H : Type} : List (Lit × DataW H) → Nat
  | [] => 0
  | x :: r => uptoBulkEntry x + uptoBulkEntries r
def uptoBulkEntry {H : Type} : Lit × DataW H → Nat
  | (.string bytes, d) => bytes.length + uptoBulk d + 1
  | (_, d) => uptoBulk d + 1
 end
def uptoSmall : (H : Type) → List (DataW H) → Bool := fun _ ds => decide (uptoBulkAll ds ≤ 1048576)
def OpenSpec.upto (s : _root_.Go.ChangeSpec) : _root_.Go.OpenSpec := { _root_.Go.OpenSpec.ofChange s with cond := some uptoSmall }

/-- 'valiselaw4.HeapDrainsWhatComes', WHERE WHAT IT READS IS OF BULK AT MOST 1048576: true; the input reads as it did. -/
def heapDrainsWhatComesUptoRow : OpenClaim := { program := "ytjhgjohnfkgleab", sum := "7dbbb1908f94cf885fc5ca84560ed79b029ffaa7a2dc162b8f33531e04106666", func := "valise/valiselaw4.HeapDrainsWhatComes", spec := "heapDrainsWhatComes", unfollowed := true, recurses := true, apart := false, narrowed := true }
def HeapDrainsWhatComesUptoSaid : Prop := heapDrainsWhatComesUptoRow.holds Try.pinned (OpenSpec.upto heapDrainsWhatComesSpec)

/-- 'valiselaw4.HeapPlays', WHERE WHAT IT READS IS OF BULK AT MOST 1048576: true; the input reads as it did. -/
def heapPlaysUptoRow : OpenClaim := { program := "ytjhgjohnfkgleab", sum := "7dbbb1908f94cf885fc5ca84560ed79b029ffaa7a2dc162b8f33531e04106666", func := "valise/valiselaw4.HeapPlays", spec := "heapPlays", apart := false, narrowed := true }
def HeapPlaysUptoSaid : Prop := heapPlaysUptoRow.holds Try.pinned (OpenSpec.upto heapPlaysSpec)

/-- 'valiselaw4.HeapOrders', WHERE WHAT IT READS IS OF BULK AT MOST 1048576: true; the input reads as it did. -/
def heapOrdersUptoRow : OpenClaim := { program := "ytjhgjohnfkgleab", sum := "7dbbb1908f94cf885fc5ca84560ed79b029ffaa7a2dc162b8f33531e04106666", func := "valise/valiselaw4.HeapOrders", spec := "heapOrders", unfollowed := true, recurses := true, apart := false, narrowed := true }
def HeapOrdersUptoSaid : Prop := heapOrdersUptoRow.holds Try.pinned (OpenSpec.upto heapOrdersSpec)

/-- 'valiselaw4.HeapApart', WHERE WHAT IT READS IS OF BULK AT MOST 1048576: true; the input reads as it did. -/
def heapApartUptoRow : OpenClaim := { program := "ytjhgjohnfkgleab", sum := "7dbbb1908f94cf885fc5ca84560ed79b029ffaa7a2dc162b8f33531e04106666", func := "valise/valiselaw4.HeapApart", spec := "heapApart", unfollowed := true, recurses := true, apart := false, narrowed := true }
def HeapApartUptoSaid : Prop := heapApartUptoRow.holds Try.pinned (OpenSpec.upto heapApartSpec)

/-- 'valiselaw4.HeapDrainsWhatIsLeft', WHERE WHAT IT READS IS OF BULK AT MOST 1048576: true; the input reads as it did. -/
def heapDrainsWhatIsLeftUptoRow : OpenClaim := { program := "ytjhgjohnfkgleab", sum := "7dbbb1908f94cf885fc5ca84560ed79b029ffaa7a2dc162b8f33531e04106666", func := "valise/valiselaw4.HeapDrainsWhatIsLeft", spec := "heapDrainsWhatIsLeft", unfollowed := true, recurses := true, apart := false, narrowed := true }
def HeapDrainsWhatIsLeftUptoSaid : Prop := heapDrainsWhatIsLeftUptoRow.holds Try.pinned (OpenSpec.upto heapDrainsWhatIsLeftSpec)

/-- 'valiselaw4.HeapSortsPairs', WHERE WHAT IT READS IS OF BULK AT MOST 1048576: true; the input reads as it did. -/
def heapSortsPairsUptoRow : OpenClaim := { program := "ytjhgjohnfkgleab", sum := "7dbbb1908f94cf885fc5ca84560ed79b029ffaa7a2dc162b8f33531e04106666", func := "valise/valiselaw4.HeapSortsPairs", spec := "heapSortsPairs", unfollowed := true, recurses := true, apart := false, narrowed := true }
def HeapSortsPairsUptoSaid : Prop := heapSortsPairsUptoRow.holds Try.pinned (OpenSpec.upto heapSortsPairsSpec)

end Rows
end Go.Proofs.Ytjhgjohnfkgleab
