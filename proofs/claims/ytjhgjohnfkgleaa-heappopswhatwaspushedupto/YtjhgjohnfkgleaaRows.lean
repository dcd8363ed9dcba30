/-
  No cell of these rows narrows 'for every input' (looked for: loops, veiled, ifaces, maps, wideKeys, modest, calm, conditions, laid).
  DERIVED. THE GIVEN ROWS OF THIS SEAT. 6 by the template 'for every input the law returns true; each argument reads behind the call as it read before'; 0 by the template 'total and deterministic' (their statements: YtjhgjohnfkgleaaTotals.lean).
  GIVEN WITH THE SEED: the statements are not yours to turn. If you find one false, say at which input.
  Laid BY PROGRAM, IN A SANDBOX (cutbox-rows.mjs): the forced cells as the released guide's own fill.sh prints them over the translation 0e6492a20d71b37d… (all of the seat's roots in one cut). By AI agents, Wed Nov 11 2026. No macro, syntax, notation, axiom, sorry.
-/
import Derived.Test.YtjhgjohnfkgleaaChecked
import GoSem.Claim
import GoSem.ClaimJoined
import GoSem.ClaimMapViews
import Derived.JoinedTies
import Derived.KernelRfl
namespace Go.Proofs.Ytjhgjohnfkgleaa
/- THE CELL 'sum', in the pinned program and in every row, IS THE sha256 OF THE DUMP (.gsa) THAT YtjhgjohnfkgleaaProg.lean LOADS. Nothing in Lean hashes anything: it is a label: what it is worth is what the hold of that sum in a sandbox is worth. -/
noncomputable def Try.pinned : Pinned := { name := "ytjhgjohnfkgleaa", sum := "0e6492a20d71b37dfbaa0fc85de26958df2f917124e298e36797debaa2d509e0", checked := Try.checked }
namespace Rows
def none {H : Type} : Left H := { results := [], args := [] }

/-- 'valiselaw4.HeapPopsWhatWasPushed': WHATEVER THE INPUT: true; the input reads as it did. -/
def heapPopsWhatWasPushedSpec : ChangeSpec := { name := "heapPopsWhatWasPushed", fn := fun _ => fun
  | [d] => { results := [.lit (.bool true)], args := [d] }
  | _ => none }
def heapPopsWhatWasPushedRow : OpenClaim := { program := "ytjhgjohnfkgleaa", sum := "0e6492a20d71b37dfbaa0fc85de26958df2f917124e298e36797debaa2d509e0", func := "valise/valiselaw4.HeapPopsWhatWasPushed", spec := "heapPopsWhatWasPushed", apart := false }
def HeapPopsWhatWasPushedSaid : Prop := heapPopsWhatWasPushedRow.holds Try.pinned (OpenSpec.ofChange heapPopsWhatWasPushedSpec)

/-- ITS FALSE NEIGHBOUR: 'it returns false'. Refute it at one input. -/
def heapPopsWhatWasPushedWrong : ChangeSpec := { name := "heapPopsWhatWasPushed", fn := fun _ => fun
  | [d] => { results := [.lit (.bool false)], args := [d] }
  | _ => none }
def HeapPopsWhatWasPushedWrongFalsely : Prop := heapPopsWhatWasPushedRow.holds Try.pinned (OpenSpec.ofChange heapPopsWhatWasPushedWrong)

/-- 'valiselaw4.HeapNil': WHATEVER THE INPUT: true; the input reads as it did. -/
def heapNilSpec : ChangeSpec := { name := "heapNil", fn := fun _ => fun
  | [] => { results := [.lit (.bool true)], args := [] }
  | _ => none }
def heapNilRow : OpenClaim := { program := "ytjhgjohnfkgleaa", sum := "0e6492a20d71b37dfbaa0fc85de26958df2f917124e298e36797debaa2d509e0", func := "valise/valiselaw4.HeapNil", spec := "heapNil", unfollowed := true, recurses := true, apart := false }
def HeapNilSaid : Prop := heapNilRow.holds Try.pinned (OpenSpec.ofChange heapNilSpec)

/-- ITS FALSE NEIGHBOUR: 'it returns false'. Refute it at one input. -/
def heapNilWrong : ChangeSpec := { name := "heapNil", fn := fun _ => fun
  | [] => { results := [.lit (.bool false)], args := [] }
  | _ => none }
def HeapNilWrongFalsely : Prop := heapNilRow.holds Try.pinned (OpenSpec.ofChange heapNilWrong)

/-- 'valiselaw4.HeapIsSorted': WHATEVER THE INPUT: true; the input reads as it did. -/
def heapIsSortedSpec : ChangeSpec := { name := "heapIsSorted", fn := fun _ => fun
  | [d] => { results := [.lit (.bool true)], args := [d] }
  | _ => none }
def heapIsSortedRow : OpenClaim := { program := "ytjhgjohnfkgleaa", sum := "0e6492a20d71b37dfbaa0fc85de26958df2f917124e298e36797debaa2d509e0", func := "valise/valiselaw4.HeapIsSorted", spec := "heapIsSorted", unfollowed := true, recurses := true, apart := false }
def HeapIsSortedSaid : Prop := heapIsSortedRow.holds Try.pinned (OpenSpec.ofChange heapIsSortedSpec)

/-- ITS FALSE NEIGHBOUR: 'it returns false'. Refute it at one input. -/
def heapIsSortedWrong : ChangeSpec := { name := "heapIsSorted", fn := fun _ => fun
  | [d] => { results := [.lit (.bool false)], args := [d] }
  | _ => none }
def HeapIsSortedWrongFalsely : Prop := heapIsSortedRow.holds Try.pinned (OpenSpec.ofChange heapIsSortedWrong)

/-- 'valiselaw4.HeapSortsOnce': WHATEVER THE INPUT: true; the input reads as it did. -/
def heapSortsOnceSpec : ChangeSpec := { name := "heapSortsOnce", fn := fun _ => fun
  | [d] => { results := [.lit (.bool true)], args := [d] }
  | _ => none }
def heapSortsOnceRow : OpenClaim := { program := "ytjhgjohnfkgleaa", sum := "0e6492a20d71b37dfbaa0fc85de26958df2f917124e298e36797debaa2d509e0", func := "valise/valiselaw4.HeapSortsOnce", spec := "heapSortsOnce", unfollowed := true, recurses := true, apart := false }
def HeapSortsOnceSaid : Prop := heapSortsOnceRow.holds Try.pinned (OpenSpec.ofChange heapSortsOnceSpec)

/-- ITS FALSE NEIGHBOUR: 'it returns false'. Refute it at one input. -/
def heapSortsOnceWrong : ChangeSpec := { name := "heapSortsOnce", fn := fun _ => fun
  | [d] => { results := [.lit (.bool false)], args := [d] }
  | _ => none }
def HeapSortsOnceWrongFalsely : Prop := heapSortsOnceRow.holds Try.pinned (OpenSpec.ofChange heapSortsOnceWrong)

/-- 'valiselaw4.HeapDrainsAgain': WHATEVER THE INPUT: true; the input reads as it did. -/
def heapDrainsAgainSpec : ChangeSpec := { name := "heapDrainsAgain", fn := fun _ => fun
  | [d1, d2] => { results := [.lit (.bool true)], args := [d1, d2] }
  | _ => none }
def heapDrainsAgainRow : OpenClaim := { program := "ytjhgjohnfkgleaa", sum := "0e6492a20d71b37dfbaa0fc85de26958df2f917124e298e36797debaa2d509e0", func := "valise/valiselaw4.HeapDrainsAgain", spec := "heapDrainsAgain", unfollowed := true, recurses := true, apart := false }
def HeapDrainsAgainSaid : Prop := heapDrainsAgainRow.holds Try.pinned (OpenSpec.ofChange heapDrainsAgainSpec)

/-- ITS FALSE NEIGHBOUR: 'it returns false'. Refute it at one input. -/
def heapDrainsAgainWrong : ChangeSpec := { name := "heapDrainsAgain", fn := fun _ => fun
  | [d1, d2] => { results := [.lit (.bool false)], args := [d1, d2] }
  | _ => none }
def HeapDrainsAgainWrongFalsely : Prop := heapDrainsAgainRow.holds Try.pinned (OpenSpec.ofChange heapDrainsAgainWrong)

/-- 'valiselaw4.HeapDrains': WHATEVER THE INPUT: true; the input reads as it did. -/
def heapDrainsSpec : ChangeSpec := { name := "heapDrains", fn := fun _ => fun
  | [d1, d2] => { results := [.lit (.bool true)], args := [d1, d2] }
  | _ => none }
def heapDrainsRow : OpenClaim := { program := "ytjhgjohnfkgleaa", sum := "0e6492a20d71b37dfbaa0fc85de26958df2f917124e298e36797debaa2d509e0", func := "valise/valiselaw4.HeapDrains", spec := "heapDrains", unfollowed := true, recurses := true, apart := false }
def HeapDrainsSaid : Prop := heapDrainsRow.holds Try.pinned (OpenSpec.ofChange heapDrainsSpec)

/-- ITS FALSE NEIGHBOUR: 'it returns false'. Refute it at one input. -/
def heapDrainsWrong : ChangeSpec := { name := "heapDrains", fn := fun _ => fun
  | [d1, d2] => { results := [.lit (.bool false)], args := [d1, d2] }
  | _ => none }
def HeapDrainsWrongFalsely : Prop := heapDrainsRow.holds Try.pinned (OpenSpec.ofChange heapDrainsWrong)

/- THE SECOND FORM. 'bulk': how many values and letters a reading holds, each counted each time it is reached (what is shared counts as often as it is met; a slice's spare places count too). A statement '..UptoSaid' is the law's where the arguments, and the package variables that the reading takes, are together of bulk at most 1048576: NARROWER than '..Said'. Prove '..Said' where nothing that the law and all that it calls make is longer than what came in: it says more and counts as full. Else prove '..UptoSaid'. A law counts once. -/
mutual
def uptoBulk {H : Type} : DataW H → Nat
  | .lit (.string bytes) => bytes.length + 1
  | .lit _ => 1
  | .nil => 1
  | .ptr d => uptoBulk d + 1
  | .slice elems spare => uptoBulkAll elems + uptoBulkAll spare + 1
  | .agg parts => uptoBulkAll parts + 1
  | .iface _ d => uptoBulk d + 1
  | .map entries => uptoBulkEntries entries + 1
  | .held _ => 1
def uptoBulkAll {H : Type} : List (DataW H) → Nat
  | [] => 0
  | d :: r => uptoBulk d + uptoBulkAll r
def uptoBulkEntries {H : Type} : List (Lit × DataW H) → Nat
  | [] => 0
  | x :: r => uptoBulkEntry x + uptoBulkEntries r
def uptoBulkEntry {H : Type} : Lit × DataW H → Nat
  | (.string bytes, d) => bytes.length + uptoBulk d + 1
  | (_, d) => uptoBulk d + 1
 end
def uptoSmall : (H : Type) → List (DataW H) → Bool := fun _ ds => decide (uptoBulkAll ds ≤ 1048576)
def OpenSpec.upto (s : _root_.Go.ChangeSpec) : _root_.Go.OpenSpec := { _root_.Go.OpenSpec.ofChange s with cond := some uptoSmall }

/-- 'valiselaw4.HeapPopsWhatWasPushed', WHERE WHAT IT READS IS OF BULK AT MOST 1048576: true; the input reads as it did. -/
def heapPopsWhatWasPushedUptoRow : OpenClaim := { program := "ytjhgjohnfkgleaa", sum := "0e6492a20d71b37dfbaa0fc85de26958df2f917124e298e36797debaa2d509e0", func := "valise/valiselaw4.HeapPopsWhatWasPushed", spec := "heapPopsWhatWasPushed", apart := false, narrowed := true }
def HeapPopsWhatWasPushedUptoSaid : Prop := heapPopsWhatWasPushedUptoRow.holds Try.pinned (OpenSpec.upto heapPopsWhatWasPushedSpec)

/-- 'valiselaw4.HeapNil', WHERE WHAT IT READS IS OF BULK AT MOST 1048576: true; the input reads as it did. -/
def heapNilUptoRow : OpenClaim := { program := "ytjhgjohnfkgleaa", sum := "0e6492a20d71b37dfbaa0fc85de26958df2f917124e298e36797debaa2d509e0", func := "valise/valiselaw4.HeapNil", spec := "heapNil", unfollowed := true, recurses := true, apart := false, narrowed := true }
def HeapNilUptoSaid : Prop := heapNilUptoRow.holds Try.pinned (OpenSpec.upto heapNilSpec)

/-- 'valiselaw4.HeapIsSorted', WHERE WHAT IT READS IS OF BULK AT MOST 1048576: true; the input reads as it did. -/
def heapIsSortedUptoRow : OpenClaim := { program := "ytjhgjohnfkgleaa", sum := "0e6492a20d71b37dfbaa0fc85de26958df2f917124e298e36797debaa2d509e0", func := "valise/valiselaw4.HeapIsSorted", spec := "heapIsSorted", unfollowed := true, recurses := true, apart := false, narrowed := true }
def HeapIsSortedUptoSaid : Prop := heapIsSortedUptoRow.holds Try.pinned (OpenSpec.upto heapIsSortedSpec)

/-- 'valiselaw4.HeapSortsOnce', WHERE WHAT IT READS IS OF BULK AT MOST 1048576: true; the input reads as it did. -/
def heapSortsOnceUptoRow : OpenClaim := { program := "ytjhgjohnfkgleaa", sum := "0e6492a20d71b37dfbaa0fc85de26958df2f917124e298e36797debaa2d509e0", func := "valise/valiselaw4.HeapSortsOnce", spec := "heapSortsOnce", unfollowed := true, recurses := true, apart := false, narrowed := true }
def HeapSortsOnceUptoSaid : Prop := heapSortsOnceUptoRow.holds Try.pinned (OpenSpec.upto heapSortsOnceSpec)

/-- 'valiselaw4.HeapDrainsAgain', WHERE WHAT IT READS IS OF BULK AT MOST 1048576: true; the input reads as it did. -/
def heapDrainsAgainUptoRow : OpenClaim := { program := "ytjhgjohnfkgleaa", sum := "0e6492a20d71b37dfbaa0fc85de26958df2f917124e298e36797debaa2d509e0", func := "valise/valiselaw4.HeapDrainsAgain", spec := "heapDrainsAgain", unfollowed := true, recurses := true, apart := false, narrowed := true }
def HeapDrainsAgainUptoSaid : Prop := heapDrainsAgainUptoRow.holds Try.pinned (OpenSpec.upto heapDrainsAgainSpec)

/-- 'valiselaw4.HeapDrains', WHERE WHAT IT READS IS OF BULK AT MOST 1048576: true; the input reads as it did. -/
def heapDrainsUptoRow : OpenClaim := { program := "ytjhgjohnfkgleaa", sum := "0e6492a20d71b37dfbaa0fc85de26958df2f917124e298e36797debaa2d509e0", func := "valise/valiselaw4.HeapDrains", spec := "heapDrains", unfollowed := true, recurses := true, apart := false, narrowed := true }
def HeapDrainsUptoSaid : Prop := heapDrainsUptoRow.holds Try.pinned (OpenSpec.upto heapDrainsSpec)

end Rows
end Go.Proofs.Ytjhgjohnfkgleaa
