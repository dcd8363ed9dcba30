/-
  No cell of these rows narrows 'for every input' (looked for: loops, veiled, ifaces, maps, wideKeys, modest, calm, conditions, laid).
  DERIVED. THE GIVEN ROWS OF THIS SEAT. 3 by the template 'for every input the law returns true; each argument reads behind the call as it read before'; 0 by the template 'total and deterministic' (their statements: YtmbgjkghcpkoiaaTotals.lean).
  GIVEN WITH THE SEED: the statements are not yours to turn. If you find one false, say at which input.
  Laid BY PROGRAM, IN A SANDBOX (cutbox-rows.mjs): the forced cells as the released guide's own fill.sh prints them over the translation e16199940380ab0d… (all of the seat's roots in one cut). By AI agents, Wed Nov 11 2026. No macro, syntax, notation, axiom, sorry.
-/
import Derived.Test.YtmbgjkghcpkoiaaChecked
import GoSem.Claim
import GoSem.ClaimJoined
import GoSem.ClaimMapViews
import Derived.JoinedTies
import Derived.KernelRfl
namespace Go.Proofs.Ytmbgjkghcpkoiaa
/- THE CELL 'sum', in the pinned program and in every row, IS THE sha256 OF THE DUMP (.gsa) THAT YtmbgjkghcpkoiaaProg.lean LOADS. Nothing in Lean hashes anything: it is a label: what it is worth is what the hold of that sum in a sandbox is worth. -/
noncomputable def Try.pinned : Pinned := { name := "ytmbgjkghcpkoiaa", sum := "e16199940380ab0dbf842d53b3f8a89e66a45df55991478102a00d2e962589ca", checked := Try.checked }
namespace Rows
def none {H : Type} : Left H := { results := [], args := [] }

/-- 'valiselaw13.LayoutExtents': WHATEVER THE INPUT: true; the input reads as it did. -/
def layoutExtentsSpec : ChangeSpec := { name := "layoutExtents", fn := fun _ => fun
  | [d] => { results := [.lit (.bool true)], args := [d] }
  | _ => none }
def layoutExtentsRow : OpenClaim := { program := "ytmbgjkghcpkoiaa", sum := "e16199940380ab0dbf842d53b3f8a89e66a45df55991478102a00d2e962589ca", func := "valise/valiselaw13.LayoutExtents", spec := "layoutExtents", unfollowed := true, recurses := true, apart := false }
def LayoutExtentsSaid : Prop := layoutExtentsRow.holds Try.pinned (OpenSpec.ofChange layoutExtentsSpec)

/-- ITS FALSE NEIGHBOUR: 'it returns false'. Refute it at one input. -/
def layoutExtentsWrong : ChangeSpec := { name := "layoutExtents", fn := fun _ => fun
  | [d] => { results := [.lit (.bool false)], args := [d] }
  | _ => none }
def LayoutExtentsWrongFalsely : Prop := layoutExtentsRow.holds Try.pinned (OpenSpec.ofChange layoutExtentsWrong)

/-- 'valiselaw13.LayoutGaps': WHATEVER THE INPUT: true; the input reads as it did. -/
def layoutGapsSpec : ChangeSpec := { name := "layoutGaps", fn := fun _ => fun
  | [d] => { results := [.lit (.bool true)], args := [d] }
  | _ => none }
def layoutGapsRow : OpenClaim := { program := "ytmbgjkghcpkoiaa", sum := "e16199940380ab0dbf842d53b3f8a89e66a45df55991478102a00d2e962589ca", func := "valise/valiselaw13.LayoutGaps", spec := "layoutGaps", unfollowed := true, recurses := true, apart := false }
def LayoutGapsSaid : Prop := layoutGapsRow.holds Try.pinned (OpenSpec.ofChange layoutGapsSpec)

/-- ITS FALSE NEIGHBOUR: 'it returns false'. Refute it at one input. -/
def layoutGapsWrong : ChangeSpec := { name := "layoutGaps", fn := fun _ => fun
  | [d] => { results := [.lit (.bool false)], args := [d] }
  | _ => none }
def LayoutGapsWrongFalsely : Prop := layoutGapsRow.holds Try.pinned (OpenSpec.ofChange layoutGapsWrong)

/-- 'valiselaw13.LayoutGapsCover': WHATEVER THE INPUT: true; the input reads as it did. -/
def layoutGapsCoverSpec : ChangeSpec := { name := "layoutGapsCover", fn := fun _ => fun
  | [d] => { results := [.lit (.bool true)], args := [d] }
  | _ => none }
def layoutGapsCoverRow : OpenClaim := { program := "ytmbgjkghcpkoiaa", sum := "e16199940380ab0dbf842d53b3f8a89e66a45df55991478102a00d2e962589ca", func := "valise/valiselaw13.LayoutGapsCover", spec := "layoutGapsCover", unfollowed := true, recurses := true, apart := false }
def LayoutGapsCoverSaid : Prop := layoutGapsCoverRow.holds Try.pinned (OpenSpec.ofChange layoutGapsCoverSpec)

/-- ITS FALSE NEIGHBOUR: 'it returns false'. Refute it at one input. -/
def layoutGapsCoverWrong : ChangeSpec := { name := "layoutGapsCover", fn := fun _ => fun
  | [d] => { results := [.lit (.bool false)], args := [d] }
  | _ => none }
def LayoutGapsCoverWrongFalsely : Prop := layoutGapsCoverRow.holds Try.pinned (OpenSpec.ofChange layoutGapsCoverWrong)

/- THE SECOND FORM. 'bulk': how many values and letters a reading holds, each counted each time it is reached (what is shared counts as often as it is met; a slice's spare places count too). A statement '..UptoSaid' is the law's where the arguments, and the package variables that the reading takes, are together of bulk at most 1048576: NARROWER than '..Said'. Prove '..Said' where nothing that the law and all that it calls make is longer than what came in: it says more and counts as full. Else prove '..UptoSaid'. A law counts once. -/
mutual
def uptoBulk {H : Type} : DataW H → Nat
  | .lit (.string bytes) => bytes.length + 1
  | .lit _ => 1
  | .nil => 1
  | .ptr d => uptoBulk d + 1
  | .slice elems spare => uptoBulkAll elems + uptoBulkAll spare + 1
  | .agg parts => uptoBulkAll parts + 1
  | .iface _ d => uptoBulk d + 1
  | .map entries => uptoBulkEntries entries + 1
  | .held _ => 1
def uptoBulkAll {H : Type} : List (DataW H) → Nat
  | [] => 0
  | d :: r => uptoBulk d + uptoBulkAll r
def uptoBulkEntries {H : Type} : List (Lit × DataW H) → Nat
  | [] => 0
  | x :: r => uptoBulkEntry x + uptoBulkEntries r
def uptoBulkEntry {H : Type} : Lit × DataW H → Nat
  | (.string bytes, d) => bytes.length + uptoBulk d + 1
  | (_, d) => uptoBulk d + 1
 end
def uptoSmall : (H : Type) → List (DataW H) → Bool := fun _ ds => decide (uptoBulkAll ds ≤ 1048576)
def OpenSpec.upto (s : _root_.Go.ChangeSpec) : _root_.Go.OpenSpec := { _root_.Go.OpenSpec.ofChange s with cond := some uptoSmall }

/-- 'valiselaw13.LayoutExtents', WHERE WHAT IT READS IS OF BULK AT MOST 1048576: true; the input reads as it did. -/
def layoutExtentsUptoRow : OpenClaim := { program := "ytmbgjkghcpkoiaa", sum := "e16199940380ab0dbf842d53b3f8a89e66a45df55991478102a00d2e962589ca", func := "valise/valiselaw13.LayoutExtents", spec := "layoutExtents", unfollowed := true, recurses := true, apart := false, narrowed := true }
def LayoutExtentsUptoSaid : Prop := layoutExtentsUptoRow.holds Try.pinned (OpenSpec.upto layoutExtentsSpec)

/-- 'valiselaw13.LayoutGaps', WHERE WHAT IT READS IS OF BULK AT MOST 1048576: true; the input reads as it did. -/
def layoutGapsUptoRow : OpenClaim := { program := "ytmbgjkghcpkoiaa", sum := "e16199940380ab0dbf842d53b3f8a89e66a45df55991478102a00d2e962589ca", func := "valise/valiselaw13.LayoutGaps", spec := "layoutGaps", unfollowed := true, recurses := true, apart := false, narrowed := true }
def LayoutGapsUptoSaid : Prop := layoutGapsUptoRow.holds Try.pinned (OpenSpec.upto layoutGapsSpec)

/-- 'valiselaw13.LayoutGapsCover', WHERE WHAT IT READS IS OF BULK AT MOST 1048576: true; the input reads as it did. -/
def layoutGapsCoverUptoRow : OpenClaim := { program := "ytmbgjkghcpkoiaa", sum := "e16199940380ab0dbf842d53b3f8a89e66a45df55991478102a00d2e962589ca", func := "valise/valiselaw13.LayoutGapsCover", spec := "layoutGapsCover", unfollowed := true, recurses := true, apart := false, narrowed := true }
def LayoutGapsCoverUptoSaid : Prop := layoutGapsCoverUptoRow.holds Try.pinned (OpenSpec.upto layoutGapsCoverSpec)

end Rows
end Go.Proofs.Ytmbgjkghcpkoiaa
