/-
  NARROWER THAN 'FOR EVERY INPUT', by the rows' own cells (each row's printed sentence says how): HeaderMayBe: laid · HeaderNil: laid · HeaderMakes: laid · HeaderSound: laid · HeaderCut: laid · HeaderGoesBack: laid.
  DERIVED. THE GIVEN ROWS OF THIS SEAT. 6 by the template 'for every input the law returns true; each argument reads behind the call as it read before'; 0 by the template 'total and deterministic' (their statements: YtiabhmdefaabgabDoorTotals.lean).
  GIVEN WITH THE SEED: the statements are not yours to turn. If you find one false, say at which input.
  Laid BY PROGRAM, IN A SANDBOX (cutbox-rows.mjs): the forced cells as the released guide's own fill.sh prints them over the translation 10793a1558bdeaed… (all of the seat's roots in one cut). By AI agents, Wed Nov 11 2026. No macro, syntax, notation, axiom, sorry.
-/
import Derived.Test.YtiabhmdefaabgabDoorChecked
import GoSem.Claim
import GoSem.ClaimJoined
import GoSem.ClaimMapViews
import Derived.JoinedTies
import Derived.KernelRfl
namespace Go.Proofs.YtiabhmdefaabgabDoor
/- THE CELL 'sum', in the pinned program and in every row, IS THE sha256 OF THE DUMP (.gsa) THAT YtiabhmdefaabgabDoorProg.lean LOADS. Nothing in Lean hashes anything: it is a label: what it is worth is what the hold of that sum in a sandbox is worth. -/
noncomputable def Tryd.pinned : Pinned := { name := "ytiabhmdefaabgabdoor", sum := "10793a1558bdeaed77c5854ada7dbfc4ca4e6c30052e05cfca3d091d68a50865", checked := Tryd.checked }
namespace Rows
def none {H : Type} : Left H := { results := [], args := [] }

/- WHAT THE LISTED PACKAGE-LEVEL VARIABLES READ AS WHEN THE CALL BEGINS. Each datum BY PROGRAM (the guide's laid-datum.mjs) off the statement by which the dump's own 'gosem.cut.vars' lays the variable. In a bare row this is a premise. The card (YtiabhmdefaabgabDoorCards.lean) ties it to the program's text. -/
def laid_valise_header_order {H : Type} : DataW H := .agg [.lit (.int .i64 16), .lit (.int .i64 17), .lit (.int .i64 18), .lit (.int .i64 0), .lit (.int .i64 8), .lit (.int .i64 7), .lit (.int .i64 9), .lit (.int .i64 6), .lit (.int .i64 10), .lit (.int .i64 5), .lit (.int .i64 11), .lit (.int .i64 4), .lit (.int .i64 12), .lit (.int .i64 3), .lit (.int .i64 13), .lit (.int .i64 2), .lit (.int .i64 14), .lit (.int .i64 1), .lit (.int .i64 15)]
def laid_valise_header_least {H : Type} : DataW H := .agg [.lit (.int .i64 1), .lit (.int .i64 1), .lit (.int .i64 1), .lit (.int .i64 1), .lit (.int .i64 1), .lit (.int .i64 1), .lit (.int .i64 1), .lit (.int .i64 1), .lit (.int .i64 1), .lit (.int .i64 1), .lit (.int .i64 1), .lit (.int .i64 1), .lit (.int .i64 1), .lit (.int .i64 1), .lit (.int .i64 1), .lit (.int .i64 1), .lit (.int .i64 3), .lit (.int .i64 3), .lit (.int .i64 11)]
def laid_valise_header_further {H : Type} : DataW H := .agg [.lit (.int .i64 0), .lit (.int .i64 0), .lit (.int .i64 0), .lit (.int .i64 0), .lit (.int .i64 0), .lit (.int .i64 0), .lit (.int .i64 0), .lit (.int .i64 0), .lit (.int .i64 0), .lit (.int .i64 0), .lit (.int .i64 0), .lit (.int .i64 0), .lit (.int .i64 0), .lit (.int .i64 0), .lit (.int .i64 0), .lit (.int .i64 0), .lit (.int .i64 2), .lit (.int .i64 3), .lit (.int .i64 7)]
def laid_valise_valiseref7_order {H : Type} : DataW H := .agg [.lit (.int .i64 16), .lit (.int .i64 17), .lit (.int .i64 18), .lit (.int .i64 0), .lit (.int .i64 8), .lit (.int .i64 7), .lit (.int .i64 9), .lit (.int .i64 6), .lit (.int .i64 10), .lit (.int .i64 5), .lit (.int .i64 11), .lit (.int .i64 4), .lit (.int .i64 12), .lit (.int .i64 3), .lit (.int .i64 13), .lit (.int .i64 2), .lit (.int .i64 14), .lit (.int .i64 1), .lit (.int .i64 15)]

/-- 'valiselaw7.HeaderMayBe': WHATEVER THE INPUT: true; the input reads as it did. -/
def headerMayBeSpec : ChangeSpec := { name := "headerMayBe", fn := fun _ => fun
  | [d1, d2] => { results := [.lit (.bool true)], args := [d1, d2] }
  | _ => none }
def headerMayBeRow : OpenClaim := { program := "ytiabhmdefaabgabdoor", sum := "10793a1558bdeaed77c5854ada7dbfc4ca4e6c30052e05cfca3d091d68a50865", func := "valise/valiselaw7.HeaderMayBe", spec := "headerMayBe", unfollowed := true, recurses := true, named := ["valise/header.least", "valise/header.further", "valise/header.order"], apart := false, laid := [("valise/header.order", laid_valise_header_order), ("valise/header.least", laid_valise_header_least), ("valise/header.further", laid_valise_header_further)] }
def HeaderMayBeSaid : Prop := headerMayBeRow.holds Tryd.pinned (OpenSpec.ofChange headerMayBeSpec)

/-- ITS FALSE NEIGHBOUR: 'it returns false'. Refute it at one input. -/
def headerMayBeWrong : ChangeSpec := { name := "headerMayBe", fn := fun _ => fun
  | [d1, d2] => { results := [.lit (.bool false)], args := [d1, d2] }
  | _ => none }
def HeaderMayBeWrongFalsely : Prop := headerMayBeRow.holds Tryd.pinned (OpenSpec.ofChange headerMayBeWrong)

/-- 'valiselaw7.HeaderNil': WHATEVER THE INPUT: true; the input reads as it did. -/
def headerNilSpec : ChangeSpec := { name := "headerNil", fn := fun _ => fun
  | [] => { results := [.lit (.bool true)], args := [] }
  | _ => none }
def headerNilRow : OpenClaim := { program := "ytiabhmdefaabgabdoor", sum := "10793a1558bdeaed77c5854ada7dbfc4ca4e6c30052e05cfca3d091d68a50865", func := "valise/valiselaw7.HeaderNil", spec := "headerNil", unfollowed := true, recurses := true, named := ["valise/header.order", "valise/header.further", "valise/header.least"], apart := false, laid := [("valise/header.order", laid_valise_header_order), ("valise/header.least", laid_valise_header_least), ("valise/header.further", laid_valise_header_further)] }
def HeaderNilSaid : Prop := headerNilRow.holds Tryd.pinned (OpenSpec.ofChange headerNilSpec)

/-- ITS FALSE NEIGHBOUR: 'it returns false'. Refute it at one input. -/
def headerNilWrong : ChangeSpec := { name := "headerNil", fn := fun _ => fun
  | [] => { results := [.lit (.bool false)], args := [] }
  | _ => none }
def HeaderNilWrongFalsely : Prop := headerNilRow.holds Tryd.pinned (OpenSpec.ofChange headerNilWrong)

/-- 'valiselaw7.HeaderMakes': WHATEVER THE INPUT: true; the input reads as it did. -/
def headerMakesSpec : ChangeSpec := { name := "headerMakes", fn := fun _ => fun
  | [d1, d2] => { results := [.lit (.bool true)], args := [d1, d2] }
  | _ => none }
def headerMakesRow : OpenClaim := { program := "ytiabhmdefaabgabdoor", sum := "10793a1558bdeaed77c5854ada7dbfc4ca4e6c30052e05cfca3d091d68a50865", func := "valise/valiselaw7.HeaderMakes", spec := "headerMakes", unfollowed := true, recurses := true, named := ["valise/header.least", "valise/header.further", "valise/header.order", "valise/valiseref7.order"], apart := false, laid := [("valise/header.order", laid_valise_header_order), ("valise/header.least", laid_valise_header_least), ("valise/header.further", laid_valise_header_further), ("valise/valiseref7.order", laid_valise_valiseref7_order)] }
def HeaderMakesSaid : Prop := headerMakesRow.holds Tryd.pinned (OpenSpec.ofChange headerMakesSpec)

/-- ITS FALSE NEIGHBOUR: 'it returns false'. Refute it at one input. -/
def headerMakesWrong : ChangeSpec := { name := "headerMakes", fn := fun _ => fun
  | [d1, d2] => { results := [.lit (.bool false)], args := [d1, d2] }
  | _ => none }
def HeaderMakesWrongFalsely : Prop := headerMakesRow.holds Tryd.pinned (OpenSpec.ofChange headerMakesWrong)

/-- 'valiselaw7.HeaderSound': WHATEVER THE INPUT: true; the input reads as it did. -/
def headerSoundSpec : ChangeSpec := { name := "headerSound", fn := fun _ => fun
  | [d] => { results := [.lit (.bool true)], args := [d] }
  | _ => none }
def headerSoundRow : OpenClaim := { program := "ytiabhmdefaabgabdoor", sum := "10793a1558bdeaed77c5854ada7dbfc4ca4e6c30052e05cfca3d091d68a50865", func := "valise/valiselaw7.HeaderSound", spec := "headerSound", unfollowed := true, recurses := true, named := ["valise/header.order", "valise/header.further", "valise/header.least"], apart := false, laid := [("valise/header.order", laid_valise_header_order), ("valise/header.least", laid_valise_header_least), ("valise/header.further", laid_valise_header_further)] }
def HeaderSoundSaid : Prop := headerSoundRow.holds Tryd.pinned (OpenSpec.ofChange headerSoundSpec)

/-- ITS FALSE NEIGHBOUR: 'it returns false'. Refute it at one input. -/
def headerSoundWrong : ChangeSpec := { name := "headerSound", fn := fun _ => fun
  | [d] => { results := [.lit (.bool false)], args := [d] }
  | _ => none }
def HeaderSoundWrongFalsely : Prop := headerSoundRow.holds Tryd.pinned (OpenSpec.ofChange headerSoundWrong)

/-- 'valiselaw7.HeaderCut': WHATEVER THE INPUT: true; the input reads as it did. -/
def headerCutSpec : ChangeSpec := { name := "headerCut", fn := fun _ => fun
  | [d1, d2, d3, d4] => { results := [.lit (.bool true)], args := [d1, d2, d3, d4] }
  | _ => none }
def headerCutRow : OpenClaim := { program := "ytiabhmdefaabgabdoor", sum := "10793a1558bdeaed77c5854ada7dbfc4ca4e6c30052e05cfca3d091d68a50865", func := "valise/valiselaw7.HeaderCut", spec := "headerCut", unfollowed := true, recurses := true, named := ["valise/header.least", "valise/header.further", "valise/header.order"], apart := false, laid := [("valise/header.order", laid_valise_header_order), ("valise/header.least", laid_valise_header_least), ("valise/header.further", laid_valise_header_further)] }
def HeaderCutSaid : Prop := headerCutRow.holds Tryd.pinned (OpenSpec.ofChange headerCutSpec)

/-- ITS FALSE NEIGHBOUR: 'it returns false'. Refute it at one input. -/
def headerCutWrong : ChangeSpec := { name := "headerCut", fn := fun _ => fun
  | [d1, d2, d3, d4] => { results := [.lit (.bool false)], args := [d1, d2, d3, d4] }
  | _ => none }
def HeaderCutWrongFalsely : Prop := headerCutRow.holds Tryd.pinned (OpenSpec.ofChange headerCutWrong)

/-- 'valiselaw7.HeaderGoesBack': WHATEVER THE INPUT: true; the input reads as it did. -/
def headerGoesBackSpec : ChangeSpec := { name := "headerGoesBack", fn := fun _ => fun
  | [d1, d2, d3, d4, d5] => { results := [.lit (.bool true)], args := [d1, d2, d3, d4, d5] }
  | _ => none }
def headerGoesBackRow : OpenClaim := { program := "ytiabhmdefaabgabdoor", sum := "10793a1558bdeaed77c5854ada7dbfc4ca4e6c30052e05cfca3d091d68a50865", func := "valise/valiselaw7.HeaderGoesBack", spec := "headerGoesBack", unfollowed := true, recurses := true, named := ["valise/header.least", "valise/header.further", "valise/header.order"], apart := false, laid := [("valise/header.order", laid_valise_header_order), ("valise/header.least", laid_valise_header_least), ("valise/header.further", laid_valise_header_further)] }
def HeaderGoesBackSaid : Prop := headerGoesBackRow.holds Tryd.pinned (OpenSpec.ofChange headerGoesBackSpec)

/-- ITS FALSE NEIGHBOUR: 'it returns false'. Refute it at one input. -/
def headerGoesBackWrong : ChangeSpec := { name := "headerGoesBack", fn := fun _ => fun
  | [d1, d2, d3, d4, d5] => { results := [.lit (.bool false)], args := [d1, d2, d3, d4, d5] }
  | _ => none }
def HeaderGoesBackWrongFalsely : Prop := headerGoesBackRow.holds Tryd.pinned (OpenSpec.ofChange headerGoesBackWrong)

/- THE SECOND FORM. 'bulk': how many values and letters a reading holds, each counted each time it is reached (what is shared counts as often as it is met; a slice's spare places count too). A statement '..UptoSaid' is the law's where the arguments, and the package variables that the reading takes, are together of bulk at most 1048576: NARROWER than '..Said'. Prove '..Said' where nothing that the law and all that it calls make is longer than what came in: it says more and counts as full. Else prove '..UptoSaid'. A law counts once. -/
mutual
def uptoBulk {H : Type} : DataW H → Nat
  | .lit (.string bytes) => bytes.length + 1
  | .lit _ => 1
  | .nil => 1
  | .ptr d => uptoBulk d + 1
  | .slice elems spare => uptoBulkAll elems + uptoBulkAll spare + 1
  | .agg parts => uptoBulkAll parts + 1
  | .iface _ d => uptoBulk d + 1
  | .map entries => uptoBulkEntries entries + 1
  | .held _ => 1
def uptoBulkAll {H : Type} : List (DataW H) → Nat
  | [] => 0
  | d :: r => uptoBulk d + uptoBulkAll r
def uptoBulkEntries {H : Type} : List (Lit × DataW H) → Nat
  | [] => 0
  | x :: r => uptoBulkEntry x + uptoBulkEntries r
def uptoBulkEntry {H : Type} : Lit × DataW H → Nat
  | (.string bytes, d) => bytes.length + uptoBulk d + 1
  | (_, d) => uptoBulk d + 1
 end
def uptoSmall : (H : Type) → List (DataW H) → Bool := fun _ ds => decide (uptoBulkAll ds ≤ 1048576)
def OpenSpec.upto (s : _root_.Go.ChangeSpec) : _root_.Go.OpenSpec := { _root_.Go.OpenSpec.ofChange s with cond := some uptoSmall }

/-- 'valiselaw7.HeaderMayBe', WHERE WHAT IT READS IS OF BULK AT MOST 1048576: true; the input reads as it did. -/
def headerMayBeUptoRow : OpenClaim := { program := "ytiabhmdefaabgabdoor", sum := "10793a1558bdeaed77c5854ada7dbfc4ca4e6c30052e05cfca3d091d68a50865", func := "valise/valiselaw7.HeaderMayBe", spec := "headerMayBe", unfollowed := true, recurses := true, named := ["valise/header.least", "valise/header.further", "valise/header.order"], apart := false, laid := [("valise/header.order", laid_valise_header_order), ("valise/header.least", laid_valise_header_least), ("valise/header.further", laid_valise_header_further)], narrowed := true }
def HeaderMayBeUptoSaid : Prop := headerMayBeUptoRow.holds Tryd.pinned (OpenSpec.upto headerMayBeSpec)

/-- 'valiselaw7.HeaderNil', WHERE WHAT IT READS IS OF BULK AT MOST 1048576: true; the input reads as it did. -/
def headerNilUptoRow : OpenClaim := { program := "ytiabhmdefaabgabdoor", sum := "10793a1558bdeaed77c5854ada7dbfc4ca4e6c30052e05cfca3d091d68a50865", func := "valise/valiselaw7.HeaderNil", spec := "headerNil", unfollowed := true, recurses := true, named := ["valise/header.order", "valise/header.further", "valise/header.least"], apart := false, laid := [("valise/header.order", laid_valise_header_order), ("valise/header.least", laid_valise_header_least), ("valise/header.further", laid_valise_header_further)], narrowed := true }
def HeaderNilUptoSaid : Prop := headerNilUptoRow.holds Tryd.pinned (OpenSpec.upto headerNilSpec)

/-- 'valiselaw7.HeaderMakes', WHERE WHAT IT READS IS OF BULK AT MOST 1048576: true; the input reads as it did. -/
def headerMakesUptoRow : OpenClaim := { program := "ytiabhmdefaabgabdoor", sum := "10793a1558bdeaed77c5854ada7dbfc4ca4e6c30052e05cfca3d091d68a50865", func := "valise/valiselaw7.HeaderMakes", spec := "headerMakes", unfollowed := true, recurses := true, named := ["valise/header.least", "valise/header.further", "valise/header.order", "valise/valiseref7.order"], apart := false, laid := [("valise/header.order", laid_valise_header_order), ("valise/header.least", laid_valise_header_least), ("valise/header.further", laid_valise_header_further), ("valise/valiseref7.order", laid_valise_valiseref7_order)], narrowed := true }
def HeaderMakesUptoSaid : Prop := headerMakesUptoRow.holds Tryd.pinned (OpenSpec.upto headerMakesSpec)

/-- 'valiselaw7.HeaderSound', WHERE WHAT IT READS IS OF BULK AT MOST 1048576: true; the input reads as it did. -/
def headerSoundUptoRow : OpenClaim := { program := "ytiabhmdefaabgabdoor", sum := "10793a1558bdeaed77c5854ada7dbfc4ca4e6c30052e05cfca3d091d68a50865", func := "valise/valiselaw7.HeaderSound", spec := "headerSound", unfollowed := true, recurses := true, named := ["valise/header.order", "valise/header.further", "valise/header.least"], apart := false, laid := [("valise/header.order", laid_valise_header_order), ("valise/header.least", laid_valise_header_least), ("valise/header.further", laid_valise_header_further)], narrowed := true }
def HeaderSoundUptoSaid : Prop := headerSoundUptoRow.holds Tryd.pinned (OpenSpec.upto headerSoundSpec)

/-- 'valiselaw7.HeaderCut', WHERE WHAT IT READS IS OF BULK AT MOST 1048576: true; the input reads as it did. -/
def headerCutUptoRow : OpenClaim := { program := "ytiabhmdefaabgabdoor", sum := "10793a1558bdeaed77c5854ada7dbfc4ca4e6c30052e05cfca3d091d68a50865", func := "valise/valiselaw7.HeaderCut", spec := "headerCut", unfollowed := true, recurses := true, named := ["valise/header.least", "valise/header.further", "valise/header.order"], apart := false, laid := [("valise/header.order", laid_valise_header_order), ("valise/header.least", laid_valise_header_least), ("valise/header.further", laid_valise_header_further)], narrowed := true }
def HeaderCutUptoSaid : Prop := headerCutUptoRow.holds Tryd.pinned (OpenSpec.upto headerCutSpec)

/-- 'valiselaw7.HeaderGoesBack', WHERE WHAT IT READS IS OF BULK AT MOST 1048576: true; the input reads as it did. -/
def headerGoesBackUptoRow : OpenClaim := { program := "ytiabhmdefaabgabdoor", sum := "10793a1558bdeaed77c5854ada7dbfc4ca4e6c30052e05cfca3d091d68a50865", func := "valise/valiselaw7.HeaderGoesBack", spec := "headerGoesBack", unfollowed := true, recurses := true, named := ["valise/header.least", "valise/header.further", "valise/header.order"], apart := false, laid := [("valise/header.order", laid_valise_header_order), ("valise/header.least", laid_valise_header_least), ("valise/header.further", laid_valise_header_further)], narrowed := true }
def HeaderGoesBackUptoSaid : Prop := headerGoesBackUptoRow.holds Tryd.pinned (OpenSpec.upto headerGoesBackSpec)

end Rows
end Go.Proofs.YtiabhmdefaabgabDoor
