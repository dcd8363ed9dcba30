/-
  NARROWER THAN 'FOR EVERY INPUT', by the rows' own cells (each row's printed sentence says how): SeekMarks: laid · SeekBuilds: laid.
  DERIVED. THE GIVEN ROWS OF THIS SEAT. 2 by the template 'for every input the law returns true; each argument reads behind the call as it read before'; 0 by the template 'total and deterministic' (their statements: YtmjdpfigkojolaaGreatDoorTotals.lean).
  GIVEN WITH THE SEED: the statements are not yours to turn. If you find one false, say at which input.
  Laid BY PROGRAM, IN A SANDBOX (cutbox-rows.mjs): the forced cells as the released guide's own fill.sh prints them over the translation b9b4d2540b9abd43… (all of the seat's roots in one cut). By AI agents, Wed Nov 11 2026. No macro, syntax, notation, axiom, sorry.
-/
import Derived.Test.YtmjdpfigkojolaaGreatDoorChecked
import GoSem.Claim
import GoSem.ClaimJoined
import GoSem.ClaimMapViews
import Derived.JoinedTies
import Derived.KernelRfl
namespace Go.Proofs.YtmjdpfigkojolaaGreatDoor
/- THE CELL 'sum', in the pinned program and in every row, IS THE sha256 OF THE DUMP (.gsa) THAT YtmjdpfigkojolaaGreatDoorProg.lean LOADS. Nothing in Lean hashes anything: it is a label: what it is worth is what the hold of that sum in a sandbox is worth. -/
noncomputable def Tryz.pinned : Pinned := { name := "ytmjdpfigkojolaagreatdoor", sum := "b9b4d2540b9abd436bd9cb365a78342f21d4c8f2dedb897ae98f84768c2fa958", checked := Tryz.checked }
namespace Rows
def none {H : Type} : Left H := { results := [], args := [] }

/- WHAT THE LISTED PACKAGE-LEVEL VARIABLES READ AS WHEN THE CALL BEGINS. Each datum BY PROGRAM (the guide's laid-datum.mjs) off the statement by which the dump's own 'gosem.cut.vars' lays the variable. In a bare row this is a premise. The card (YtmjdpfigkojolaaGreatDoorCards.lean) ties it to the program's text. -/
def laid_valise_header_order {H : Type} : DataW H := .agg [.lit (.int .i64 16), .lit (.int .i64 17), .lit (.int .i64 18), .lit (.int .i64 0), .lit (.int .i64 8), .lit (.int .i64 7), .lit (.int .i64 9), .lit (.int .i64 6), .lit (.int .i64 10), .lit (.int .i64 5), .lit (.int .i64 11), .lit (.int .i64 4), .lit (.int .i64 12), .lit (.int .i64 3), .lit (.int .i64 13), .lit (.int .i64 2), .lit (.int .i64 14), .lit (.int .i64 1), .lit (.int .i64 15)]
def laid_valise_header_least {H : Type} : DataW H := .agg [.lit (.int .i64 1), .lit (.int .i64 1), .lit (.int .i64 1), .lit (.int .i64 1), .lit (.int .i64 1), .lit (.int .i64 1), .lit (.int .i64 1), .lit (.int .i64 1), .lit (.int .i64 1), .lit (.int .i64 1), .lit (.int .i64 1), .lit (.int .i64 1), .lit (.int .i64 1), .lit (.int .i64 1), .lit (.int .i64 1), .lit (.int .i64 1), .lit (.int .i64 3), .lit (.int .i64 3), .lit (.int .i64 11)]
def laid_valise_header_further {H : Type} : DataW H := .agg [.lit (.int .i64 0), .lit (.int .i64 0), .lit (.int .i64 0), .lit (.int .i64 0), .lit (.int .i64 0), .lit (.int .i64 0), .lit (.int .i64 0), .lit (.int .i64 0), .lit (.int .i64 0), .lit (.int .i64 0), .lit (.int .i64 0), .lit (.int .i64 0), .lit (.int .i64 0), .lit (.int .i64 0), .lit (.int .i64 0), .lit (.int .i64 0), .lit (.int .i64 2), .lit (.int .i64 3), .lit (.int .i64 7)]
def laid_valise_valiseref7_order {H : Type} : DataW H := .agg [.lit (.int .i64 16), .lit (.int .i64 17), .lit (.int .i64 18), .lit (.int .i64 0), .lit (.int .i64 8), .lit (.int .i64 7), .lit (.int .i64 9), .lit (.int .i64 6), .lit (.int .i64 10), .lit (.int .i64 5), .lit (.int .i64 11), .lit (.int .i64 4), .lit (.int .i64 12), .lit (.int .i64 3), .lit (.int .i64 13), .lit (.int .i64 2), .lit (.int .i64 14), .lit (.int .i64 1), .lit (.int .i64 15)]

/-- 'valiselaw22.SeekMarks': WHATEVER THE INPUT: true; the input reads as it did. -/
def seekMarksSpec : ChangeSpec := { name := "seekMarks", fn := fun _ => fun
  | [d1, d2, d3] => { results := [.lit (.bool true)], args := [d1, d2, d3] }
  | _ => none }
def seekMarksRow : OpenClaim := { program := "ytmjdpfigkojolaagreatdoor", sum := "b9b4d2540b9abd436bd9cb365a78342f21d4c8f2dedb897ae98f84768c2fa958", func := "valise/valiselaw22.SeekMarks", spec := "seekMarks", unfollowed := true, recurses := true, named := ["valise/header.order", "valise/header.further", "valise/header.least"], apart := false, laid := [("valise/header.order", laid_valise_header_order), ("valise/header.least", laid_valise_header_least), ("valise/header.further", laid_valise_header_further)] }
def SeekMarksSaid : Prop := seekMarksRow.holds Tryz.pinned (OpenSpec.ofChange seekMarksSpec)

/-- ITS FALSE NEIGHBOUR: 'it returns false'. Refute it at one input. -/
def seekMarksWrong : ChangeSpec := { name := "seekMarks", fn := fun _ => fun
  | [d1, d2, d3] => { results := [.lit (.bool false)], args := [d1, d2, d3] }
  | _ => none }
def SeekMarksWrongFalsely : Prop := seekMarksRow.holds Tryz.pinned (OpenSpec.ofChange seekMarksWrong)

/-- 'valiselaw22.SeekBuilds': WHATEVER THE INPUT: true; the input reads as it did. -/
def seekBuildsSpec : ChangeSpec := { name := "seekBuilds", fn := fun _ => fun
  | [d1, d2, d3] => { results := [.lit (.bool true)], args := [d1, d2, d3] }
  | _ => none }
def seekBuildsRow : OpenClaim := { program := "ytmjdpfigkojolaagreatdoor", sum := "b9b4d2540b9abd436bd9cb365a78342f21d4c8f2dedb897ae98f84768c2fa958", func := "valise/valiselaw22.SeekBuilds", spec := "seekBuilds", unfollowed := true, recurses := true, named := ["valise/header.order", "valise/header.further", "valise/header.least", "valise/valiseref7.order"], apart := false, laid := [("valise/header.order", laid_valise_header_order), ("valise/header.least", laid_valise_header_least), ("valise/header.further", laid_valise_header_further), ("valise/valiseref7.order", laid_valise_valiseref7_order)] }
def SeekBuildsSaid : Prop := seekBuildsRow.holds Tryz.pinned (OpenSpec.ofChange seekBuildsSpec)

/-- ITS FALSE NEIGHBOUR: 'it returns false'. Refute it at one input. -/
def seekBuildsWrong : ChangeSpec := { name := "seekBuilds", fn := fun _ => fun
  | [d1, d2, d3] => { results := [.lit (.bool false)], args := [d1, d2, d3] }
  | _ => none }
def SeekBuildsWrongFalsely : Prop := seekBuildsRow.holds Tryz.pinned (OpenSpec.ofChange seekBuildsWrong)

/- THE SECOND FORM. 'bulk': how many values and letters a reading holds, each counted each time it is reached (what is shared counts as often as it is met; a slice's spare places count too). A statement '..UptoSaid' is the law's where the arguments, and the package variables that the reading takes, are together of bulk at most 1048576: NARROWER than '..Said'. Prove '..Said' where nothing that the law and all that it calls make is longer than what came in: it says more and counts as full. Else prove '..UptoSaid'. A law counts once. -/
mutual
def uptoBulk {H : Type} : DataW H → Nat
  | .lit (.string bytes) => bytes.length + 1
  | .lit _ => 1
  | .nil => 1
  | .ptr d => uptoBulk d + 1
  | .slice elems spare => uptoBulkAll elems + uptoBulkAll spare + 1
  | .agg parts => uptoBulkAll parts + 1
  | .iface _ d => uptoBulk d + 1
  | .map entries => uptoBulkEntries entries + 1
  | .held _ => 1
def uptoBulkAll {H : Type} : List (DataW H) → Nat
  | [] => 0
  | d :: r => uptoBulk d + uptoBulkAll r
def uptoBulkEntries {H : Type} : List (Lit × DataW H) → Nat
  | [] => 0
  | x :: r => uptoBulkEntry x + uptoBulkEntries r
def uptoBulkEntry {H : Type} : Lit × DataW H → Nat
  | (.string bytes, d) => bytes.length + uptoBulk d + 1
  | (_, d) => uptoBulk d + 1
 end
def uptoSmall : (H : Type) → List (DataW H) → Bool := fun _ ds => decide (uptoBulkAll ds ≤ 1048576)
def OpenSpec.upto (s : _root_.Go.ChangeSpec) : _root_.Go.OpenSpec := { _root_.Go.OpenSpec.ofChange s with cond := some uptoSmall }

/-- 'valiselaw22.SeekMarks', WHERE WHAT IT READS IS OF BULK AT MOST 1048576: true; the input reads as it did. -/
def seekMarksUptoRow : OpenClaim := { program := "ytmjdpfigkojolaagreatdoor", sum := "b9b4d2540b9abd436bd9cb365a78342f21d4c8f2dedb897ae98f84768c2fa958", func := "valise/valiselaw22.SeekMarks", spec := "seekMarks", unfollowed := true, recurses := true, named := ["valise/header.order", "valise/header.further", "valise/header.least"], apart := false, laid := [("valise/header.order", laid_valise_header_order), ("valise/header.least", laid_valise_header_least), ("valise/header.further", laid_valise_header_further)], narrowed := true }
def SeekMarksUptoSaid : Prop := seekMarksUptoRow.holds Tryz.pinned (OpenSpec.upto seekMarksSpec)

/-- 'valiselaw22.SeekBuilds', WHERE WHAT IT READS IS OF BULK AT MOST 1048576: true; the input reads as it did. -/
def seekBuildsUptoRow : OpenClaim := { program := "ytmjdpfigkojolaagreatdoor", sum := "b9b4d2540b9abd436bd9cb365a78342f21d4c8f2dedb897ae98f84768c2fa958", func := "valise/valiselaw22.SeekBuilds", spec := "seekBuilds", unfollowed := true, recurses := true, named := ["valise/header.order", "valise/header.further", "valise/header.least", "valise/valiseref7.order"], apart := false, laid := [("valise/header.order", laid_valise_header_order), ("valise/header.least", laid_valise_header_least), ("valise/header.further", laid_valise_header_further), ("valise/valiseref7.order", laid_valise_valiseref7_order)], narrowed := true }
def SeekBuildsUptoSaid : Prop := seekBuildsUptoRow.holds Tryz.pinned (OpenSpec.upto seekBuildsSpec)

end Rows
end Go.Proofs.YtmjdpfigkojolaaGreatDoor
