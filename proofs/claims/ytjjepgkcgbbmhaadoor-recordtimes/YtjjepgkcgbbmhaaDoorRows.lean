/-
  NARROWER THAN 'FOR EVERY INPUT', by the rows' own cells (each row's printed sentence says how): RecordTimes: laid · RecordStamps: laid.
  DERIVED. THE GIVEN ROWS OF THIS SEAT. 2 by the template 'for every input the law returns true; each argument reads behind the call as it read before'; 0 by the template 'total and deterministic' (their statements: YtjjepgkcgbbmhaaDoorTotals.lean).
  GIVEN WITH THE SEED: the statements are not yours to turn. If you find one false, say at which input.
  Laid BY PROGRAM, IN A SANDBOX (cutbox-rows.mjs): the forced cells as the released guide's own fill.sh prints them over the translation b0f883cccd83d909… (all of the seat's roots in one cut). By AI agents, Wed Nov 11 2026. No macro, syntax, notation, axiom, sorry.
-/
import Derived.Test.YtjjepgkcgbbmhaaDoorChecked
import GoSem.Claim
import GoSem.ClaimJoined
import GoSem.ClaimMapViews
import Derived.JoinedTies
import Derived.KernelRfl
namespace Go.Proofs.YtjjepgkcgbbmhaaDoor
/- THE CELL 'sum', in the pinned program and in every row, IS THE sha256 OF THE DUMP (.gsa) THAT YtjjepgkcgbbmhaaDoorProg.lean LOADS. Nothing in Lean hashes anything: it is a label: what it is worth is what the hold of that sum in a sandbox is worth. -/
noncomputable def Tryd.pinned : Pinned := { name := "ytjjepgkcgbbmhaadoor", sum := "b0f883cccd83d909a01637d2f469ab2d1d13b67a27f9f69956048ad05eb0aa8f", checked := Tryd.checked }
namespace Rows
def none {H : Type} : Left H := { results := [], args := [] }

/- WHAT THE LISTED PACKAGE-LEVEL VARIABLES READ AS WHEN THE CALL BEGINS. Each datum BY PROGRAM (the guide's laid-datum.mjs) off the statement by which the dump's own 'gosem.cut.vars' lays the variable. In a bare row this is a premise. The card (YtjjepgkcgbbmhaaDoorCards.lean) ties it to the program's text. -/
def laid_valise_record_monthDays {H : Type} : DataW H := .agg [.lit (.int .i64 31), .lit (.int .i64 28), .lit (.int .i64 31), .lit (.int .i64 30), .lit (.int .i64 31), .lit (.int .i64 30), .lit (.int .i64 31), .lit (.int .i64 31), .lit (.int .i64 30), .lit (.int .i64 31), .lit (.int .i64 30), .lit (.int .i64 31)]

/-- 'valiselaw12.RecordTimes': WHATEVER THE INPUT: true; the input reads as it did. -/
def recordTimesSpec : ChangeSpec := { name := "recordTimes", fn := fun _ => fun
  | [d1, d2] => { results := [.lit (.bool true)], args := [d1, d2] }
  | _ => none }
def recordTimesRow : OpenClaim := { program := "ytjjepgkcgbbmhaadoor", sum := "b0f883cccd83d909a01637d2f469ab2d1d13b67a27f9f69956048ad05eb0aa8f", func := "valise/valiselaw12.RecordTimes", spec := "recordTimes", named := ["valise/record.monthDays"], apart := false, laid := [("valise/record.monthDays", laid_valise_record_monthDays)] }
def RecordTimesSaid : Prop := recordTimesRow.holds Tryd.pinned (OpenSpec.ofChange recordTimesSpec)

/-- ITS FALSE NEIGHBOUR: 'it returns false'. Refute it at one input. -/
def recordTimesWrong : ChangeSpec := { name := "recordTimes", fn := fun _ => fun
  | [d1, d2] => { results := [.lit (.bool false)], args := [d1, d2] }
  | _ => none }
def RecordTimesWrongFalsely : Prop := recordTimesRow.holds Tryd.pinned (OpenSpec.ofChange recordTimesWrong)

/-- 'valiselaw12.RecordStamps': WHATEVER THE INPUT: true; the input reads as it did. -/
def recordStampsSpec : ChangeSpec := { name := "recordStamps", fn := fun _ => fun
  | [d1, d2, d3] => { results := [.lit (.bool true)], args := [d1, d2, d3] }
  | _ => none }
def recordStampsRow : OpenClaim := { program := "ytjjepgkcgbbmhaadoor", sum := "b0f883cccd83d909a01637d2f469ab2d1d13b67a27f9f69956048ad05eb0aa8f", func := "valise/valiselaw12.RecordStamps", spec := "recordStamps", named := ["valise/record.monthDays"], apart := false, laid := [("valise/record.monthDays", laid_valise_record_monthDays)] }
def RecordStampsSaid : Prop := recordStampsRow.holds Tryd.pinned (OpenSpec.ofChange recordStampsSpec)

/-- ITS FALSE NEIGHBOUR: 'it returns false'. Refute it at one input. -/
def recordStampsWrong : ChangeSpec := { name := "recordStamps", fn := fun _ => fun
  | [d1, d2, d3] => { results := [.lit (.bool false)], args := [d1, d2, d3] }
  | _ => none }
def RecordStampsWrongFalsely : Prop := recordStampsRow.holds Tryd.pinned (OpenSpec.ofChange recordStampsWrong)

/- THE SECOND FORM. 'bulk': how many values and letters a reading holds, each counted each time it is reached (what is shared counts as often as it is met; a slice's spare places count too). A statement '..UptoSaid' is the law's where the arguments, and the package variables that the reading takes, are together of bulk at most 1048576: NARROWER than '..Said'. Prove '..Said' where nothing that the law and all that it calls make is longer than what came in: it says more and counts as full. Else prove '..UptoSaid'. A law counts once. -/
mutual
def uptoBulk {H : Type} : DataW H → Nat
  | .lit (.string bytes) => bytes.length + 1
  | .lit _ => 1
  | .nil => 1
  | .ptr d => uptoBulk d + 1
  | .slice elems spare => uptoBulkAll elems + uptoBulkAll spare + 1
  | .agg parts => uptoBulkAll parts + 1
  | .iface _ d => uptoBulk d + 1
  | .map entries => uptoBulkEntries entries + 1
  | .held _ => 1
def uptoBulkAll {H : Type} : List (DataW H) → Nat
  | [] => 0
  | d :: r => uptoBulk d + uptoBulkAll r
def uptoBulkEntries {H : Type} : List (Lit × DataW H) → Nat
  | [] => 0
  | x :: r => uptoBulkEntry x + uptoBulkEntries r
def uptoBulkEntry {H : Type} : Lit × DataW H → Nat
  | (.string bytes, d) => bytes.length + uptoBulk d + 1
  | (_, d) => uptoBulk d + 1
 end
def uptoSmall : (H : Type) → List (DataW H) → Bool := fun _ ds => decide (uptoBulkAll ds ≤ 1048576)
def OpenSpec.upto (s : _root_.Go.ChangeSpec) : _root_.Go.OpenSpec := { _root_.Go.OpenSpec.ofChange s with cond := some uptoSmall }

/-- 'valiselaw12.RecordTimes', WHERE WHAT IT READS IS OF BULK AT MOST 1048576: true; the input reads as it did. -/
def recordTimesUptoRow : OpenClaim := { program := "ytjjepgkcgbbmhaadoor", sum := "b0f883cccd83d909a01637d2f469ab2d1d13b67a27f9f69956048ad05eb0aa8f", func := "valise/valiselaw12.RecordTimes", spec := "recordTimes", named := ["valise/record.monthDays"], apart := false, laid := [("valise/record.monthDays", laid_valise_record_monthDays)], narrowed := true }
def RecordTimesUptoSaid : Prop := recordTimesUptoRow.holds Tryd.pinned (OpenSpec.upto recordTimesSpec)

/-- 'valiselaw12.RecordStamps', WHERE WHAT IT READS IS OF BULK AT MOST 1048576: true; the input reads as it did. -/
def recordStampsUptoRow : OpenClaim := { program := "ytjjepgkcgbbmhaadoor", sum := "b0f883cccd83d909a01637d2f469ab2d1d13b67a27f9f69956048ad05eb0aa8f", func := "valise/valiselaw12.RecordStamps", spec := "recordStamps", named := ["valise/record.monthDays"], apart := false, laid := [("valise/record.monthDays", laid_valise_record_monthDays)], narrowed := true }
def RecordStampsUptoSaid : Prop := recordStampsUptoRow.holds Tryd.pinned (OpenSpec.upto recordStampsSpec)

end Rows
end Go.Proofs.YtjjepgkcgbbmhaaDoor
