/-
  No cell of these rows narrows 'for every input' (looked for: loops, veiled, ifaces, maps, wideKeys, modest, calm, conditions, laid).
  DERIVED. THE GIVEN ROWS OF THIS SEAT. 6 by the template 'for every input the law returns true; each argument reads behind the call as it read before'; 0 by the template 'total and deterministic' (their statements: YteiajeeincapoaaTotals.lean).
  GIVEN WITH THE SEED: the statements are not yours to turn. If you find one false, say at which input.
  Laid BY PROGRAM, IN A SANDBOX (cutbox-rows.mjs): the forced cells as the released guide's own fill.sh prints them over the translation 2d2e0cb6b53343ab… (all of the seat's roots in one cut). By AI agents, Wed Nov 11 2026. No macro, syntax, notation, axiom, sorry.
-/
import Derived.Test.YteiajeeincapoaaChecked
import GoSem.Claim
import GoSem.ClaimJoined
import GoSem.ClaimMapViews
import Derived.JoinedTies
import Derived.KernelRfl
namespace Go.Proofs.Yteiajeeincapoaa
/- THE CELL 'sum', in the pinned program and in every row, IS THE sha256 OF THE DUMP (.gsa) THAT YteiajeeincapoaaProg.lean LOADS. Nothing in Lean hashes anything: it is a label: what it is worth is what the hold of that sum in a sandbox is worth. -/
noncomputable def Try.pinned : Pinned := { name := "yteiajeeincapoaa", sum := "2d2e0cb6b53343abdad1d28962b0760f12cbd8440ba6203b86121e1c45902cf4", checked := Try.checked }
namespace Rows
def none {H : Type} : Left H := { results := [], args := [] }

/-- 'valiselaw1.DiskMakes': WHATEVER THE INPUT: true; the input reads as it did. -/
def diskMakesSpec : ChangeSpec := { name := "diskMakes", fn := fun _ => fun
  | [d1, d2] => { results := [.lit (.bool true)], args := [d1, d2] }
  | _ => none }
def diskMakesRow : OpenClaim := { program := "yteiajeeincapoaa", sum := "2d2e0cb6b53343abdad1d28962b0760f12cbd8440ba6203b86121e1c45902cf4", func := "valise/valiselaw1.DiskMakes", spec := "diskMakes", apart := false }
def DiskMakesSaid : Prop := diskMakesRow.holds Try.pinned (OpenSpec.ofChange diskMakesSpec)

/-- ITS FALSE NEIGHBOUR: 'it returns false'. Refute it at one input. -/
def diskMakesWrong : ChangeSpec := { name := "diskMakes", fn := fun _ => fun
  | [d1, d2] => { results := [.lit (.bool false)], args := [d1, d2] }
  | _ => none }
def DiskMakesWrongFalsely : Prop := diskMakesRow.holds Try.pinned (OpenSpec.ofChange diskMakesWrong)

/-- 'valiselaw1.DiskShrinksWhole': WHATEVER THE INPUT: true; the input reads as it did. -/
def diskShrinksWholeSpec : ChangeSpec := { name := "diskShrinksWhole", fn := fun _ => fun
  | [d1, d2, d3, d4] => { results := [.lit (.bool true)], args := [d1, d2, d3, d4] }
  | _ => none }
def diskShrinksWholeRow : OpenClaim := { program := "yteiajeeincapoaa", sum := "2d2e0cb6b53343abdad1d28962b0760f12cbd8440ba6203b86121e1c45902cf4", func := "valise/valiselaw1.DiskShrinksWhole", spec := "diskShrinksWhole", apart := false }
def DiskShrinksWholeSaid : Prop := diskShrinksWholeRow.holds Try.pinned (OpenSpec.ofChange diskShrinksWholeSpec)

/-- ITS FALSE NEIGHBOUR: 'it returns false'. Refute it at one input. -/
def diskShrinksWholeWrong : ChangeSpec := { name := "diskShrinksWhole", fn := fun _ => fun
  | [d1, d2, d3, d4] => { results := [.lit (.bool false)], args := [d1, d2, d3, d4] }
  | _ => none }
def DiskShrinksWholeWrongFalsely : Prop := diskShrinksWholeRow.holds Try.pinned (OpenSpec.ofChange diskShrinksWholeWrong)

/-- 'valiselaw1.DiskOneSector': WHATEVER THE INPUT: true; the input reads as it did. -/
def diskOneSectorSpec : ChangeSpec := { name := "diskOneSector", fn := fun _ => fun
  | [d1, d2, d3, d4, d5] => { results := [.lit (.bool true)], args := [d1, d2, d3, d4, d5] }
  | _ => none }
def diskOneSectorRow : OpenClaim := { program := "yteiajeeincapoaa", sum := "2d2e0cb6b53343abdad1d28962b0760f12cbd8440ba6203b86121e1c45902cf4", func := "valise/valiselaw1.DiskOneSector", spec := "diskOneSector", apart := false }
def DiskOneSectorSaid : Prop := diskOneSectorRow.holds Try.pinned (OpenSpec.ofChange diskOneSectorSpec)

/-- ITS FALSE NEIGHBOUR: 'it returns false'. Refute it at one input. -/
def diskOneSectorWrong : ChangeSpec := { name := "diskOneSector", fn := fun _ => fun
  | [d1, d2, d3, d4, d5] => { results := [.lit (.bool false)], args := [d1, d2, d3, d4, d5] }
  | _ => none }
def DiskOneSectorWrongFalsely : Prop := diskOneSectorRow.holds Try.pinned (OpenSpec.ofChange diskOneSectorWrong)

/-- 'valiselaw1.DiskReadsBack': WHATEVER THE INPUT: true; the input reads as it did. -/
def diskReadsBackSpec : ChangeSpec := { name := "diskReadsBack", fn := fun _ => fun
  | [d1, d2, d3, d4] => { results := [.lit (.bool true)], args := [d1, d2, d3, d4] }
  | _ => none }
def diskReadsBackRow : OpenClaim := { program := "yteiajeeincapoaa", sum := "2d2e0cb6b53343abdad1d28962b0760f12cbd8440ba6203b86121e1c45902cf4", func := "valise/valiselaw1.DiskReadsBack", spec := "diskReadsBack", apart := false }
def DiskReadsBackSaid : Prop := diskReadsBackRow.holds Try.pinned (OpenSpec.ofChange diskReadsBackSpec)

/-- ITS FALSE NEIGHBOUR: 'it returns false'. Refute it at one input. -/
def diskReadsBackWrong : ChangeSpec := { name := "diskReadsBack", fn := fun _ => fun
  | [d1, d2, d3, d4] => { results := [.lit (.bool false)], args := [d1, d2, d3, d4] }
  | _ => none }
def DiskReadsBackWrongFalsely : Prop := diskReadsBackRow.holds Try.pinned (OpenSpec.ofChange diskReadsBackWrong)

/-- 'valiselaw1.DiskNil': WHATEVER THE INPUT: true; the input reads as it did. -/
def diskNilSpec : ChangeSpec := { name := "diskNil", fn := fun _ => fun
  | [] => { results := [.lit (.bool true)], args := [] }
  | _ => none }
def diskNilRow : OpenClaim := { program := "yteiajeeincapoaa", sum := "2d2e0cb6b53343abdad1d28962b0760f12cbd8440ba6203b86121e1c45902cf4", func := "valise/valiselaw1.DiskNil", spec := "diskNil", apart := false }
def DiskNilSaid : Prop := diskNilRow.holds Try.pinned (OpenSpec.ofChange diskNilSpec)

/-- ITS FALSE NEIGHBOUR: 'it returns false'. Refute it at one input. -/
def diskNilWrong : ChangeSpec := { name := "diskNil", fn := fun _ => fun
  | [] => { results := [.lit (.bool false)], args := [] }
  | _ => none }
def DiskNilWrongFalsely : Prop := diskNilRow.holds Try.pinned (OpenSpec.ofChange diskNilWrong)

/-- 'valiselaw1.DiskKeepsAll': WHATEVER THE INPUT: true; the input reads as it did. -/
def diskKeepsAllSpec : ChangeSpec := { name := "diskKeepsAll", fn := fun _ => fun
  | [d1, d2, d3] => { results := [.lit (.bool true)], args := [d1, d2, d3] }
  | _ => none }
def diskKeepsAllRow : OpenClaim := { program := "yteiajeeincapoaa", sum := "2d2e0cb6b53343abdad1d28962b0760f12cbd8440ba6203b86121e1c45902cf4", func := "valise/valiselaw1.DiskKeepsAll", spec := "diskKeepsAll", apart := false }
def DiskKeepsAllSaid : Prop := diskKeepsAllRow.holds Try.pinned (OpenSpec.ofChange diskKeepsAllSpec)

/-- ITS FALSE NEIGHBOUR: 'it returns false'. Refute it at one input. -/
def diskKeepsAllWrong : ChangeSpec := { name := "diskKeepsAll", fn := fun _ => fun
  | [d1, d2, d3] => { results := [.lit (.bool false)], args := [d1, d2, d3] }
  | _ => none }
def DiskKeepsAllWrongFalsely : Prop := diskKeepsAllRow.holds Try.pinned (OpenSpec.ofChange diskKeepsAllWrong)

/- THE SECOND FORM. 'bulk': how many values and letters a reading holds, each counted each time it is reached (what is shared counts as often as it is met; a slice's spare places count too). A statement '..UptoSaid' is the law's where the arguments, and the package variables that the reading takes, are together of bulk at most 1048576: NARROWER than '..Said'. Prove '..Said' where nothing that the law and all that it calls make is longer than what came in: it says more and counts as full. Else prove '..UptoSaid'. A law counts once. -/
mutual
def uptoBulk {H : Type} : DataW H → Nat
  | .lit (.string bytes) => bytes.length + 1
  | .lit _ => 1
  | .nil => 1
  | .ptr d => uptoBulk d + 1
  | .slice elems spare => uptoBulkAll elems + uptoBulkAll spare + 1
  | .agg parts => uptoBulkAll parts + 1
  | .iface _ d => uptoBulk d + 1
  | .map entries => uptoBulkEntries entries + 1
  | .held _ => 1
def uptoBulkAll {H : Type} : List (DataW H) → Nat
  | [] => 0
  | d :: r => uptoBulk d + uptoBulkAll r
def uptoBulkEntries {H : Type} : List (Lit × DataW H) → Nat
  | [] => 0
  | x :: r => uptoBulkEntry x + uptoBulkEntries r
def uptoBulkEntry {H : Type} : Lit × DataW H → Nat
  | (.string bytes, d) => bytes.length + uptoBulk d + 1
  | (_, d) => uptoBulk d + 1
 end
def uptoSmall : (H : Type) → List (DataW H) → Bool := fun _ ds => decide (uptoBulkAll ds ≤ 1048576)
def OpenSpec.upto (s : _root_.Go.ChangeSpec) : _root_.Go.OpenSpec := { _root_.Go.OpenSpec.ofChange s with cond := some uptoSmall }

/-- 'valiselaw1.DiskMakes', WHERE WHAT IT READS IS OF BULK AT MOST 1048576: true; the input reads as it did. -/
def diskMakesUptoRow : OpenClaim := { program := "yteiajeeincapoaa", sum := "2d2e0cb6b53343abdad1d28962b0760f12cbd8440ba6203b86121e1c45902cf4", func := "valise/valiselaw1.DiskMakes", spec := "diskMakes", apart := false, narrowed := true }
def DiskMakesUptoSaid : Prop := diskMakesUptoRow.holds Try.pinned (OpenSpec.upto diskMakesSpec)

/-- 'valiselaw1.DiskShrinksWhole', WHERE WHAT IT READS IS OF BULK AT MOST 1048576: true; the input reads as it did. -/
def diskShrinksWholeUptoRow : OpenClaim := { program := "yteiajeeincapoaa", sum := "2d2e0cb6b53343abdad1d28962b0760f12cbd8440ba6203b86121e1c45902cf4", func := "valise/valiselaw1.DiskShrinksWhole", spec := "diskShrinksWhole", apart := false, narrowed := true }
def DiskShrinksWholeUptoSaid : Prop := diskShrinksWholeUptoRow.holds Try.pinned (OpenSpec.upto diskShrinksWholeSpec)

/-- 'valiselaw1.DiskOneSector', WHERE WHAT IT READS IS OF BULK AT MOST 1048576: true; the input reads as it did. -/
def diskOneSectorUptoRow : OpenClaim := { program := "yteiajeeincapoaa", sum := "2d2e0cb6b53343abdad1d28962b0760f12cbd8440ba6203b86121e1c45902cf4", func := "valise/valiselaw1.DiskOneSector", spec := "diskOneSector", apart := false, narrowed := true }
def DiskOneSectorUptoSaid : Prop := diskOneSectorUptoRow.holds Try.pinned (OpenSpec.upto diskOneSectorSpec)

/-- 'valiselaw1.DiskReadsBack', WHERE WHAT IT READS IS OF BULK AT MOST 1048576: true; the input reads as it did. -/
def diskReadsBackUptoRow : OpenClaim := { program := "yteiajeeincapoaa", sum := "2d2e0cb6b53343abdad1d28962b0760f12cbd8440ba6203b86121e1c45902cf4", func := "valise/valiselaw1.DiskReadsBack", spec := "diskReadsBack", apart := false, narrowed := true }
def DiskReadsBackUptoSaid : Prop := diskReadsBackUptoRow.holds Try.pinned (OpenSpec.upto diskReadsBackSpec)

/-- 'valiselaw1.DiskNil', WHERE WHAT IT READS IS OF BULK AT MOST 1048576: true; the input reads as it did. -/
def diskNilUptoRow : OpenClaim := { program := "yteiajeeincapoaa", sum := "2d2e0cb6b53343abdad1d28962b0760f12cbd8440ba6203b86121e1c45902cf4", func := "valise/valiselaw1.DiskNil", spec := "diskNil", apart := false, narrowed := true }
def DiskNilUptoSaid : Prop := diskNilUptoRow.holds Try.pinned (OpenSpec.upto diskNilSpec)

/-- 'valiselaw1.DiskKeepsAll', WHERE WHAT IT READS IS OF BULK AT MOST 1048576: true; the input reads as it did. -/
def diskKeepsAllUptoRow : OpenClaim := { program := "yteiajeeincapoaa", sum := "2d2e0cb6b53343abdad1d28962b0760f12cbd8440ba6203b86121e1c45902cf4", func := "valise/valiselaw1.DiskKeepsAll", spec := "diskKeepsAll", apart := false, narrowed := true }
def DiskKeepsAllUptoSaid : Prop := diskKeepsAllUptoRow.holds Try.pinned (OpenSpec.upto diskKeepsAllSpec)

end Rows
end Go.Proofs.Yteiajeeincapoaa
