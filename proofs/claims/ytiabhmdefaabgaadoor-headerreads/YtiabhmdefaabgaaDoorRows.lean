/-
  NARROWER THAN 'FOR EVERY INPUT', by the rows' own cells (each row's printed sentence says how): HeaderExpands: laid · HeaderRunsGoBack: laid · HeaderRuns: laid · HeaderSmallCodeIsBest: laid · HeaderHolds: laid · HeaderReads: laid.
  DERIVED. THE GIVEN ROWS OF THIS SEAT. 6 by the template 'for every input the law returns true; each argument reads behind the call as it read before'; 0 by the template 'total and deterministic' (their statements: YtiabhmdefaabgaaDoorTotals.lean).
  GIVEN WITH THE SEED: the statements are not yours to turn. If you find one false, say at which input.
  Laid BY PROGRAM, IN A SANDBOX (cutbox-rows.mjs): the forced cells as the released guide's own fill.sh prints them over the translation 77fd8abf53d2eca4… (all of the seat's roots in one cut). By AI agents, Wed Nov 11 2026. No macro, syntax, notation, axiom, sorry.
-/
import Derived.Test.YtiabhmdefaabgaaDoorChecked
import GoSem.Claim
import GoSem.ClaimJoined
import GoSem.ClaimMapViews
import Derived.JoinedTies
import Derived.KernelRfl
namespace Go.Proofs.YtiabhmdefaabgaaDoor
/- THE CELL 'sum', in the pinned program and in every row, IS THE sha256 OF THE DUMP (.gsa) THAT YtiabhmdefaabgaaDoorProg.lean LOADS. Nothing in Lean hashes anything: it is a label: what it is worth is what the hold of that sum in a sandbox is worth. -/
noncomputable def Tryd.pinned : Pinned := { name := "ytiabhmdefaabgaadoor", sum := "77fd8abf53d2eca4598f196f0eb216661cc696a7c07211b82b213d3db0407edd", checked := Tryd.checked }
namespace Rows
def none {H : Type} : Left H := { results := [], args := [] }

/- WHAT THE LISTED PACKAGE-LEVEL VARIABLES READ AS WHEN THE CALL BEGINS. Each datum BY PROGRAM (the guide's laid-datum.mjs) off the statement by which the dump's own 'gosem.cut.vars' lays the variable. In a bare row this is a premise. The card (YtiabhmdefaabgaaDoorCards.lean) ties it to the program's text. -/
def laid_valise_header_least {H : Type} : DataW H := .agg [.lit (.int .i64 1), .lit (.int .i64 1), .lit (.int .i64 1), .lit (.int .i64 1), .lit (.int .i64 1), .lit (.int .i64 1), .lit (.int .i64 1), .lit (.int .i64 1), .lit (.int .i64 1), .lit (.int .i64 1), .lit (.int .i64 1), .lit (.int .i64 1), .lit (.int .i64 1), .lit (.int .i64 1), .lit (.int .i64 1), .lit (.int .i64 1), .lit (.int .i64 3), .lit (.int .i64 3), .lit (.int .i64 11)]
def laid_valise_header_further {H : Type} : DataW H := .agg [.lit (.int .i64 0), .lit (.int .i64 0), .lit (.int .i64 0), .lit (.int .i64 0), .lit (.int .i64 0), .lit (.int .i64 0), .lit (.int .i64 0), .lit (.int .i64 0), .lit (.int .i64 0), .lit (.int .i64 0), .lit (.int .i64 0), .lit (.int .i64 0), .lit (.int .i64 0), .lit (.int .i64 0), .lit (.int .i64 0), .lit (.int .i64 0), .lit (.int .i64 2), .lit (.int .i64 3), .lit (.int .i64 7)]
def laid_valise_header_order {H : Type} : DataW H := .agg [.lit (.int .i64 16), .lit (.int .i64 17), .lit (.int .i64 18), .lit (.int .i64 0), .lit (.int .i64 8), .lit (.int .i64 7), .lit (.int .i64 9), .lit (.int .i64 6), .lit (.int .i64 10), .lit (.int .i64 5), .lit (.int .i64 11), .lit (.int .i64 4), .lit (.int .i64 12), .lit (.int .i64 3), .lit (.int .i64 13), .lit (.int .i64 2), .lit (.int .i64 14), .lit (.int .i64 1), .lit (.int .i64 15)]
def laid_valise_valiseref7_order {H : Type} : DataW H := .agg [.lit (.int .i64 16), .lit (.int .i64 17), .lit (.int .i64 18), .lit (.int .i64 0), .lit (.int .i64 8), .lit (.int .i64 7), .lit (.int .i64 9), .lit (.int .i64 6), .lit (.int .i64 10), .lit (.int .i64 5), .lit (.int .i64 11), .lit (.int .i64 4), .lit (.int .i64 12), .lit (.int .i64 3), .lit (.int .i64 13), .lit (.int .i64 2), .lit (.int .i64 14), .lit (.int .i64 1), .lit (.int .i64 15)]

/-- 'valiselaw7.HeaderExpands': WHATEVER THE INPUT: true; the input reads as it did. -/
def headerExpandsSpec : ChangeSpec := { name := "headerExpands", fn := fun _ => fun
  | [d] => { results := [.lit (.bool true)], args := [d] }
  | _ => none }
def headerExpandsRow : OpenClaim := { program := "ytiabhmdefaabgaadoor", sum := "77fd8abf53d2eca4598f196f0eb216661cc696a7c07211b82b213d3db0407edd", func := "valise/valiselaw7.HeaderExpands", spec := "headerExpands", named := ["valise/header.least", "valise/header.further"], apart := false, laid := [("valise/header.least", laid_valise_header_least), ("valise/header.further", laid_valise_header_further)] }
def HeaderExpandsSaid : Prop := headerExpandsRow.holds Tryd.pinned (OpenSpec.ofChange headerExpandsSpec)

/-- ITS FALSE NEIGHBOUR: 'it returns false'. Refute it at one input. -/
def headerExpandsWrong : ChangeSpec := { name := "headerExpands", fn := fun _ => fun
  | [d] => { results := [.lit (.bool false)], args := [d] }
  | _ => none }
def HeaderExpandsWrongFalsely : Prop := headerExpandsRow.holds Tryd.pinned (OpenSpec.ofChange headerExpandsWrong)

/-- 'valiselaw7.HeaderRunsGoBack': WHATEVER THE INPUT: true; the input reads as it did. -/
def headerRunsGoBackSpec : ChangeSpec := { name := "headerRunsGoBack", fn := fun _ => fun
  | [d] => { results := [.lit (.bool true)], args := [d] }
  | _ => none }
def headerRunsGoBackRow : OpenClaim := { program := "ytiabhmdefaabgaadoor", sum := "77fd8abf53d2eca4598f196f0eb216661cc696a7c07211b82b213d3db0407edd", func := "valise/valiselaw7.HeaderRunsGoBack", spec := "headerRunsGoBack", named := ["valise/header.least", "valise/header.further"], apart := false, laid := [("valise/header.least", laid_valise_header_least), ("valise/header.further", laid_valise_header_further)] }
def HeaderRunsGoBackSaid : Prop := headerRunsGoBackRow.holds Tryd.pinned (OpenSpec.ofChange headerRunsGoBackSpec)

/-- ITS FALSE NEIGHBOUR: 'it returns false'. Refute it at one input. -/
def headerRunsGoBackWrong : ChangeSpec := { name := "headerRunsGoBack", fn := fun _ => fun
  | [d] => { results := [.lit (.bool false)], args := [d] }
  | _ => none }
def HeaderRunsGoBackWrongFalsely : Prop := headerRunsGoBackRow.holds Tryd.pinned (OpenSpec.ofChange headerRunsGoBackWrong)

/-- 'valiselaw7.HeaderRuns': WHATEVER THE INPUT: true; the input reads as it did. -/
def headerRunsSpec : ChangeSpec := { name := "headerRuns", fn := fun _ => fun
  | [d] => { results := [.lit (.bool true)], args := [d] }
  | _ => none }
def headerRunsRow : OpenClaim := { program := "ytiabhmdefaabgaadoor", sum := "77fd8abf53d2eca4598f196f0eb216661cc696a7c07211b82b213d3db0407edd", func := "valise/valiselaw7.HeaderRuns", spec := "headerRuns", named := ["valise/header.least", "valise/header.further"], apart := false, laid := [("valise/header.least", laid_valise_header_least), ("valise/header.further", laid_valise_header_further)] }
def HeaderRunsSaid : Prop := headerRunsRow.holds Tryd.pinned (OpenSpec.ofChange headerRunsSpec)

/-- ITS FALSE NEIGHBOUR: 'it returns false'. Refute it at one input. -/
def headerRunsWrong : ChangeSpec := { name := "headerRuns", fn := fun _ => fun
  | [d] => { results := [.lit (.bool false)], args := [d] }
  | _ => none }
def HeaderRunsWrongFalsely : Prop := headerRunsRow.holds Tryd.pinned (OpenSpec.ofChange headerRunsWrong)

/-- 'valiselaw7.HeaderSmallCodeIsBest': WHATEVER THE INPUT: true; the input reads as it did. -/
def headerSmallCodeIsBestSpec : ChangeSpec := { name := "headerSmallCodeIsBest", fn := fun _ => fun
  | [d1, d2, d3] => { results := [.lit (.bool true)], args := [d1, d2, d3] }
  | _ => none }
def headerSmallCodeIsBestRow : OpenClaim := { program := "ytiabhmdefaabgaadoor", sum := "77fd8abf53d2eca4598f196f0eb216661cc696a7c07211b82b213d3db0407edd", func := "valise/valiselaw7.HeaderSmallCodeIsBest", spec := "headerSmallCodeIsBest", unfollowed := true, recurses := true, named := ["valise/header.least", "valise/header.further", "valise/header.order"], apart := false, laid := [("valise/header.order", laid_valise_header_order), ("valise/header.least", laid_valise_header_least), ("valise/header.further", laid_valise_header_further)] }
def HeaderSmallCodeIsBestSaid : Prop := headerSmallCodeIsBestRow.holds Tryd.pinned (OpenSpec.ofChange headerSmallCodeIsBestSpec)

/-- ITS FALSE NEIGHBOUR: 'it returns false'. Refute it at one input. -/
def headerSmallCodeIsBestWrong : ChangeSpec := { name := "headerSmallCodeIsBest", fn := fun _ => fun
  | [d1, d2, d3] => { results := [.lit (.bool false)], args := [d1, d2, d3] }
  | _ => none }
def HeaderSmallCodeIsBestWrongFalsely : Prop := headerSmallCodeIsBestRow.holds Tryd.pinned (OpenSpec.ofChange headerSmallCodeIsBestWrong)

/-- 'valiselaw7.HeaderHolds': WHATEVER THE INPUT: true; the input reads as it did. -/
def headerHoldsSpec : ChangeSpec := { name := "headerHolds", fn := fun _ => fun
  | [d1, d2] => { results := [.lit (.bool true)], args := [d1, d2] }
  | _ => none }
def headerHoldsRow : OpenClaim := { program := "ytiabhmdefaabgaadoor", sum := "77fd8abf53d2eca4598f196f0eb216661cc696a7c07211b82b213d3db0407edd", func := "valise/valiselaw7.HeaderHolds", spec := "headerHolds", unfollowed := true, recurses := true, named := ["valise/header.least", "valise/header.further", "valise/header.order"], apart := false, laid := [("valise/header.order", laid_valise_header_order), ("valise/header.least", laid_valise_header_least), ("valise/header.further", laid_valise_header_further)] }
def HeaderHoldsSaid : Prop := headerHoldsRow.holds Tryd.pinned (OpenSpec.ofChange headerHoldsSpec)

/-- ITS FALSE NEIGHBOUR: 'it returns false'. Refute it at one input. -/
def headerHoldsWrong : ChangeSpec := { name := "headerHolds", fn := fun _ => fun
  | [d1, d2] => { results := [.lit (.bool false)], args := [d1, d2] }
  | _ => none }
def HeaderHoldsWrongFalsely : Prop := headerHoldsRow.holds Tryd.pinned (OpenSpec.ofChange headerHoldsWrong)

/-- 'valiselaw7.HeaderReads': WHATEVER THE INPUT: true; the input reads as it did. -/
def headerReadsSpec : ChangeSpec := { name := "headerReads", fn := fun _ => fun
  | [d1, d2] => { results := [.lit (.bool true)], args := [d1, d2] }
  | _ => none }
def headerReadsRow : OpenClaim := { program := "ytiabhmdefaabgaadoor", sum := "77fd8abf53d2eca4598f196f0eb216661cc696a7c07211b82b213d3db0407edd", func := "valise/valiselaw7.HeaderReads", spec := "headerReads", named := ["valise/header.order", "valise/header.further", "valise/header.least", "valise/valiseref7.order"], apart := false, laid := [("valise/header.order", laid_valise_header_order), ("valise/header.least", laid_valise_header_least), ("valise/header.further", laid_valise_header_further), ("valise/valiseref7.order", laid_valise_valiseref7_order)] }
def HeaderReadsSaid : Prop := headerReadsRow.holds Tryd.pinned (OpenSpec.ofChange headerReadsSpec)

/-- ITS FALSE NEIGHBOUR: 'it returns false'. Refute it at one input. -/
def headerReadsWrong : ChangeSpec := { name := "headerReads", fn := fun _ => fun
  | [d1, d2] => { results := [.lit (.bool false)], args := [d1, d2] }
  | _ => none }
def HeaderReadsWrongFalsely : Prop := headerReadsRow.holds Tryd.pinned (OpenSpec.ofChange headerReadsWrong)

/- THE SECOND FORM. 'bulk': how many values and letters a reading holds, each counted each time it is reached (what is shared counts as often as it is met; a slice's spare places count too). A statement '..UptoSaid' is the law's where the arguments, and the package variables that the reading takes, are together of bulk at most 1048576: NARROWER than '..Said'. Prove '..Said' where nothing that the law and all that it calls make is longer than what came in: it says more and counts as full. Else prove '..UptoSaid'. A law counts once. -/
mutual
def uptoBulk {H : Type} : DataW H → Nat
  | .lit (.string bytes) => bytes.length + 1
  | .lit _ => 1
  | .nil => 1
  | .ptr d => uptoBulk d + 1
  | .slice elems spare => uptoBulkAll elems + uptoBulkAll spare + 1
  | .agg parts => uptoBulkAll parts + 1
  | .iface _ d => uptoBulk d + 1
  | .map entries => uptoBulkEntries entries + 1
  | .held _ => 1
def uptoBulkAll {H : Type} : List (DataW H) → Nat
  | [] => 0
  | d :: r => uptoBulk d + uptoBulkAll r
def uptoBulkEntries {H : Type} : List (Lit × DataW H) → Nat
  | [] => 0
  | x :: r => uptoBulkEntry x + uptoBulkEntries r
def uptoBulkEntry {H : Type} : Lit × DataW H → Nat
  | (.string bytes, d) => bytes.length + uptoBulk d + 1
  | (_, d) => uptoBulk d + 1
 end
def uptoSmall : (H : Type) → List (DataW H) → Bool := fun _ ds => decide (uptoBulkAll ds ≤ 1048576)
def OpenSpec.upto (s : _root_.Go.ChangeSpec) : _root_.Go.OpenSpec := { _root_.Go.OpenSpec.ofChange s with cond := some uptoSmall }

/-- 'valiselaw7.HeaderExpands', WHERE WHAT IT READS IS OF BULK AT MOST 1048576: true; the input reads as it did. -/
def headerExpandsUptoRow : OpenClaim := { program := "ytiabhmdefaabgaadoor", sum := "77fd8abf53d2eca4598f196f0eb216661cc696a7c07211b82b213d3db0407edd", func := "valise/valiselaw7.HeaderExpands", spec := "headerExpands", named := ["valise/header.least", "valise/header.further"], apart := false, laid := [("valise/header.least", laid_valise_header_least), ("valise/header.further", laid_valise_header_further)], narrowed := true }
def HeaderExpandsUptoSaid : Prop := headerExpandsUptoRow.holds Tryd.pinned (OpenSpec.upto headerExpandsSpec)

/-- 'valiselaw7.HeaderRunsGoBack', WHERE WHAT IT READS IS OF BULK AT MOST 1048576: true; the input reads as it did. -/
def headerRunsGoBackUptoRow : OpenClaim := { program := "ytiabhmdefaabgaadoor", sum := "77fd8abf53d2eca4598f196f0eb216661cc696a7c07211b82b213d3db0407edd", func := "valise/valiselaw7.HeaderRunsGoBack", spec := "headerRunsGoBack", named := ["valise/header.least", "valise/header.further"], apart := false, laid := [("valise/header.least", laid_valise_header_least), ("valise/header.further", laid_valise_header_further)], narrowed := true }
def HeaderRunsGoBackUptoSaid : Prop := headerRunsGoBackUptoRow.holds Tryd.pinned (OpenSpec.upto headerRunsGoBackSpec)

/-- 'valiselaw7.HeaderRuns', WHERE WHAT IT READS IS OF BULK AT MOST 1048576: true; the input reads as it did. -/
def headerRunsUptoRow : OpenClaim := { program := "ytiabhmdefaabgaadoor", sum := "77fd8abf53d2eca4598f196f0eb216661cc696a7c07211b82b213d3db0407edd", func := "valise/valiselaw7.HeaderRuns", spec := "headerRuns", named := ["valise/header.least", "valise/header.further"], apart := false, laid := [("valise/header.least", laid_valise_header_least), ("valise/header.further", laid_valise_header_further)], narrowed := true }
def HeaderRunsUptoSaid : Prop := headerRunsUptoRow.holds Tryd.pinned (OpenSpec.upto headerRunsSpec)

/-- 'valiselaw7.HeaderSmallCodeIsBest', WHERE WHAT IT READS IS OF BULK AT MOST 1048576: true; the input reads as it did. -/
def headerSmallCodeIsBestUptoRow : OpenClaim := { program := "ytiabhmdefaabgaadoor", sum := "77fd8abf53d2eca4598f196f0eb216661cc696a7c07211b82b213d3db0407edd", func := "valise/valiselaw7.HeaderSmallCodeIsBest", spec := "headerSmallCodeIsBest", unfollowed := true, recurses := true, named := ["valise/header.least", "valise/header.further", "valise/header.order"], apart := false, laid := [("valise/header.order", laid_valise_header_order), ("valise/header.least", laid_valise_header_least), ("valise/header.further", laid_valise_header_further)], narrowed := true }
def HeaderSmallCodeIsBestUptoSaid : Prop := headerSmallCodeIsBestUptoRow.holds Tryd.pinned (OpenSpec.upto headerSmallCodeIsBestSpec)

/-- 'valiselaw7.HeaderHolds', WHERE WHAT IT READS IS OF BULK AT MOST 1048576: true; the input reads as it did. -/
def headerHoldsUptoRow : OpenClaim := { program := "ytiabhmdefaabgaadoor", sum := "77fd8abf53d2eca4598f196f0eb216661cc696a7c07211b82b213d3db0407edd", func := "valise/valiselaw7.HeaderHolds", spec := "headerHolds", unfollowed := true, recurses := true, named := ["valise/header.least", "valise/header.further", "valise/header.order"], apart := false, laid := [("valise/header.order", laid_valise_header_order), ("valise/header.least", laid_valise_header_least), ("valise/header.further", laid_valise_header_further)], narrowed := true }
def HeaderHoldsUptoSaid : Prop := headerHoldsUptoRow.holds Tryd.pinned (OpenSpec.upto headerHoldsSpec)

/-- 'valiselaw7.HeaderReads', WHERE WHAT IT READS IS OF BULK AT MOST 1048576: true; the input reads as it did. -/
def headerReadsUptoRow : OpenClaim := { program := "ytiabhmdefaabgaadoor", sum := "77fd8abf53d2eca4598f196f0eb216661cc696a7c07211b82b213d3db0407edd", func := "valise/valiselaw7.HeaderReads", spec := "headerReads", named := ["valise/header.order", "valise/header.further", "valise/header.least", "valise/valiseref7.order"], apart := false, laid := [("valise/header.order", laid_valise_header_order), ("valise/header.least", laid_valise_header_least), ("valise/header.further", laid_valise_header_further), ("valise/valiseref7.order", laid_valise_valiseref7_order)], narrowed := true }
def HeaderReadsUptoSaid : Prop := headerReadsUptoRow.holds Tryd.pinned (OpenSpec.upto headerReadsSpec)

end Rows
end Go.Proofs.YtiabhmdefaabgaaDoor
