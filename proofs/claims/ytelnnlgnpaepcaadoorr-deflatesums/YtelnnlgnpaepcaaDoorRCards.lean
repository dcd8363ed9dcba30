/-
  DERIVED. GIVEN WITH THE SEED: THE CARDS: each row of YtelnnlgnpaepcaaDoorRRows.lean that lists a variable, with what it lists TIED to the program's text (the seventh form; the later family's looks); each row that meets fmt, with fmt's text TOLD by the authors' own Lean function (tested against real Go, not proved from fmt's source: count such statements apart). THE CARD IS WHAT COUNTS. Prove the row's statement (the work); the ties are given (YtelnnlgnpaepcaaDoorRTie.lean); close each card by the builder's one call (the guide's Derived/Test/ToyasCard.lean, 'card_holds'). Laid BY PROGRAM, IN A SANDBOX (cutbox-door.mjs). By AI agents, Wed Nov 11 2026. No macro, syntax, notation, axiom, sorry.
-/
import Derived.Test.YtelnnlgnpaepcaaDoorRRows
import GoSem.ClaimSeven
namespace Go.Proofs.YtelnnlgnpaepcaaDoorR
namespace Rows

/-- THE TIED CARD OF 'valiselaw11.DeflateSums'. -/
def deflateSumsCard : Claim7 := { stood := { row := deflateSumsRow, standIns := [], harness := (true, "471cf469bbd7ae9f160bbcc358a177777ca295cde154178cb63e57f252ce4f31"), looks := false }, kinds := [], alts := [], laidByText := true, laidKinds := [.wider, .wider], laidTests := true, laidLooks := .later }
def DeflateSumsCardSaid : Prop := Claim7.holds Tryd.pinned (.plain (OpenSpec.ofChange deflateSumsSpec)) deflateSumsCard

/-- THE SECOND FORM's CARD OF 'valiselaw11.DeflateSums'. -/
def deflateSumsUptoCard : Claim7 := { stood := { row := deflateSumsUptoRow, standIns := [], harness := (true, "471cf469bbd7ae9f160bbcc358a177777ca295cde154178cb63e57f252ce4f31"), looks := false }, kinds := [], alts := [], laidByText := true, laidKinds := [.wider, .wider], laidTests := true, laidLooks := .later }
def DeflateSumsUptoCardSaid : Prop := Claim7.holds Tryd.pinned (.plain (OpenSpec.upto deflateSumsSpec)) deflateSumsUptoCard
end Rows
end Go.Proofs.YtelnnlgnpaepcaaDoorR
