/-
  DERIVED. GIVEN WITH THE SEED: THE CARDS: each row of YtdpfjfkknimlfaaDoorRows.lean that lists a variable, with what it lists TIED to the program's text (the seventh form; the later family's looks); each row that meets fmt, with fmt's text TOLD by the authors' own Lean function (tested against real Go, not proved from fmt's source: count such statements apart). THE CARD IS WHAT COUNTS. Prove the row's statement (the work); the ties are given (YtdpfjfkknimlfaaDoorTie.lean); close each card by the builder's one call (the guide's Derived/Test/ToyasCard.lean, 'card_holds'). Laid BY PROGRAM, IN A SANDBOX (cutbox-door.mjs). By AI agents, Wed Nov 11 2026. No macro, syntax, notation, axiom, sorry.
-/
import Derived.Test.YtdpfjfkknimlfaaDoorRows
import GoSem.ClaimSeven
namespace Go.Proofs.YtdpfjfkknimlfaaDoor
namespace Rows

/-- THE TIED CARD OF 'valiselaw11.DeflateSplits'. -/
def deflateSplitsCard : Claim7 := { stood := { row := deflateSplitsRow, standIns := [], harness := (true, "88b03cfa330c58934623a7d70464e9be95d113130cb484f9bce65c983d96ecb7"), looks := false }, kinds := [], alts := [], laidByText := true, laidKinds := [.wider, .wider], laidTests := true, laidLooks := .later }
def DeflateSplitsCardSaid : Prop := Claim7.holds Tryd.pinned (.plain (OpenSpec.ofChange deflateSplitsSpec)) deflateSplitsCard

/-- THE SECOND FORM's CARD OF 'valiselaw11.DeflateSplits'. -/
def deflateSplitsUptoCard : Claim7 := { stood := { row := deflateSplitsUptoRow, standIns := [], harness := (true, "88b03cfa330c58934623a7d70464e9be95d113130cb484f9bce65c983d96ecb7"), looks := false }, kinds := [], alts := [], laidByText := true, laidKinds := [.wider, .wider], laidTests := true, laidLooks := .later }
def DeflateSplitsUptoCardSaid : Prop := Claim7.holds Tryd.pinned (.plain (OpenSpec.upto deflateSplitsSpec)) deflateSplitsUptoCard
end Rows
end Go.Proofs.YtdpfjfkknimlfaaDoor
