/-
  DERIVED. GIVEN WITH THE SEED: THE CARDS: each row of YthngagciiidppaaGreatDoorRows.lean that lists a variable, with what it lists TIED to the program's text (the seventh form; the later family's looks); each row that meets fmt, with fmt's text TOLD by the authors' own Lean function (tested against real Go, not proved from fmt's source: count such statements apart). THE CARD IS WHAT COUNTS. Prove the row's statement (the work); the ties are given (YthngagciiidppaaGreatDoorTie.lean); close each card by the builder's one call (the guide's Derived/Test/ToyasCard.lean, 'card_holds'). Laid BY PROGRAM, IN A SANDBOX (cutbox-door.mjs). By AI agents, Wed Nov 11 2026. No macro, syntax, notation, axiom, sorry.
-/
import Derived.Test.YthngagciiidppaaGreatDoorRows
import GoSem.ClaimSeven
namespace Go.Proofs.YthngagciiidppaaGreatDoor
namespace Rows

/-- THE TIED CARD OF 'valiselaw10.BlockMeasures'. -/
def blockMeasuresCard : Claim7 := { stood := { row := blockMeasuresRow, standIns := [], harness := (true, "9993550ada41e1eff3b175445b783acfec9c71c138f2adaf5d932b1906e49303"), looks := false }, kinds := [], alts := [], laidByText := true, laidKinds := [.data, .data, .data, .wider, .wider, .data], laidTests := true, laidLooks := .later }
def BlockMeasuresCardSaid : Prop := Claim7.holds Tryz.pinned (.plain (OpenSpec.ofChange blockMeasuresSpec)) blockMeasuresCard

/-- THE SECOND FORM's CARD OF 'valiselaw10.BlockMeasures'. -/
def blockMeasuresUptoCard : Claim7 := { stood := { row := blockMeasuresUptoRow, standIns := [], harness := (true, "9993550ada41e1eff3b175445b783acfec9c71c138f2adaf5d932b1906e49303"), looks := false }, kinds := [], alts := [], laidByText := true, laidKinds := [.data, .data, .data, .wider, .wider, .data], laidTests := true, laidLooks := .later }
def BlockMeasuresUptoCardSaid : Prop := Claim7.holds Tryz.pinned (.plain (OpenSpec.upto blockMeasuresSpec)) blockMeasuresUptoCard
end Rows
end Go.Proofs.YthngagciiidppaaGreatDoor
