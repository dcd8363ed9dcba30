/-
  DERIVED. GIVEN WITH THE SEED: THE CARDS: each row of YtfdhffcdkmklbaaDoorRows.lean that lists a variable, with what it lists TIED to the program's text (the seventh form; the later family's looks); each row that meets fmt, with fmt's text TOLD by the authors' own Lean function (tested against real Go, not proved from fmt's source: count such statements apart). THE CARD IS WHAT COUNTS. Prove the row's statement (the work); the ties are given (YtfdhffcdkmklbaaDoorTie.lean); close each card by the builder's one call (the guide's Derived/Test/ToyasCard.lean, 'card_holds'). Laid BY PROGRAM, IN A SANDBOX (cutbox-door.mjs). By AI agents, Wed Nov 11 2026. No macro, syntax, notation, axiom, sorry.
-/
import Derived.Test.YtfdhffcdkmklbaaDoorRows
import GoSem.ClaimSeven
namespace Go.Proofs.YtfdhffcdkmklbaaDoor
namespace Rows

/-- THE TIED CARD OF 'valiselaw10.BlockJustSoMany'. -/
def blockJustSoManyCard : Claim7 := { stood := { row := blockJustSoManyRow, standIns := [], harness := (true, "e76912143215107e1d884e19bee0c2f823c1032304386af10589adabb713692b"), looks := false }, kinds := [], alts := [], laidByText := true, laidKinds := [.data, .data, .data, .wider, .wider], laidTests := true, laidLooks := .later }
def BlockJustSoManyCardSaid : Prop := Claim7.holds Tryd.pinned (.plain (OpenSpec.ofChange blockJustSoManySpec)) blockJustSoManyCard

/-- THE SECOND FORM's CARD OF 'valiselaw10.BlockJustSoMany'. -/
def blockJustSoManyUptoCard : Claim7 := { stood := { row := blockJustSoManyUptoRow, standIns := [], harness := (true, "e76912143215107e1d884e19bee0c2f823c1032304386af10589adabb713692b"), looks := false }, kinds := [], alts := [], laidByText := true, laidKinds := [.data, .data, .data, .wider, .wider], laidTests := true, laidLooks := .later }
def BlockJustSoManyUptoCardSaid : Prop := Claim7.holds Tryd.pinned (.plain (OpenSpec.upto blockJustSoManySpec)) blockJustSoManyUptoCard
end Rows
end Go.Proofs.YtfdhffcdkmklbaaDoor
