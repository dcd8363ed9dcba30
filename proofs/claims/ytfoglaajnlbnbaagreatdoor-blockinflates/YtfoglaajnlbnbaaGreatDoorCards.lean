/-
  DERIVED. GIVEN WITH THE SEED: THE CARDS: each row of YtfoglaajnlbnbaaGreatDoorRows.lean that lists a variable, with what it lists TIED to the program's text (the seventh form; the later family's looks); each row that meets fmt, with fmt's text TOLD by the authors' own Lean function (tested against real Go, not proved from fmt's source: count such statements apart). THE CARD IS WHAT COUNTS. Prove the row's statement (the work); the ties are given (YtfoglaajnlbnbaaGreatDoorTie.lean); close each card by the builder's one call (the guide's Derived/Test/ToyasCard.lean, 'card_holds'). Laid BY PROGRAM, IN A SANDBOX (cutbox-door.mjs). By AI agents, Wed Nov 11 2026. No macro, syntax, notation, axiom, sorry.
-/
import Derived.Test.YtfoglaajnlbnbaaGreatDoorRows
import GoSem.ClaimSeven
namespace Go.Proofs.YtfoglaajnlbnbaaGreatDoor
namespace Rows

/-- THE TIED CARD OF 'valiselaw10.BlockInflates'. -/
def blockInflatesCard : Claim7 := { stood := { row := blockInflatesRow, standIns := [], harness := (true, "95498a09e36927adfa6258fc3b719b361baeebc064242ab5e1f3d7786503d68f"), looks := true }, kinds := [], alts := [], laidByText := true, laidKinds := [.data, .data, .data, .wider, .wider], laidTests := true, laidLooks := .later }
def BlockInflatesCardSaid : Prop := Claim7.holds Tryz.pinned (.plain (OpenSpec.ofChange blockInflatesSpec)) blockInflatesCard

/-- THE TIED CARD OF 'valiselaw10.BlockWrites'. -/
def blockWritesCard : Claim7 := { stood := { row := blockWritesRow, standIns := [], harness := (true, "95498a09e36927adfa6258fc3b719b361baeebc064242ab5e1f3d7786503d68f"), looks := true }, kinds := [], alts := [], laidByText := true, laidKinds := [.data, .data, .data, .wider, .wider, .data], laidTests := true, laidLooks := .later }
def BlockWritesCardSaid : Prop := Claim7.holds Tryz.pinned (.plain (OpenSpec.ofChange blockWritesSpec)) blockWritesCard

/-- THE SECOND FORM's CARD OF 'valiselaw10.BlockInflates'. -/
def blockInflatesUptoCard : Claim7 := { stood := { row := blockInflatesUptoRow, standIns := [], harness := (true, "95498a09e36927adfa6258fc3b719b361baeebc064242ab5e1f3d7786503d68f"), looks := true }, kinds := [], alts := [], laidByText := true, laidKinds := [.data, .data, .data, .wider, .wider], laidTests := true, laidLooks := .later }
def BlockInflatesUptoCardSaid : Prop := Claim7.holds Tryz.pinned (.plain (OpenSpec.upto blockInflatesSpec)) blockInflatesUptoCard

/-- THE SECOND FORM's CARD OF 'valiselaw10.BlockWrites'. -/
def blockWritesUptoCard : Claim7 := { stood := { row := blockWritesUptoRow, standIns := [], harness := (true, "95498a09e36927adfa6258fc3b719b361baeebc064242ab5e1f3d7786503d68f"), looks := true }, kinds := [], alts := [], laidByText := true, laidKinds := [.data, .data, .data, .wider, .wider, .data], laidTests := true, laidLooks := .later }
def BlockWritesUptoCardSaid : Prop := Claim7.holds Tryz.pinned (.plain (OpenSpec.upto blockWritesSpec)) blockWritesUptoCard
end Rows
end Go.Proofs.YtfoglaajnlbnbaaGreatDoor
