/-
  DERIVED. GIVEN WITH THE SEED: THE CARDS: each row of YtiabhmdefaabgacGreatDoorRows.lean that lists a variable, with what it lists TIED to the program's text (the seventh form; the later family's looks); each row that meets fmt, with fmt's text TOLD by the authors' own Lean function (tested against real Go, not proved from fmt's source: count such statements apart). THE CARD IS WHAT COUNTS. Prove the row's statement (the work); the ties are given (YtiabhmdefaabgacGreatDoorTie.lean); close each card by the builder's one call (the guide's Derived/Test/ToyasCard.lean, 'card_holds'). Laid BY PROGRAM, IN A SANDBOX (cutbox-door.mjs). By AI agents, Wed Nov 11 2026. No macro, syntax, notation, axiom, sorry.
-/
import Derived.Test.YtiabhmdefaabgacGreatDoorRows
import GoSem.ClaimSeven
namespace Go.Proofs.YtiabhmdefaabgacGreatDoor
namespace Rows

/-- THE TIED CARD OF 'valiselaw7.HeaderWrites'. -/
def headerWritesCard : Claim7 := { stood := { row := headerWritesRow, standIns := [], harness := (true, "30c2c9035920d77343e3106f4ffddaee0f5189596979d48b919a1c75ee53fa2a"), looks := false }, kinds := [], alts := [], laidByText := true, laidKinds := [.data, .data, .data, .data], laidTests := true, laidLooks := .later }
def HeaderWritesCardSaid : Prop := Claim7.holds Tryz.pinned (.plain (OpenSpec.ofChange headerWritesSpec)) headerWritesCard

/-- THE SECOND FORM's CARD OF 'valiselaw7.HeaderWrites'. -/
def headerWritesUptoCard : Claim7 := { stood := { row := headerWritesUptoRow, standIns := [], harness := (true, "30c2c9035920d77343e3106f4ffddaee0f5189596979d48b919a1c75ee53fa2a"), looks := false }, kinds := [], alts := [], laidByText := true, laidKinds := [.data, .data, .data, .data], laidTests := true, laidLooks := .later }
def HeaderWritesUptoCardSaid : Prop := Claim7.holds Tryz.pinned (.plain (OpenSpec.upto headerWritesSpec)) headerWritesUptoCard
end Rows
end Go.Proofs.YtiabhmdefaabgacGreatDoor
