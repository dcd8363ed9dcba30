/-
  DERIVED. GIVEN WITH THE SEED: THE CARDS: each row of YtiabhmdefaabgabDoorRows.lean that lists a variable, with what it lists TIED to the program's text (the seventh form; the later family's looks); each row that meets fmt, with fmt's text TOLD by the authors' own Lean function (tested against real Go, not proved from fmt's source: count such statements apart). THE CARD IS WHAT COUNTS. Prove the row's statement (the work); the ties are given (YtiabhmdefaabgabDoorTie.lean); close each card by the builder's one call (the guide's Derived/Test/ToyasCard.lean, 'card_holds'). Laid BY PROGRAM, IN A SANDBOX (cutbox-door.mjs). By AI agents, Wed Nov 11 2026. No macro, syntax, notation, axiom, sorry.
-/
import Derived.Test.YtiabhmdefaabgabDoorRows
import GoSem.ClaimSeven
namespace Go.Proofs.YtiabhmdefaabgabDoor
namespace Rows

/-- THE TIED CARD OF 'valiselaw7.HeaderMayBe'. -/
def headerMayBeCard : Claim7 := { stood := { row := headerMayBeRow, standIns := [], harness := (true, "964b65ad3d8e7640c58246d06ea2b9b1a0a921eb50091142238fccdc4ff88475"), looks := false }, kinds := [], alts := [], laidByText := true, laidKinds := [.data, .data, .data], laidTests := true, laidLooks := .later }
def HeaderMayBeCardSaid : Prop := Claim7.holds Tryd.pinned (.plain (OpenSpec.ofChange headerMayBeSpec)) headerMayBeCard

/-- THE TIED CARD OF 'valiselaw7.HeaderNil'. -/
def headerNilCard : Claim7 := { stood := { row := headerNilRow, standIns := [], harness := (true, "964b65ad3d8e7640c58246d06ea2b9b1a0a921eb50091142238fccdc4ff88475"), looks := false }, kinds := [], alts := [], laidByText := true, laidKinds := [.data, .data, .data], laidTests := true, laidLooks := .later }
def HeaderNilCardSaid : Prop := Claim7.holds Tryd.pinned (.plain (OpenSpec.ofChange headerNilSpec)) headerNilCard

/-- THE TIED CARD OF 'valiselaw7.HeaderMakes'. -/
def headerMakesCard : Claim7 := { stood := { row := headerMakesRow, standIns := [], harness := (true, "964b65ad3d8e7640c58246d06ea2b9b1a0a921eb50091142238fccdc4ff88475"), looks := false }, kinds := [], alts := [], laidByText := true, laidKinds := [.data, .data, .data, .data], laidTests := true, laidLooks := .later }
def HeaderMakesCardSaid : Prop := Claim7.holds Tryd.pinned (.plain (OpenSpec.ofChange headerMakesSpec)) headerMakesCard

/-- THE TIED CARD OF 'valiselaw7.HeaderSound'. -/
def headerSoundCard : Claim7 := { stood := { row := headerSoundRow, standIns := [], harness := (true, "964b65ad3d8e7640c58246d06ea2b9b1a0a921eb50091142238fccdc4ff88475"), looks := false }, kinds := [], alts := [], laidByText := true, laidKinds := [.data, .data, .data], laidTests := true, laidLooks := .later }
def HeaderSoundCardSaid : Prop := Claim7.holds Tryd.pinned (.plain (OpenSpec.ofChange headerSoundSpec)) headerSoundCard

/-- THE TIED CARD OF 'valiselaw7.HeaderCut'. -/
def headerCutCard : Claim7 := { stood := { row := headerCutRow, standIns := [], harness := (true, "964b65ad3d8e7640c58246d06ea2b9b1a0a921eb50091142238fccdc4ff88475"), looks := false }, kinds := [], alts := [], laidByText := true, laidKinds := [.data, .data, .data], laidTests := true, laidLooks := .later }
def HeaderCutCardSaid : Prop := Claim7.holds Tryd.pinned (.plain (OpenSpec.ofChange headerCutSpec)) headerCutCard

/-- THE TIED CARD OF 'valiselaw7.HeaderGoesBack'. -/
def headerGoesBackCard : Claim7 := { stood := { row := headerGoesBackRow, standIns := [], harness := (true, "964b65ad3d8e7640c58246d06ea2b9b1a0a921eb50091142238fccdc4ff88475"), looks := false }, kinds := [], alts := [], laidByText := true, laidKinds := [.data, .data, .data], laidTests := true, laidLooks := .later }
def HeaderGoesBackCardSaid : Prop := Claim7.holds Tryd.pinned (.plain (OpenSpec.ofChange headerGoesBackSpec)) headerGoesBackCard

/-- THE SECOND FORM's CARD OF 'valiselaw7.HeaderMayBe'. -/
def headerMayBeUptoCard : Claim7 := { stood := { row := headerMayBeUptoRow, standIns := [], harness := (true, "964b65ad3d8e7640c58246d06ea2b9b1a0a921eb50091142238fccdc4ff88475"), looks := false }, kinds := [], alts := [], laidByText := true, laidKinds := [.data, .data, .data], laidTests := true, laidLooks := .later }
def HeaderMayBeUptoCardSaid : Prop := Claim7.holds Tryd.pinned (.plain (OpenSpec.upto headerMayBeSpec)) headerMayBeUptoCard

/-- THE SECOND FORM's CARD OF 'valiselaw7.HeaderNil'. -/
def headerNilUptoCard : Claim7 := { stood := { row := headerNilUptoRow, standIns := [], harness := (true, "964b65ad3d8e7640c58246d06ea2b9b1a0a921eb50091142238fccdc4ff88475"), looks := false }, kinds := [], alts := [], laidByText := true, laidKinds := [.data, .data, .data], laidTests := true, laidLooks := .later }
def HeaderNilUptoCardSaid : Prop := Claim7.holds Tryd.pinned (.plain (OpenSpec.upto headerNilSpec)) headerNilUptoCard

/-- THE SECOND FORM's CARD OF 'valiselaw7.HeaderMakes'. -/
def headerMakesUptoCard : Claim7 := { stood := { row := headerMakesUptoRow, standIns := [], harness := (true, "964b65ad3d8e7640c58246d06ea2b9b1a0a921eb50091142238fccdc4ff88475"), looks := false }, kinds := [], alts := [], laidByText := true, laidKinds := [.data, .data, .data, .data], laidTests := true, laidLooks := .later }
def HeaderMakesUptoCardSaid : Prop := Claim7.holds Tryd.pinned (.plain (OpenSpec.upto headerMakesSpec)) headerMakesUptoCard

/-- THE SECOND FORM's CARD OF 'valiselaw7.HeaderSound'. -/
def headerSoundUptoCard : Claim7 := { stood := { row := headerSoundUptoRow, standIns := [], harness := (true, "964b65ad3d8e7640c58246d06ea2b9b1a0a921eb50091142238fccdc4ff88475"), looks := false }, kinds := [], alts := [], laidByText := true, laidKinds := [.data, .data, .data], laidTests := true, laidLooks := .later }
def HeaderSoundUptoCardSaid : Prop := Claim7.holds Tryd.pinned (.plain (OpenSpec.upto headerSoundSpec)) headerSoundUptoCard

/-- THE SECOND FORM's CARD OF 'valiselaw7.HeaderCut'. -/
def headerCutUptoCard : Claim7 := { stood := { row := headerCutUptoRow, standIns := [], harness := (true, "964b65ad3d8e7640c58246d06ea2b9b1a0a921eb50091142238fccdc4ff88475"), looks := false }, kinds := [], alts := [], laidByText := true, laidKinds := [.data, .data, .data], laidTests := true, laidLooks := .later }
def HeaderCutUptoCardSaid : Prop := Claim7.holds Tryd.pinned (.plain (OpenSpec.upto headerCutSpec)) headerCutUptoCard

/-- THE SECOND FORM's CARD OF 'valiselaw7.HeaderGoesBack'. -/
def headerGoesBackUptoCard : Claim7 := { stood := { row := headerGoesBackUptoRow, standIns := [], harness := (true, "964b65ad3d8e7640c58246d06ea2b9b1a0a921eb50091142238fccdc4ff88475"), looks := false }, kinds := [], alts := [], laidByText := true, laidKinds := [.data, .data, .data], laidTests := true, laidLooks := .later }
def HeaderGoesBackUptoCardSaid : Prop := Claim7.holds Tryd.pinned (.plain (OpenSpec.upto headerGoesBackSpec)) headerGoesBackUptoCard
end Rows
end Go.Proofs.YtiabhmdefaabgabDoor
