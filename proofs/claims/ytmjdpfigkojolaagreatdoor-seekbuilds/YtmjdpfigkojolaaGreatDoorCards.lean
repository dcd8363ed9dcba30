/-
  DERIVED. GIVEN WITH THE SEED: THE CARDS: each row of YtmjdpfigkojolaaGreatDoorRows.lean that lists a variable, with what it lists TIED to the program's text (the seventh form; the later family's looks); each row that meets fmt, with fmt's text TOLD by the authors' own Lean function (tested against real Go, not proved from fmt's source: count such statements apart). THE CARD IS WHAT COUNTS. Prove the row's statement (the work); the ties are given (YtmjdpfigkojolaaGreatDoorTie.lean); close each card by the builder's one call (the guide's Derived/Test/ToyasCard.lean, 'card_holds'). Laid BY PROGRAM, IN A SANDBOX (cutbox-door.mjs). By AI agents, Wed Nov 11 2026. No macro, syntax, notation, axiom, sorry.
-/
import Derived.Test.YtmjdpfigkojolaaGreatDoorRows
import GoSem.ClaimSeven
namespace Go.Proofs.YtmjdpfigkojolaaGreatDoor
namespace Rows

/-- THE TIED CARD OF 'valiselaw22.SeekMarks'. -/
def seekMarksCard : Claim7 := { stood := { row := seekMarksRow, standIns := [], harness := (true, "d43f41a9748fe400d529400521e2b13b548635d8c3e0f9a10a7a6780b7775557"), looks := true }, kinds := [], alts := [], laidByText := true, laidKinds := [.data, .data, .data], laidTests := true, laidLooks := .later }
def SeekMarksCardSaid : Prop := Claim7.holds Tryz.pinned (.plain (OpenSpec.ofChange seekMarksSpec)) seekMarksCard

/-- THE TIED CARD OF 'valiselaw22.SeekBuilds'. -/
def seekBuildsCard : Claim7 := { stood := { row := seekBuildsRow, standIns := [], harness := (true, "d43f41a9748fe400d529400521e2b13b548635d8c3e0f9a10a7a6780b7775557"), looks := true }, kinds := [], alts := [], laidByText := true, laidKinds := [.data, .data, .data, .data], laidTests := true, laidLooks := .later }
def SeekBuildsCardSaid : Prop := Claim7.holds Tryz.pinned (.plain (OpenSpec.ofChange seekBuildsSpec)) seekBuildsCard

/-- THE SECOND FORM's CARD OF 'valiselaw22.SeekMarks'. -/
def seekMarksUptoCard : Claim7 := { stood := { row := seekMarksUptoRow, standIns := [], harness := (true, "d43f41a9748fe400d529400521e2b13b548635d8c3e0f9a10a7a6780b7775557"), looks := true }, kinds := [], alts := [], laidByText := true, laidKinds := [.data, .data, .data], laidTests := true, laidLooks := .later }
def SeekMarksUptoCardSaid : Prop := Claim7.holds Tryz.pinned (.plain (OpenSpec.upto seekMarksSpec)) seekMarksUptoCard

/-- THE SECOND FORM's CARD OF 'valiselaw22.SeekBuilds'. -/
def seekBuildsUptoCard : Claim7 := { stood := { row := seekBuildsUptoRow, standIns := [], harness := (true, "d43f41a9748fe400d529400521e2b13b548635d8c3e0f9a10a7a6780b7775557"), looks := true }, kinds := [], alts := [], laidByText := true, laidKinds := [.data, .data, .data, .data], laidTests := true, laidLooks := .later }
def SeekBuildsUptoCardSaid : Prop := Claim7.holds Tryz.pinned (.plain (OpenSpec.upto seekBuildsSpec)) seekBuildsUptoCard
end Rows
end Go.Proofs.YtmjdpfigkojolaaGreatDoor
