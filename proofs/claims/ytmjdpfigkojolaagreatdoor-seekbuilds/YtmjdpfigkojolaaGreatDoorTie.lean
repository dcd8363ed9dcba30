/-
  DERIVED. GIVEN WITH THE SEED: THE PROGRAM's TIES (one call each: nine closed facts by the kernel) AND EACH ROW's TIE, after the 31st guide's Derived/Test/Toyas{Tie, Card}.lean. No idea stands in it: it is a product of the set-up. Laid BY PROGRAM, IN A SANDBOX (cutbox-door.mjs). By AI agents, Wed Nov 11 2026. No macro, syntax, notation, axiom, sorry.
-/
import Derived.Test.YtmjdpfigkojolaaGreatDoorRows
import Derived.LaidByTextLater
import Derived.SevenTiedAt
import Derived.LaidSub
import Derived.LaidOnce
namespace Go.Proofs.YtmjdpfigkojolaaGreatDoor
open Go
set_option maxRecDepth 100000
theorem seatTie1 : Tryz.prog.laidByTextLater [("valise/header.order", Rows.laid_valise_header_order), ("valise/header.least", Rows.laid_valise_header_least), ("valise/header.further", Rows.laid_valise_header_further), ("valise/valiseref7.order", Rows.laid_valise_valiseref7_order)] [.data, .data, .data, .data] true :=
  Program.laidByTextLater_by_one 29 8 20 (by kernel_rfl) (by kernel_rfl) (by kernel_rfl) (by kernel_rfl) (by kernel_rfl) (by kernel_rfl) (fun _ _ => by kernel_rfl)
theorem noOwnUnsafe : Tryz.pinned.checked.prog.headLifts.contains "ownunsafe" = false := by kernel_rfl
theorem tie : Tryz.prog.laidByTextLater [("valise/header.order", Rows.laid_valise_header_order), ("valise/header.least", Rows.laid_valise_header_least), ("valise/header.further", Rows.laid_valise_header_further)] [.data, .data, .data] true :=
  Program.laidByTextLater.sub seatTie1 ["valise/header.order", "valise/header.least", "valise/header.further"] (by kernel_rfl) (by kernel_rfl)
theorem seekMarks_row_tie : Rows.seekMarksRow.laidByTextAt .later Tryz.pinned [.data, .data, .data] true :=
  OpenClaim.laidByTextAt_later rfl rfl tie noOwnUnsafe
theorem tie2 : Tryz.prog.laidByTextLater [("valise/header.order", Rows.laid_valise_header_order), ("valise/header.least", Rows.laid_valise_header_least), ("valise/header.further", Rows.laid_valise_header_further), ("valise/valiseref7.order", Rows.laid_valise_valiseref7_order)] [.data, .data, .data, .data] true :=
  Program.laidByTextLater.sub seatTie1 ["valise/header.order", "valise/header.least", "valise/header.further", "valise/valiseref7.order"] (by kernel_rfl) (by kernel_rfl)
theorem seekBuilds_row_tie : Rows.seekBuildsRow.laidByTextAt .later Tryz.pinned [.data, .data, .data, .data] true :=
  OpenClaim.laidByTextAt_later rfl rfl tie2 noOwnUnsafe
theorem seekMarksUpto_row_tie : Rows.seekMarksUptoRow.laidByTextAt .later Tryz.pinned [.data, .data, .data] true :=
  OpenClaim.laidByTextAt_later rfl rfl tie noOwnUnsafe
theorem seekBuildsUpto_row_tie : Rows.seekBuildsUptoRow.laidByTextAt .later Tryz.pinned [.data, .data, .data, .data] true :=
  OpenClaim.laidByTextAt_later rfl rfl tie2 noOwnUnsafe
end Go.Proofs.YtmjdpfigkojolaaGreatDoor
