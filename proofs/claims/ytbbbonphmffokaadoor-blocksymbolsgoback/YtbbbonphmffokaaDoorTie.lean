/-
  DERIVED. GIVEN WITH THE SEED: THE PROGRAM's TIES (one call each: nine closed facts by the kernel) AND EACH ROW's TIE, after the 31st guide's Derived/Test/Toyas{Tie, Card}.lean. No idea stands in it: it is a product of the set-up. Laid BY PROGRAM, IN A SANDBOX (cutbox-door.mjs). By AI agents, Wed Nov 11 2026. No macro, syntax, notation, axiom, sorry.
-/
import Derived.Test.YtbbbonphmffokaaDoorRows
import Derived.LaidByTextLater
import Derived.SevenTiedAt
import Derived.LaidSub
import Derived.LaidOnce
namespace Go.Proofs.YtbbbonphmffokaaDoor
open Go
set_option maxRecDepth 100000
theorem seatTie1 : Tryd.prog.laidByTextLater [("valise/block.lengths", Rows.laid_valise_block_lengths), ("valise/block.distances", Rows.laid_valise_block_distances)] [.wider, .wider] true :=
  Program.laidByTextLater_by_one 78 8 61 (by kernel_rfl) (by kernel_rfl) (by kernel_rfl) (by kernel_rfl) (by kernel_rfl) (by kernel_rfl) (fun _ _ => by kernel_rfl)
theorem noOwnUnsafe : Tryd.pinned.checked.prog.headLifts.contains "ownunsafe" = false := by kernel_rfl
theorem tie : Tryd.prog.laidByTextLater [("valise/block.lengths", Rows.laid_valise_block_lengths)] [.wider] true :=
  Program.laidByTextLater.sub seatTie1 ["valise/block.lengths"] (by kernel_rfl) (by kernel_rfl)
theorem blockLengthSymbols_row_tie : Rows.blockLengthSymbolsRow.laidByTextAt .later Tryd.pinned [.wider] true :=
  OpenClaim.laidByTextAt_later rfl rfl tie noOwnUnsafe
theorem blockLengthsOf_row_tie : Rows.blockLengthsOfRow.laidByTextAt .later Tryd.pinned [.wider] true :=
  OpenClaim.laidByTextAt_later rfl rfl tie noOwnUnsafe
theorem tie2 : Tryd.prog.laidByTextLater [("valise/block.distances", Rows.laid_valise_block_distances)] [.wider] true :=
  Program.laidByTextLater.sub seatTie1 ["valise/block.distances"] (by kernel_rfl) (by kernel_rfl)
theorem blockDistSymbols_row_tie : Rows.blockDistSymbolsRow.laidByTextAt .later Tryd.pinned [.wider] true :=
  OpenClaim.laidByTextAt_later rfl rfl tie2 noOwnUnsafe
theorem blockDistsOf_row_tie : Rows.blockDistsOfRow.laidByTextAt .later Tryd.pinned [.wider] true :=
  OpenClaim.laidByTextAt_later rfl rfl tie2 noOwnUnsafe
theorem tie3 : Tryd.prog.laidByTextLater [("valise/block.lengths", Rows.laid_valise_block_lengths), ("valise/block.distances", Rows.laid_valise_block_distances)] [.wider, .wider] true :=
  Program.laidByTextLater.sub seatTie1 ["valise/block.lengths", "valise/block.distances"] (by kernel_rfl) (by kernel_rfl)
theorem blockSymbolsGoBack_row_tie : Rows.blockSymbolsGoBackRow.laidByTextAt .later Tryd.pinned [.wider, .wider] true :=
  OpenClaim.laidByTextAt_later rfl rfl tie3 noOwnUnsafe
theorem blockLengthSymbolsUpto_row_tie : Rows.blockLengthSymbolsUptoRow.laidByTextAt .later Tryd.pinned [.wider] true :=
  OpenClaim.laidByTextAt_later rfl rfl tie noOwnUnsafe
theorem blockDistSymbolsUpto_row_tie : Rows.blockDistSymbolsUptoRow.laidByTextAt .later Tryd.pinned [.wider] true :=
  OpenClaim.laidByTextAt_later rfl rfl tie2 noOwnUnsafe
theorem blockLengthsOfUpto_row_tie : Rows.blockLengthsOfUptoRow.laidByTextAt .later Tryd.pinned [.wider] true :=
  OpenClaim.laidByTextAt_later rfl rfl tie noOwnUnsafe
theorem blockDistsOfUpto_row_tie : Rows.blockDistsOfUptoRow.laidByTextAt .later Tryd.pinned [.wider] true :=
  OpenClaim.laidByTextAt_later rfl rfl tie2 noOwnUnsafe
theorem blockSymbolsGoBackUpto_row_tie : Rows.blockSymbolsGoBackUptoRow.laidByTextAt .later Tryd.pinned [.wider, .wider] true :=
  OpenClaim.laidByTextAt_later rfl rfl tie3 noOwnUnsafe
end Go.Proofs.YtbbbonphmffokaaDoor
