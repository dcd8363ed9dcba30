/-
  DERIVED. GIVEN WITH THE SEED: THE CARDS: each row of YtippppcdongahaaDoorRows.lean that lists a variable, with what it lists TIED to the program's text (the seventh form; the later family's looks); each row that meets fmt, with fmt's text TOLD by the authors' own Lean function (tested against real Go, not proved from fmt's source: count such statements apart). THE CARD IS WHAT COUNTS. Prove the row's statement (the work); the ties are given (YtippppcdongahaaDoorTie.lean); close each card by the builder's one call (the guide's Derived/Test/ToyasCard.lean, 'card_holds'). Laid BY PROGRAM, IN A SANDBOX (cutbox-door.mjs). By AI agents, Wed Nov 11 2026. No macro, syntax, notation, axiom, sorry.
-/
import Derived.Test.YtippppcdongahaaDoorRows
import GoSem.ClaimSeven
namespace Go.Proofs.YtippppcdongahaaDoor
namespace Rows

/-- THE TIED CARD OF 'valiselaw8.InflateSame'. -/
def inflateSameCard : Claim7 := { stood := { row := inflateSameRow, standIns := [], harness := (true, "ac2a3b63cba7b58c5f3e30e09b1e2d5becf4444fc15ff71f11ffd62211f7f33e"), looks := true }, kinds := [], alts := [], laidByText := true, laidKinds := [.data, .data, .data], laidTests := true, laidLooks := .later }
def InflateSameCardSaid : Prop := Claim7.holds Tryd.pinned (.plain (OpenSpec.ofChange inflateSameSpec)) inflateSameCard

/-- THE SECOND FORM's CARD OF 'valiselaw8.InflateSame'. -/
def inflateSameUptoCard : Claim7 := { stood := { row := inflateSameUptoRow, standIns := [], harness := (true, "ac2a3b63cba7b58c5f3e30e09b1e2d5becf4444fc15ff71f11ffd62211f7f33e"), looks := true }, kinds := [], alts := [], laidByText := true, laidKinds := [.data, .data, .data], laidTests := true, laidLooks := .later }
def InflateSameUptoCardSaid : Prop := Claim7.holds Tryd.pinned (.plain (OpenSpec.upto inflateSameSpec)) inflateSameUptoCard
end Rows
end Go.Proofs.YtippppcdongahaaDoor
