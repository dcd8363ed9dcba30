/-
  DERIVED. GIVEN WITH THE SEED: THE CARDS: each row of YtcgeaidegppiaaaDoorRows.lean that lists a variable, with what it lists TIED to the program's text (the seventh form; the later family's looks); each row that meets fmt, with fmt's text TOLD by the authors' own Lean function (tested against real Go, not proved from fmt's source: count such statements apart). THE CARD IS WHAT COUNTS. Prove the row's statement (the work); the ties are given (YtcgeaidegppiaaaDoorTie.lean); close each card by the builder's one call (the guide's Derived/Test/ToyasCard.lean, 'card_holds'). Laid BY PROGRAM, IN A SANDBOX (cutbox-door.mjs). By AI agents, Wed Nov 11 2026. No macro, syntax, notation, axiom, sorry.
-/
import Derived.Test.YtcgeaidegppiaaaDoorRows
import GoSem.ClaimSeven
namespace Go.Proofs.YtcgeaidegppiaaaDoor
namespace Rows

/-- THE TIED CARD OF 'valiselaw8.InflateLimits'. -/
def inflateLimitsCard : Claim7 := { stood := { row := inflateLimitsRow, standIns := [], harness := (true, "a838bad61ec232ddb3104afd894e8a7f91731e3cde3e26071c1607280988d2b1"), looks := true }, kinds := [], alts := [], laidByText := true, laidKinds := [.data, .data, .data], laidTests := true, laidLooks := .later }
def InflateLimitsCardSaid : Prop := Claim7.holds Tryd.pinned (.plain (OpenSpec.ofChange inflateLimitsSpec)) inflateLimitsCard

/-- THE TIED CARD OF 'valiselaw8.InflateTail'. -/
def inflateTailCard : Claim7 := { stood := { row := inflateTailRow, standIns := [], harness := (true, "a838bad61ec232ddb3104afd894e8a7f91731e3cde3e26071c1607280988d2b1"), looks := true }, kinds := [], alts := [], laidByText := true, laidKinds := [.data, .data, .data], laidTests := true, laidLooks := .later }
def InflateTailCardSaid : Prop := Claim7.holds Tryd.pinned (.plain (OpenSpec.ofChange inflateTailSpec)) inflateTailCard

/-- THE SECOND FORM's CARD OF 'valiselaw8.InflateLimits'. -/
def inflateLimitsUptoCard : Claim7 := { stood := { row := inflateLimitsUptoRow, standIns := [], harness := (true, "a838bad61ec232ddb3104afd894e8a7f91731e3cde3e26071c1607280988d2b1"), looks := true }, kinds := [], alts := [], laidByText := true, laidKinds := [.data, .data, .data], laidTests := true, laidLooks := .later }
def InflateLimitsUptoCardSaid : Prop := Claim7.holds Tryd.pinned (.plain (OpenSpec.upto inflateLimitsSpec)) inflateLimitsUptoCard

/-- THE SECOND FORM's CARD OF 'valiselaw8.InflateTail'. -/
def inflateTailUptoCard : Claim7 := { stood := { row := inflateTailUptoRow, standIns := [], harness := (true, "a838bad61ec232ddb3104afd894e8a7f91731e3cde3e26071c1607280988d2b1"), looks := true }, kinds := [], alts := [], laidByText := true, laidKinds := [.data, .data, .data], laidTests := true, laidLooks := .later }
def InflateTailUptoCardSaid : Prop := Claim7.holds Tryd.pinned (.plain (OpenSpec.upto inflateTailSpec)) inflateTailUptoCard
end Rows
end Go.Proofs.YtcgeaidegppiaaaDoor
