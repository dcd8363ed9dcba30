/-
  DERIVED. GIVEN WITH THE SEED: THE CARDS: each row of YtpmgnpfpnkmmbaaGreatDoorRows.lean that lists a variable, with what it lists TIED to the program's text (the seventh form; the later family's looks); each row that meets fmt, with fmt's text TOLD by the authors' own Lean function (tested against real Go, not proved from fmt's source: count such statements apart). THE CARD IS WHAT COUNTS. Prove the row's statement (the work); the ties are given (YtpmgnpfpnkmmbaaGreatDoorTie.lean); close each card by the builder's one call (the guide's Derived/Test/ToyasCard.lean, 'card_holds'). Laid BY PROGRAM, IN A SANDBOX (cutbox-door.mjs). By AI agents, Wed Nov 11 2026. No macro, syntax, notation, axiom, sorry.
-/
import Derived.Test.YtpmgnpfpnkmmbaaGreatDoorRows
import GoSem.ClaimSeven
namespace Go.Proofs.YtpmgnpfpnkmmbaaGreatDoor
namespace Rows

/-- THE TIED CARD OF 'valiselaw8.InflateWalks'. -/
def inflateWalksCard : Claim7 := { stood := { row := inflateWalksRow, standIns := [], harness := (true, "6a0975d8a6955308af68b63c44cb913d241ed3f55d4750b4c35dbd0d76e8eebd"), looks := true }, kinds := [], alts := [], laidByText := true, laidKinds := [.data, .data, .data, .data], laidTests := true, laidLooks := .later }
def InflateWalksCardSaid : Prop := Claim7.holds Tryz.pinned (.plain (OpenSpec.ofChange inflateWalksSpec)) inflateWalksCard

/-- THE TIED CARD OF 'valiselaw8.InflateReads'. -/
def inflateReadsCard : Claim7 := { stood := { row := inflateReadsRow, standIns := [], harness := (true, "6a0975d8a6955308af68b63c44cb913d241ed3f55d4750b4c35dbd0d76e8eebd"), looks := true }, kinds := [], alts := [], laidByText := true, laidKinds := [.data, .data, .data, .data], laidTests := true, laidLooks := .later }
def InflateReadsCardSaid : Prop := Claim7.holds Tryz.pinned (.plain (OpenSpec.ofChange inflateReadsSpec)) inflateReadsCard

/-- THE TIED CARD OF 'valiselaw8.InflateExacts'. -/
def inflateExactsCard : Claim7 := { stood := { row := inflateExactsRow, standIns := [], harness := (true, "6a0975d8a6955308af68b63c44cb913d241ed3f55d4750b4c35dbd0d76e8eebd"), looks := true }, kinds := [], alts := [], laidByText := true, laidKinds := [.data, .data, .data, .data], laidTests := true, laidLooks := .later }
def InflateExactsCardSaid : Prop := Claim7.holds Tryz.pinned (.plain (OpenSpec.ofChange inflateExactsSpec)) inflateExactsCard

/-- THE SECOND FORM's CARD OF 'valiselaw8.InflateWalks'. -/
def inflateWalksUptoCard : Claim7 := { stood := { row := inflateWalksUptoRow, standIns := [], harness := (true, "6a0975d8a6955308af68b63c44cb913d241ed3f55d4750b4c35dbd0d76e8eebd"), looks := true }, kinds := [], alts := [], laidByText := true, laidKinds := [.data, .data, .data, .data], laidTests := true, laidLooks := .later }
def InflateWalksUptoCardSaid : Prop := Claim7.holds Tryz.pinned (.plain (OpenSpec.upto inflateWalksSpec)) inflateWalksUptoCard

/-- THE SECOND FORM's CARD OF 'valiselaw8.InflateReads'. -/
def inflateReadsUptoCard : Claim7 := { stood := { row := inflateReadsUptoRow, standIns := [], harness := (true, "6a0975d8a6955308af68b63c44cb913d241ed3f55d4750b4c35dbd0d76e8eebd"), looks := true }, kinds := [], alts := [], laidByText := true, laidKinds := [.data, .data, .data, .data], laidTests := true, laidLooks := .later }
def InflateReadsUptoCardSaid : Prop := Claim7.holds Tryz.pinned (.plain (OpenSpec.upto inflateReadsSpec)) inflateReadsUptoCard

/-- THE SECOND FORM's CARD OF 'valiselaw8.InflateExacts'. -/
def inflateExactsUptoCard : Claim7 := { stood := { row := inflateExactsUptoRow, standIns := [], harness := (true, "6a0975d8a6955308af68b63c44cb913d241ed3f55d4750b4c35dbd0d76e8eebd"), looks := true }, kinds := [], alts := [], laidByText := true, laidKinds := [.data, .data, .data, .data], laidTests := true, laidLooks := .later }
def InflateExactsUptoCardSaid : Prop := Claim7.holds Tryz.pinned (.plain (OpenSpec.upto inflateExactsSpec)) inflateExactsUptoCard
end Rows
end Go.Proofs.YtpmgnpfpnkmmbaaGreatDoor
