/-
  DERIVED. GIVEN WITH THE SEED: THE CARDS: each row of YtiabhmdefaabgaaDoorRows.lean that lists a variable, with what it lists TIED to the program's text (the seventh form; the later family's looks); each row that meets fmt, with fmt's text TOLD by the authors' own Lean function (tested against real Go, not proved from fmt's source: count such statements apart). THE CARD IS WHAT COUNTS. Prove the row's statement (the work); the ties are given (YtiabhmdefaabgaaDoorTie.lean); close each card by the builder's one call (the guide's Derived/Test/ToyasCard.lean, 'card_holds'). Laid BY PROGRAM, IN A SANDBOX (cutbox-door.mjs). By AI agents, Wed Nov 11 2026. No macro, syntax, notation, axiom, sorry.
-/
import Derived.Test.YtiabhmdefaabgaaDoorRows
import GoSem.ClaimSeven
namespace Go.Proofs.YtiabhmdefaabgaaDoor
namespace Rows

/-- THE TIED CARD OF 'valiselaw7.HeaderExpands'. -/
def headerExpandsCard : Claim7 := { stood := { row := headerExpandsRow, standIns := [], harness := (true, "0190dfb86f66a71bbb41bc5aa9568b5de7036bc7ff9043c0902897c094985a88"), looks := false }, kinds := [], alts := [], laidByText := true, laidKinds := [.data, .data], laidTests := true, laidLooks := .later }
def HeaderExpandsCardSaid : Prop := Claim7.holds Tryd.pinned (.plain (OpenSpec.ofChange headerExpandsSpec)) headerExpandsCard

/-- THE TIED CARD OF 'valiselaw7.HeaderRunsGoBack'. -/
def headerRunsGoBackCard : Claim7 := { stood := { row := headerRunsGoBackRow, standIns := [], harness := (true, "0190dfb86f66a71bbb41bc5aa9568b5de7036bc7ff9043c0902897c094985a88"), looks := false }, kinds := [], alts := [], laidByText := true, laidKinds := [.data, .data], laidTests := true, laidLooks := .later }
def HeaderRunsGoBackCardSaid : Prop := Claim7.holds Tryd.pinned (.plain (OpenSpec.ofChange headerRunsGoBackSpec)) headerRunsGoBackCard

/-- THE TIED CARD OF 'valiselaw7.HeaderRuns'. -/
def headerRunsCard : Claim7 := { stood := { row := headerRunsRow, standIns := [], harness := (true, "0190dfb86f66a71bbb41bc5aa9568b5de7036bc7ff9043c0902897c094985a88"), looks := false }, kinds := [], alts := [], laidByText := true, laidKinds := [.data, .data], laidTests := true, laidLooks := .later }
def HeaderRunsCardSaid : Prop := Claim7.holds Tryd.pinned (.plain (OpenSpec.ofChange headerRunsSpec)) headerRunsCard

/-- THE TIED CARD OF 'valiselaw7.HeaderSmallCodeIsBest'. -/
def headerSmallCodeIsBestCard : Claim7 := { stood := { row := headerSmallCodeIsBestRow, standIns := [], harness := (true, "0190dfb86f66a71bbb41bc5aa9568b5de7036bc7ff9043c0902897c094985a88"), looks := false }, kinds := [], alts := [], laidByText := true, laidKinds := [.data, .data, .data], laidTests := true, laidLooks := .later }
def HeaderSmallCodeIsBestCardSaid : Prop := Claim7.holds Tryd.pinned (.plain (OpenSpec.ofChange headerSmallCodeIsBestSpec)) headerSmallCodeIsBestCard

/-- THE TIED CARD OF 'valiselaw7.HeaderHolds'. -/
def headerHoldsCard : Claim7 := { stood := { row := headerHoldsRow, standIns := [], harness := (true, "0190dfb86f66a71bbb41bc5aa9568b5de7036bc7ff9043c0902897c094985a88"), looks := false }, kinds := [], alts := [], laidByText := true, laidKinds := [.data, .data, .data], laidTests := true, laidLooks := .later }
def HeaderHoldsCardSaid : Prop := Claim7.holds Tryd.pinned (.plain (OpenSpec.ofChange headerHoldsSpec)) headerHoldsCard

/-- THE TIED CARD OF 'valiselaw7.HeaderReads'. -/
def headerReadsCard : Claim7 := { stood := { row := headerReadsRow, standIns := [], harness := (true, "0190dfb86f66a71bbb41bc5aa9568b5de7036bc7ff9043c0902897c094985a88"), looks := false }, kinds := [], alts := [], laidByText := true, laidKinds := [.data, .data, .data, .data], laidTests := true, laidLooks := .later }
def HeaderReadsCardSaid : Prop := Claim7.holds Tryd.pinned (.plain (OpenSpec.ofChange headerReadsSpec)) headerReadsCard

/-- THE SECOND FORM's CARD OF 'valiselaw7.HeaderExpands'. -/
def headerExpandsUptoCard : Claim7 := { stood := { row := headerExpandsUptoRow, standIns := [], harness := (true, "0190dfb86f66a71bbb41bc5aa9568b5de7036bc7ff9043c0902897c094985a88"), looks := false }, kinds := [], alts := [], laidByText := true, laidKinds := [.data, .data], laidTests := true, laidLooks := .later }
def HeaderExpandsUptoCardSaid : Prop := Claim7.holds Tryd.pinned (.plain (OpenSpec.upto headerExpandsSpec)) headerExpandsUptoCard

/-- THE SECOND FORM's CARD OF 'valiselaw7.HeaderRunsGoBack'. -/
def headerRunsGoBackUptoCard : Claim7 := { stood := { row := headerRunsGoBackUptoRow, standIns := [], harness := (true, "0190dfb86f66a71bbb41bc5aa9568b5de7036bc7ff9043c0902897c094985a88"), looks := false }, kinds := [], alts := [], laidByText := true, laidKinds := [.data, .data], laidTests := true, laidLooks := .later }
def HeaderRunsGoBackUptoCardSaid : Prop := Claim7.holds Tryd.pinned (.plain (OpenSpec.upto headerRunsGoBackSpec)) headerRunsGoBackUptoCard

/-- THE SECOND FORM's CARD OF 'valiselaw7.HeaderRuns'. -/
def headerRunsUptoCard : Claim7 := { stood := { row := headerRunsUptoRow, standIns := [], harness := (true, "0190dfb86f66a71bbb41bc5aa9568b5de7036bc7ff9043c0902897c094985a88"), looks := false }, kinds := [], alts := [], laidByText := true, laidKinds := [.data, .data], laidTests := true, laidLooks := .later }
def HeaderRunsUptoCardSaid : Prop := Claim7.holds Tryd.pinned (.plain (OpenSpec.upto headerRunsSpec)) headerRunsUptoCard

/-- THE SECOND FORM's CARD OF 'valiselaw7.HeaderSmallCodeIsBest'. -/
def headerSmallCodeIsBestUptoCard : Claim7 := { stood := { row := headerSmallCodeIsBestUptoRow, standIns := [], harness := (true, "0190dfb86f66a71bbb41bc5aa9568b5de7036bc7ff9043c0902897c094985a88"), looks := false }, kinds := [], alts := [], laidByText := true, laidKinds := [.data, .data, .data], laidTests := true, laidLooks := .later }
def HeaderSmallCodeIsBestUptoCardSaid : Prop := Claim7.holds Tryd.pinned (.plain (OpenSpec.upto headerSmallCodeIsBestSpec)) headerSmallCodeIsBestUptoCard

/-- THE SECOND FORM's CARD OF 'valiselaw7.HeaderHolds'. -/
def headerHoldsUptoCard : Claim7 := { stood := { row := headerHoldsUptoRow, standIns := [], harness := (true, "0190dfb86f66a71bbb41bc5aa9568b5de7036bc7ff9043c0902897c094985a88"), looks := false }, kinds := [], alts := [], laidByText := true, laidKinds := [.data, .data, .data], laidTests := true, laidLooks := .later }
def HeaderHoldsUptoCardSaid : Prop := Claim7.holds Tryd.pinned (.plain (OpenSpec.upto headerHoldsSpec)) headerHoldsUptoCard

/-- THE SECOND FORM's CARD OF 'valiselaw7.HeaderReads'. -/
def headerReadsUptoCard : Claim7 := { stood := { row := headerReadsUptoRow, standIns := [], harness := (true, "0190dfb86f66a71bbb41bc5aa9568b5de7036bc7ff9043c0902897c094985a88"), looks := false }, kinds := [], alts := [], laidByText := true, laidKinds := [.data, .data, .data, .data], laidTests := true, laidLooks := .later }
def HeaderReadsUptoCardSaid : Prop := Claim7.holds Tryd.pinned (.plain (OpenSpec.upto headerReadsSpec)) headerReadsUptoCard
end Rows
end Go.Proofs.YtiabhmdefaabgaaDoor
