/-
  DERIVED. GIVEN WITH THE SEED: THE CARDS: each row of YtkmefeihkmbngaaDoorRows.lean that lists a variable, with what it lists TIED to the program's text (the seventh form; the later family's looks); each row that meets fmt, with fmt's text TOLD by the authors' own Lean function (tested against real Go, not proved from fmt's source: count such statements apart). THE CARD IS WHAT COUNTS. Prove the row's statement (the work); the ties are given (YtkmefeihkmbngaaDoorTie.lean); close each card by the builder's one call (the guide's Derived/Test/ToyasCard.lean, 'card_holds'). Laid BY PROGRAM, IN A SANDBOX (cutbox-door.mjs). By AI agents, Wed Nov 11 2026. No macro, syntax, notation, axiom, sorry.
-/
import Derived.Test.YtkmefeihkmbngaaDoorRows
import GoSem.ClaimSeven
namespace Go.Proofs.YtkmefeihkmbngaaDoor
namespace Rows

/-- THE TIED CARD OF 'valiselaw21.SqueezePriced'. -/
def squeezePricedCard : Claim7 := { stood := { row := squeezePricedRow, standIns := [], harness := (true, "a512cff745b23ab7922967cf6b668ccd7b97621c19adbe9e6bc50bf06408bf5f"), looks := false }, kinds := [], alts := [], laidByText := true, laidKinds := [.wider, .wider], laidTests := true, laidLooks := .later }
def SqueezePricedCardSaid : Prop := Claim7.holds Tryd.pinned (.plain (OpenSpec.ofChange squeezePricedSpec)) squeezePricedCard

/-- THE TIED CARD OF 'valiselaw21.SqueezePrices'. -/
def squeezePricesCard : Claim7 := { stood := { row := squeezePricesRow, standIns := [], harness := (true, "a512cff745b23ab7922967cf6b668ccd7b97621c19adbe9e6bc50bf06408bf5f"), looks := false }, kinds := [], alts := [], laidByText := true, laidKinds := [.wider, .wider], laidTests := true, laidLooks := .later }
def SqueezePricesCardSaid : Prop := Claim7.holds Tryd.pinned (.plain (OpenSpec.ofChange squeezePricesSpec)) squeezePricesCard

/-- THE SECOND FORM's CARD OF 'valiselaw21.SqueezePriced'. -/
def squeezePricedUptoCard : Claim7 := { stood := { row := squeezePricedUptoRow, standIns := [], harness := (true, "a512cff745b23ab7922967cf6b668ccd7b97621c19adbe9e6bc50bf06408bf5f"), looks := false }, kinds := [], alts := [], laidByText := true, laidKinds := [.wider, .wider], laidTests := true, laidLooks := .later }
def SqueezePricedUptoCardSaid : Prop := Claim7.holds Tryd.pinned (.plain (OpenSpec.upto squeezePricedSpec)) squeezePricedUptoCard

/-- THE SECOND FORM's CARD OF 'valiselaw21.SqueezePrices'. -/
def squeezePricesUptoCard : Claim7 := { stood := { row := squeezePricesUptoRow, standIns := [], harness := (true, "a512cff745b23ab7922967cf6b668ccd7b97621c19adbe9e6bc50bf06408bf5f"), looks := false }, kinds := [], alts := [], laidByText := true, laidKinds := [.wider, .wider], laidTests := true, laidLooks := .later }
def SqueezePricesUptoCardSaid : Prop := Claim7.holds Tryd.pinned (.plain (OpenSpec.upto squeezePricesSpec)) squeezePricesUptoCard
end Rows
end Go.Proofs.YtkmefeihkmbngaaDoor
