/-
  DERIVED. GIVEN WITH THE SEED: THE CARDS: each row of YtioicfhkahcpkaaDoorRows.lean that lists a variable, with what it lists TIED to the program's text (the seventh form; the later family's looks); each row that meets fmt, with fmt's text TOLD by the authors' own Lean function (tested against real Go, not proved from fmt's source: count such statements apart). THE CARD IS WHAT COUNTS. Prove the row's statement (the work); the ties are given (YtioicfhkahcpkaaDoorTie.lean); close each card by the builder's one call (the guide's Derived/Test/ToyasCard.lean, 'card_holds'). Laid BY PROGRAM, IN A SANDBOX (cutbox-door.mjs). By AI agents, Wed Nov 11 2026. No macro, syntax, notation, axiom, sorry.
-/
import Derived.Test.YtioicfhkahcpkaaDoorRows
import GoSem.ClaimSeven
namespace Go.Proofs.YtioicfhkahcpkaaDoor
namespace Rows

/-- THE TIED CARD OF 'valiselaw11.DeflateEfforts'. -/
def deflateEffortsCard : Claim7 := { stood := { row := deflateEffortsRow, standIns := [], harness := (true, "adc8e89df598927447f321a13c90bf37a26f5c966fa39285b4fae238d074f067"), looks := false }, kinds := [], alts := [], laidByText := true, laidKinds := [.data, .data], laidTests := true, laidLooks := .later }
def DeflateEffortsCardSaid : Prop := Claim7.holds Tryd.pinned (.plain (OpenSpec.ofChange deflateEffortsSpec)) deflateEffortsCard

/-- THE TIED CARD OF 'valiselaw11.DeflateSums'. -/
def deflateSumsCard : Claim7 := { stood := { row := deflateSumsRow, standIns := [], harness := (true, "adc8e89df598927447f321a13c90bf37a26f5c966fa39285b4fae238d074f067"), looks := false }, kinds := [], alts := [], laidByText := true, laidKinds := [.wider, .wider], laidTests := true, laidLooks := .later }
def DeflateSumsCardSaid : Prop := Claim7.holds Tryd.pinned (.plain (OpenSpec.ofChange deflateSumsSpec)) deflateSumsCard

/-- THE TIED CARD OF 'valiselaw11.DeflateSplits'. -/
def deflateSplitsCard : Claim7 := { stood := { row := deflateSplitsRow, standIns := [], harness := (true, "adc8e89df598927447f321a13c90bf37a26f5c966fa39285b4fae238d074f067"), looks := false }, kinds := [], alts := [], laidByText := true, laidKinds := [.wider, .wider], laidTests := true, laidLooks := .later }
def DeflateSplitsCardSaid : Prop := Claim7.holds Tryd.pinned (.plain (OpenSpec.ofChange deflateSplitsSpec)) deflateSplitsCard

/-- THE SECOND FORM's CARD OF 'valiselaw11.DeflateEfforts'. -/
def deflateEffortsUptoCard : Claim7 := { stood := { row := deflateEffortsUptoRow, standIns := [], harness := (true, "adc8e89df598927447f321a13c90bf37a26f5c966fa39285b4fae238d074f067"), looks := false }, kinds := [], alts := [], laidByText := true, laidKinds := [.data, .data], laidTests := true, laidLooks := .later }
def DeflateEffortsUptoCardSaid : Prop := Claim7.holds Tryd.pinned (.plain (OpenSpec.upto deflateEffortsSpec)) deflateEffortsUptoCard

/-- THE SECOND FORM's CARD OF 'valiselaw11.DeflateSums'. -/
def deflateSumsUptoCard : Claim7 := { stood := { row := deflateSumsUptoRow, standIns := [], harness := (true, "adc8e89df598927447f321a13c90bf37a26f5c966fa39285b4fae238d074f067"), looks := false }, kinds := [], alts := [], laidByText := true, laidKinds := [.wider, .wider], laidTests := true, laidLooks := .later }
def DeflateSumsUptoCardSaid : Prop := Claim7.holds Tryd.pinned (.plain (OpenSpec.upto deflateSumsSpec)) deflateSumsUptoCard

/-- THE SECOND FORM's CARD OF 'valiselaw11.DeflateSplits'. -/
def deflateSplitsUptoCard : Claim7 := { stood := { row := deflateSplitsUptoRow, standIns := [], harness := (true, "adc8e89df598927447f321a13c90bf37a26f5c966fa39285b4fae238d074f067"), looks := false }, kinds := [], alts := [], laidByText := true, laidKinds := [.wider, .wider], laidTests := true, laidLooks := .later }
def DeflateSplitsUptoCardSaid : Prop := Claim7.holds Tryd.pinned (.plain (OpenSpec.upto deflateSplitsSpec)) deflateSplitsUptoCard
end Rows
end Go.Proofs.YtioicfhkahcpkaaDoor
