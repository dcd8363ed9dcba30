/-
  DERIVED. GIVEN WITH THE SEED: THE CARDS: each row of YtjjepgkcgbbmhaaDoorRows.lean that lists a variable, with what it lists TIED to the program's text (the seventh form; the later family's looks); each row that meets fmt, with fmt's text TOLD by the authors' own Lean function (tested against real Go, not proved from fmt's source: count such statements apart). THE CARD IS WHAT COUNTS. Prove the row's statement (the work); the ties are given (YtjjepgkcgbbmhaaDoorTie.lean); close each card by the builder's one call (the guide's Derived/Test/ToyasCard.lean, 'card_holds'). Laid BY PROGRAM, IN A SANDBOX (cutbox-door.mjs). By AI agents, Wed Nov 11 2026. No macro, syntax, notation, axiom, sorry.
-/
import Derived.Test.YtjjepgkcgbbmhaaDoorRows
import GoSem.ClaimSeven
namespace Go.Proofs.YtjjepgkcgbbmhaaDoor
namespace Rows

/-- THE TIED CARD OF 'valiselaw12.RecordTimes'. -/
def recordTimesCard : Claim7 := { stood := { row := recordTimesRow, standIns := [], harness := (true, "0a5f794a33e5e724ff79dcdd074d0a58340b6c26e9b6e43302fa420ac5bcf613"), looks := false }, kinds := [], alts := [], laidByText := true, laidKinds := [.data], laidTests := true, laidLooks := .later }
def RecordTimesCardSaid : Prop := Claim7.holds Tryd.pinned (.plain (OpenSpec.ofChange recordTimesSpec)) recordTimesCard

/-- THE TIED CARD OF 'valiselaw12.RecordStamps'. -/
def recordStampsCard : Claim7 := { stood := { row := recordStampsRow, standIns := [], harness := (true, "0a5f794a33e5e724ff79dcdd074d0a58340b6c26e9b6e43302fa420ac5bcf613"), looks := false }, kinds := [], alts := [], laidByText := true, laidKinds := [.data], laidTests := true, laidLooks := .later }
def RecordStampsCardSaid : Prop := Claim7.holds Tryd.pinned (.plain (OpenSpec.ofChange recordStampsSpec)) recordStampsCard

/-- THE SECOND FORM's CARD OF 'valiselaw12.RecordTimes'. -/
def recordTimesUptoCard : Claim7 := { stood := { row := recordTimesUptoRow, standIns := [], harness := (true, "0a5f794a33e5e724ff79dcdd074d0a58340b6c26e9b6e43302fa420ac5bcf613"), looks := false }, kinds := [], alts := [], laidByText := true, laidKinds := [.data], laidTests := true, laidLooks := .later }
def RecordTimesUptoCardSaid : Prop := Claim7.holds Tryd.pinned (.plain (OpenSpec.upto recordTimesSpec)) recordTimesUptoCard

/-- THE SECOND FORM's CARD OF 'valiselaw12.RecordStamps'. -/
def recordStampsUptoCard : Claim7 := { stood := { row := recordStampsUptoRow, standIns := [], harness := (true, "0a5f794a33e5e724ff79dcdd074d0a58340b6c26e9b6e43302fa420ac5bcf613"), looks := false }, kinds := [], alts := [], laidByText := true, laidKinds := [.data], laidTests := true, laidLooks := .later }
def RecordStampsUptoCardSaid : Prop := Claim7.holds Tryd.pinned (.plain (OpenSpec.upto recordStampsSpec)) recordStampsUptoCard
end Rows
end Go.Proofs.YtjjepgkcgbbmhaaDoor
