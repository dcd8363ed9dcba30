/-
  DERIVED. GIVEN WITH THE SEED: THE CARDS: each row of YtbbbonphmffokabDoorRows.lean that lists a variable, with what it lists TIED to the program's text (the seventh form; the later family's looks); each row that meets fmt, with fmt's text TOLD by the authors' own Lean function (tested against real Go, not proved from fmt's source: count such statements apart). THE CARD IS WHAT COUNTS. Prove the row's statement (the work); the ties are given (YtbbbonphmffokabDoorTie.lean); close each card by the builder's one call (the guide's Derived/Test/ToyasCard.lean, 'card_holds'). Laid BY PROGRAM, IN A SANDBOX (cutbox-door.mjs). By AI agents, Wed Nov 11 2026. No macro, syntax, notation, axiom, sorry.
-/
import Derived.Test.YtbbbonphmffokabDoorRows
import GoSem.ClaimSeven
namespace Go.Proofs.YtbbbonphmffokabDoor
namespace Rows

/-- THE TIED CARD OF 'valiselaw10.BlockCounts'. -/
def blockCountsCard : Claim7 := { stood := { row := blockCountsRow, standIns := [], harness := (true, "5c69d9815cc4ac9d056be8787ade8d660d2d95f7b5a2703a24ef202f9d7cbbb0"), looks := false }, kinds := [], alts := [], laidByText := true, laidKinds := [.wider, .wider], laidTests := true, laidLooks := .later }
def BlockCountsCardSaid : Prop := Claim7.holds Tryd.pinned (.plain (OpenSpec.ofChange blockCountsSpec)) blockCountsCard

/-- THE TIED CARD OF 'valiselaw10.BlockTreesAreBest'. -/
def blockTreesAreBestCard : Claim7 := { stood := { row := blockTreesAreBestRow, standIns := [], harness := (true, "5c69d9815cc4ac9d056be8787ade8d660d2d95f7b5a2703a24ef202f9d7cbbb0"), looks := false }, kinds := [], alts := [], laidByText := true, laidKinds := [.wider, .wider], laidTests := true, laidLooks := .later }
def BlockTreesAreBestCardSaid : Prop := Claim7.holds Tryd.pinned (.plain (OpenSpec.ofChange blockTreesAreBestSpec)) blockTreesAreBestCard

/-- THE TIED CARD OF 'valiselaw10.BlockApart'. -/
def blockApartCard : Claim7 := { stood := { row := blockApartRow, standIns := [], harness := (true, "5c69d9815cc4ac9d056be8787ade8d660d2d95f7b5a2703a24ef202f9d7cbbb0"), looks := false }, kinds := [], alts := [], laidByText := true, laidKinds := [.wider, .wider], laidTests := true, laidLooks := .later }
def BlockApartCardSaid : Prop := Claim7.holds Tryd.pinned (.plain (OpenSpec.ofChange blockApartSpec)) blockApartCard

/-- THE TIED CARD OF 'valiselaw10.BlockNeverWorse'. -/
def blockNeverWorseCard : Claim7 := { stood := { row := blockNeverWorseRow, standIns := [], harness := (true, "5c69d9815cc4ac9d056be8787ade8d660d2d95f7b5a2703a24ef202f9d7cbbb0"), looks := false }, kinds := [], alts := [], laidByText := true, laidKinds := [.data, .data, .data, .wider, .wider], laidTests := true, laidLooks := .later }
def BlockNeverWorseCardSaid : Prop := Claim7.holds Tryd.pinned (.plain (OpenSpec.ofChange blockNeverWorseSpec)) blockNeverWorseCard

/-- THE TIED CARD OF 'valiselaw10.BlockTrees'. -/
def blockTreesCard : Claim7 := { stood := { row := blockTreesRow, standIns := [], harness := (true, "5c69d9815cc4ac9d056be8787ade8d660d2d95f7b5a2703a24ef202f9d7cbbb0"), looks := false }, kinds := [], alts := [], laidByText := true, laidKinds := [.wider, .wider], laidTests := true, laidLooks := .later }
def BlockTreesCardSaid : Prop := Claim7.holds Tryd.pinned (.plain (OpenSpec.ofChange blockTreesSpec)) blockTreesCard

/-- THE TIED CARD OF 'valiselaw10.BlockJustSoMany'. -/
def blockJustSoManyCard : Claim7 := { stood := { row := blockJustSoManyRow, standIns := [], harness := (true, "5c69d9815cc4ac9d056be8787ade8d660d2d95f7b5a2703a24ef202f9d7cbbb0"), looks := false }, kinds := [], alts := [], laidByText := true, laidKinds := [.data, .data, .data, .wider, .wider], laidTests := true, laidLooks := .later }
def BlockJustSoManyCardSaid : Prop := Claim7.holds Tryd.pinned (.plain (OpenSpec.ofChange blockJustSoManySpec)) blockJustSoManyCard

/-- THE SECOND FORM's CARD OF 'valiselaw10.BlockCounts'. -/
def blockCountsUptoCard : Claim7 := { stood := { row := blockCountsUptoRow, standIns := [], harness := (true, "5c69d9815cc4ac9d056be8787ade8d660d2d95f7b5a2703a24ef202f9d7cbbb0"), looks := false }, kinds := [], alts := [], laidByText := true, laidKinds := [.wider, .wider], laidTests := true, laidLooks := .later }
def BlockCountsUptoCardSaid : Prop := Claim7.holds Tryd.pinned (.plain (OpenSpec.upto blockCountsSpec)) blockCountsUptoCard

/-- THE SECOND FORM's CARD OF 'valiselaw10.BlockTreesAreBest'. -/
def blockTreesAreBestUptoCard : Claim7 := { stood := { row := blockTreesAreBestUptoRow, standIns := [], harness := (true, "5c69d9815cc4ac9d056be8787ade8d660d2d95f7b5a2703a24ef202f9d7cbbb0"), looks := false }, kinds := [], alts := [], laidByText := true, laidKinds := [.wider, .wider], laidTests := true, laidLooks := .later }
def BlockTreesAreBestUptoCardSaid : Prop := Claim7.holds Tryd.pinned (.plain (OpenSpec.upto blockTreesAreBestSpec)) blockTreesAreBestUptoCard

/-- THE SECOND FORM's CARD OF 'valiselaw10.BlockApart'. -/
def blockApartUptoCard : Claim7 := { stood := { row := blockApartUptoRow, standIns := [], harness := (true, "5c69d9815cc4ac9d056be8787ade8d660d2d95f7b5a2703a24ef202f9d7cbbb0"), looks := false }, kinds := [], alts := [], laidByText := true, laidKinds := [.wider, .wider], laidTests := true, laidLooks := .later }
def BlockApartUptoCardSaid : Prop := Claim7.holds Tryd.pinned (.plain (OpenSpec.upto blockApartSpec)) blockApartUptoCard

/-- THE SECOND FORM's CARD OF 'valiselaw10.BlockNeverWorse'. -/
def blockNeverWorseUptoCard : Claim7 := { stood := { row := blockNeverWorseUptoRow, standIns := [], harness := (true, "5c69d9815cc4ac9d056be8787ade8d660d2d95f7b5a2703a24ef202f9d7cbbb0"), looks := false }, kinds := [], alts := [], laidByText := true, laidKinds := [.data, .data, .data, .wider, .wider], laidTests := true, laidLooks := .later }
def BlockNeverWorseUptoCardSaid : Prop := Claim7.holds Tryd.pinned (.plain (OpenSpec.upto blockNeverWorseSpec)) blockNeverWorseUptoCard

/-- THE SECOND FORM's CARD OF 'valiselaw10.BlockTrees'. -/
def blockTreesUptoCard : Claim7 := { stood := { row := blockTreesUptoRow, standIns := [], harness := (true, "5c69d9815cc4ac9d056be8787ade8d660d2d95f7b5a2703a24ef202f9d7cbbb0"), looks := false }, kinds := [], alts := [], laidByText := true, laidKinds := [.wider, .wider], laidTests := true, laidLooks := .later }
def BlockTreesUptoCardSaid : Prop := Claim7.holds Tryd.pinned (.plain (OpenSpec.upto blockTreesSpec)) blockTreesUptoCard

/-- THE SECOND FORM's CARD OF 'valiselaw10.BlockJustSoMany'. -/
def blockJustSoManyUptoCard : Claim7 := { stood := { row := blockJustSoManyUptoRow, standIns := [], harness := (true, "5c69d9815cc4ac9d056be8787ade8d660d2d95f7b5a2703a24ef202f9d7cbbb0"), looks := false }, kinds := [], alts := [], laidByText := true, laidKinds := [.data, .data, .data, .wider, .wider], laidTests := true, laidLooks := .later }
def BlockJustSoManyUptoCardSaid : Prop := Claim7.holds Tryd.pinned (.plain (OpenSpec.upto blockJustSoManySpec)) blockJustSoManyUptoCard
end Rows
end Go.Proofs.YtbbbonphmffokabDoor
