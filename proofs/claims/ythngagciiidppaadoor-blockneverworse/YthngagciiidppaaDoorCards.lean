/-
  DERIVED. GIVEN WITH THE SEED: THE CARDS: each row of YthngagciiidppaaDoorRows.lean that lists a variable, with what it lists TIED to the program's text (the seventh form; the later family's looks); each row that meets fmt, with fmt's text TOLD by the authors' own Lean function (tested against real Go, not proved from fmt's source: count such statements apart). THE CARD IS WHAT COUNTS. Prove the row's statement (the work); the ties are given (YthngagciiidppaaDoorTie.lean); close each card by the builder's one call (the guide's Derived/Test/ToyasCard.lean, 'card_holds'). Laid BY PROGRAM, IN A SANDBOX (cutbox-door.mjs). By AI agents, Wed Nov 11 2026. No macro, syntax, notation, axiom, sorry.
-/
import Derived.Test.YthngagciiidppaaDoorRows
import GoSem.ClaimSeven
namespace Go.Proofs.YthngagciiidppaaDoor
namespace Rows

/-- THE TIED CARD OF 'valiselaw10.BlockNeverWorse'. -/
def blockNeverWorseCard : Claim7 := { stood := { row := blockNeverWorseRow, standIns := [], harness := (true, "bde47b98083336a726d86293efe64bd8211fe1be4a4bbb8edab9e4e1973c2561"), looks := false }, kinds := [], alts := [], laidByText := true, laidKinds := [.data, .data, .data, .wider, .wider], laidTests := true, laidLooks := .later }
def BlockNeverWorseCardSaid : Prop := Claim7.holds Tryd.pinned (.plain (OpenSpec.ofChange blockNeverWorseSpec)) blockNeverWorseCard

/-- THE SECOND FORM's CARD OF 'valiselaw10.BlockNeverWorse'. -/
def blockNeverWorseUptoCard : Claim7 := { stood := { row := blockNeverWorseUptoRow, standIns := [], harness := (true, "bde47b98083336a726d86293efe64bd8211fe1be4a4bbb8edab9e4e1973c2561"), looks := false }, kinds := [], alts := [], laidByText := true, laidKinds := [.data, .data, .data, .wider, .wider], laidTests := true, laidLooks := .later }
def BlockNeverWorseUptoCardSaid : Prop := Claim7.holds Tryd.pinned (.plain (OpenSpec.upto blockNeverWorseSpec)) blockNeverWorseUptoCard
end Rows
end Go.Proofs.YthngagciiidppaaDoor
