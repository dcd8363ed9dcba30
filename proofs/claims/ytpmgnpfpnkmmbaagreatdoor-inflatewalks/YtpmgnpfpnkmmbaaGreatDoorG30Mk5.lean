import Derived.Test.YtpmgnpfpnkmmbaaGreatDoorG28Mk4
namespace Go.Proofs.YtpmgnpfpnkmmbaaGreatDoor
open Go.RowKit Go.Maps
set_option maxRecDepth 20000
set_option linter.unusedVariables false

theorem put_other {w : World} {g k : Nat} {a b c d e : Value} (h : k ≠ g) : (((((w.setCell ⟨g, 0, none⟩ a).setCell ⟨g, 1, none⟩ b).setCell ⟨g, 2, none⟩ c).setCell ⟨g, 3, none⟩ d).setCell ⟨g, 4, none⟩ e).heap[k]? = w.heap[k]? := by
  rw [setCell_others _ g _ _ k h, setCell_others _ g _ _ k h, setCell_others _ g _ _ k h, setCell_others _ g _ _ k h, setCell_others _ g _ _ k h]

def nilv : Value := .slice none 0 0

/-- Make answers its error, and nothing. -/
def MkNo (e : Int) (x : Ending) : Prop := x = .returned (.tuple #[.agg #[.slice none 0 0, .slice none 0 0, .slice none 0 0, .slice none 0 0, .int .i64 0], .int .i64 e])
/-- Make answers the header. -/
def MkYes (w w' : World) (l d : List Int) (x : Ending) : Prop := ∃ vL vD vC vR, x = .returned (.tuple #[.agg #[vL, vD, vC, vR, .int .i64 (mkZ l d)], .int .i64 0]) ∧ Mkd w' w.heap.size vL vD vC vR (mkL l) (mkD d) (mkC l d) (mkR l d)

end Go.Proofs.YtpmgnpfpnkmmbaaGreatDoor

