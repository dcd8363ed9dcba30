import Derived.Test.YtdpoggapenjjfaaGreatDoorG42Jnd
import Derived.Test.YtdpoggapenjjfaaGreatDoorG45Exq
import Derived.Test.YtdpoggapenjjfaaGreatDoorG43Ifq
namespace Go.Proofs.YtdpoggapenjjfaaGreatDoor
open Go.RowKit Go.Maps
set_option maxRecDepth 20000
set_option linter.unusedVariables false

theorem Chn.mem {d : Bool} {a n b z : Nat} {ps : List Pc} (h : Chn d a n ps b z) : ∀ x ∈ ps, x.to0 ≤ x.to1 ∧ x.to1 ≤ z := by
  induction h with
  | nil => intro x hx; cases hx
  | last h0 h1 h2 h3 h4 => intro x hx; rw [List.mem_singleton.1 hx]; exact ⟨h4, Nat.le_refl _⟩
  | go h1 h2 h3 h4 h5 ih =>
    intro x hx
    rcases List.mem_cons.1 hx with rfl | hx
    · exact ⟨h4, h5.le.2⟩
    · exact ih x hx

theorem Chn.count {d : Bool} {a n b z : Nat} {ps : List Pc} (h : Chn d a n ps b z) : a + 3 * ps.length ≤ b := by
  induction h with
  | nil => simp
  | last h0 h1 h2 h3 h4 => simp; omega
  | go h1 h2 h3 h4 h5 ih => simp only [List.length_cons]; omega

end Go.Proofs.YtdpoggapenjjfaaGreatDoor

