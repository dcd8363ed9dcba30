import Derived.Test.YtjdgeonlbjokaaaGBn
import Derived.Test.YtjdgeonlbjokaaaGTk
import Derived.Test.YtjdgeonlbjokaaaGTnm
namespace Go.Proofs.Ytjdgeonlbjokaaa
open Go.RowKit Go.Maps
set_option maxRecDepth 20000
set_option linter.unusedVariables false

/-- Tokens: the error and the answer. -/
def tE (D : List Int) (x y : Int) : Int := if (D.length : Int) ≤ 16777216 ∧ Dmn x y then 0 else 1
def tL (D : List Int) (x y : Int) (z : Bool) : List Tk := if tE D x y = 0 then tkl D x.toNat y.toNat z else []

theorem tE_bad {D : List Int} {x y : Int} {z : Bool} (h : ¬ ((D.length : Int) ≤ 16777216 ∧ Dmn x y)) : tE D x y = 1 ∧ tL D x y z = [] := by
  have : tE D x y = 1 := by unfold tE; rw [if_neg h]
  exact ⟨this, by unfold tL; rw [this]; rfl⟩
theorem tE_ok {D : List Int} {x y : Int} {z : Bool} (h : (D.length : Int) ≤ 16777216 ∧ Dmn x y) : tE D x y = 0 ∧ tL D x y z = tkl D x.toNat y.toNat z := by
  have : tE D x y = 0 := by unfold tE; rw [if_pos h]
  exact ⟨this, by unfold tL; rw [this]; rfl⟩

end Go.Proofs.Ytjdgeonlbjokaaa

