import Derived.Test.YtijmmfimkibgbaaGGlo
namespace Go.Proofs.Ytijmmfimkibgbaa
open Go.RowKit Go.Maps
set_option maxRecDepth 20000
set_option linter.unusedVariables false
set_option linter.unusedSimpArgs false

/-- The directory record at a place, in numbers. -/
def ceN (d : List Int) (k : Nat) : Nat := (fld d (k + 28) 2).toNat
def ceX (d : List Int) (k : Nat) : Nat := (fld d (k + 30) 2).toNat
def ceM (d : List Int) (k : Nat) : Nat := (fld d (k + 32) 2).toNat
def ceR (d : List Int) (k : Nat) : Cen := ⟨{ rdG d (k + 6) with name := strOfNums (sub d (k + 46) (ceN d k)), extra := strOfNums (sub d (k + 46 + ceN d k) (ceX d k)) }, fld d (k + 4) 2, fld d (k + 34) 2, fld d (k + 36) 2, fld d (k + 38) 4, fld d (k + 42) 4, strOfNums (sub d (k + 46 + ceN d k + ceX d k) (ceM d k))⟩

def Cen.zero : Cen := ⟨Loc.zero, 0, 0, 0, 0, 0, ⟨#[]⟩⟩

def ceE (d : List Int) (at' : Int) : Int := if beE d at' 46 33639248 ≠ 0 then beE d at' 46 33639248 else if (d.length : Int) - at' - 46 < (ceN d at'.toNat : Int) + ceX d at'.toNat + ceM d at'.toNat then 122 else 0

def ceA (d : List Int) (at' : Int) : Cen := if ceE d at' = 0 then ceR d at'.toNat else Cen.zero

def ceP (d : List Int) (at' : Int) : Int := if ceE d at' = 0 then at' + 46 + ceN d at'.toNat + ceX d at'.toNat + ceM d at'.toNat else 0

theorem ce_bad {d : List Int} {at' : Int} (h : ceE d at' ≠ 0) : ceA d at' = Cen.zero ∧ ceP d at' = 0 := ⟨if_neg h, if_neg h⟩

theorem ce_good {d : List Int} {k : Nat} (h : ceE d k = 0) : ceA d k = ceR d k ∧ ceP d k = (k : Int) + 46 + ceN d k + ceX d k + ceM d k := ⟨if_pos h, if_pos h⟩

theorem next3_short {D : List Int} {n x m : Nat} (h : D.length < n + x + m) : (nextSt (nextSt (nextSt ⟨D, 0, 0⟩ (n : Int)) (x : Int)) (m : Int)).e = 20 := by
  by_cases h1 : n ≤ D.length
  · rw [(next_st (d := D) (p := 0) (n := n) (by omega)).1, Nat.zero_add]
    by_cases h2 : n + x ≤ D.length
    · rw [(next_st (d := D) (p := n) (n := x) (by omega)).1, next_short (by omega)]
    · rw [next_short (by omega), next_err (e := 20) (by omega)]
  · rw [next_short (by omega), next_err (e := 20) (by omega), next_err (e := 20) (by omega)]
end Go.Proofs.Ytijmmfimkibgbaa

