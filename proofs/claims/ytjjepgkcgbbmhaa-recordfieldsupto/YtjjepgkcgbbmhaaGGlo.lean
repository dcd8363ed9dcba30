import Derived.Test.YtjjepgkcgbbmhaaGGcm
import Derived.Test.YtjjepgkcgbbmhaaGGen
namespace Go.Proofs.Ytjjepgkcgbbmhaa
open Go.RowKit Go.Maps
set_option maxRecDepth 20000
set_option linter.unusedVariables false
set_option linter.unusedSimpArgs false

/-- The local header at a place, in numbers. -/
def loN (d : List Int) (k : Nat) : Nat := (fld d (k + 26) 2).toNat
def loX (d : List Int) (k : Nat) : Nat := (fld d (k + 28) 2).toNat
def loG (d : List Int) (k : Nat) : Loc := { rdG d (k + 4) with name := strOfNums (sub d (k + 30) (loN d k)), extra := strOfNums (sub d (k + 30 + loN d k) (loX d k)) }

def Loc.zero : Loc := ⟨0, 0, 0, 0, 0, 0, 0, 0, ⟨#[]⟩, ⟨#[]⟩⟩

def loE (d : List Int) (at' : Int) : Int := if beE d at' 30 67324752 ≠ 0 then beE d at' 30 67324752 else if (d.length : Int) - at' - 30 < (loN d at'.toNat : Int) + loX d at'.toNat then 122 else 0

def loA (d : List Int) (at' : Int) : Loc := if loE d at' = 0 then loG d at'.toNat else Loc.zero

def loP (d : List Int) (at' : Int) : Int := if loE d at' = 0 then at' + 30 + loN d at'.toNat + loX d at'.toNat else 0

theorem lo_bad {d : List Int} {at' : Int} (h : loE d at' ≠ 0) : loA d at' = Loc.zero ∧ loP d at' = 0 := ⟨if_neg h, if_neg h⟩

theorem lo_good {d : List Int} {k : Nat} (h : loE d k = 0) : loA d k = loG d k ∧ loP d k = (k : Int) + 30 + loN d k + loX d k := ⟨if_pos h, if_pos h⟩

theorem rdgIn {d : List Int} {k n p : Nat} (h : p + 26 ≤ n) : rdG (sub d k n) p = rdG d (k + p) := by
  unfold rdG
  rw [fld_sub (by omega), fld_sub (by omega), fld_sub (by omega), fld_sub (by omega), fld_sub (by omega), fld_sub (by omega), fld_sub (by omega), fld_sub (by omega)]
  simp only [Nat.add_assoc]

theorem next2_short {D : List Int} {n x : Nat} (h : D.length < n + x) : (nextSt (nextSt ⟨D, 0, 0⟩ (n : Int)) (x : Int)).e = 20 := by
  by_cases h1 : n ≤ D.length
  · rw [(next_st (d := D) (p := 0) (n := n) (by omega)).1, next_short (by omega)]
  · rw [next_short (by omega), next_err (by omega)]

end Go.Proofs.Ytjjepgkcgbbmhaa

