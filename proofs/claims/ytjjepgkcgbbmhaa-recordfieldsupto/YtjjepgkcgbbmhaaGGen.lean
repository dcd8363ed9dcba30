import Derived.Test.YtjjepgkcgbbmhaaGCty
import Derived.Deep.RegionHeld3
import Derived.Deep.DeepCutAuto
namespace Go.Proofs.Ytjjepgkcgbbmhaa
open Go.RowKit Go.Maps
set_option maxRecDepth 20000
set_option linter.unusedVariables false
set_option linter.unusedSimpArgs false

theorem Cu.drewN {X : Nat → Prop} {T : Nat} {w : World} {g : Nat} {st : CSt} (h : Cu X T w g st) (q : Nat) : Cu X T (w.drewN q) g st := by
  obtain ⟨v, h1, h2, h3⟩ := h
  exact ⟨v, h1, h2.move (fun _ _ => rfl), h3⟩

/-- The end record at a place, in numbers. -/
def enG (d : List Int) (k : Nat) : Enr := ⟨fld d (k + 4) 2, fld d (k + 6) 2, fld d (k + 8) 2, fld d (k + 10) 2, fld d (k + 12) 4, fld d (k + 16) 4, strOfNums (sub d (k + 22) (fld d (k + 20) 2).toNat)⟩

def Enr.zero : Enr := ⟨0, 0, 0, 0, 0, 0, ⟨#[]⟩⟩

def enE (d : List Int) (at' : Int) : Int := if beE d at' 22 101010256 ≠ 0 then beE d at' 22 101010256 else if (d.length : Int) - at' - 22 < fld d (at'.toNat + 20) 2 then 122 else 0

def enA (d : List Int) (at' : Int) : Enr := if enE d at' = 0 then enG d at'.toNat else Enr.zero

def enP (d : List Int) (at' : Int) : Int := if enE d at' = 0 then at' + 22 + fld d (at'.toNat + 20) 2 else 0

theorem en_bad {d : List Int} {at' : Int} (h : enE d at' ≠ 0) : enA d at' = Enr.zero ∧ enP d at' = 0 := ⟨if_neg h, if_neg h⟩

theorem en_good {d : List Int} {k : Nat} (h : enE d k = 0) : enA d k = enG d k ∧ enP d k = (k : Int) + 22 + fld d (k + 20) 2 := ⟨if_pos h, if_pos h⟩

end Go.Proofs.Ytjjepgkcgbbmhaa

