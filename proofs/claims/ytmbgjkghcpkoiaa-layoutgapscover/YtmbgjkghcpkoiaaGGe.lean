import Derived.Test.YtmbgjkghcpkoiaaGCx
import Derived.Deep.RegionHeld3
import Derived.Deep.DeepCutAuto
namespace Go.Proofs.Ytmbgjkghcpkoiaa
open Go.RowKit Go.Maps
set_option maxRecDepth 20000
set_option linter.unusedVariables false
set_option linter.unusedSimpArgs false

/-- The fields that both headers have, at a place, in numbers. -/
def rdG (d : List Int) (k : Nat) : Loc := ⟨fld d k 2, fld d (k + 2) 2, fld d (k + 4) 2, fld d (k + 6) 2, fld d (k + 8) 2, fld d (k + 10) 4, fld d (k + 14) 4, fld d (k + 18) 4, ⟨#[]⟩, ⟨#[]⟩⟩

theorem Cst.trans {a b c : World} {g : Nat} (h : Cst a g b) (k : Cst b g c) : Cst a g c :=
  ⟨fun i hi hg => (k.block i (Nat.lt_of_lt_of_le hi h.size) hg).trans (h.block i hi hg), Nat.le_trans h.size k.size⟩

theorem Cst.set {a b : World} {g : Nat} (h : Cst a g b) {c : Nat} (hc : a.heap.size ≤ c) (i : Nat) (u : Value) : Cst a g (b.setCell ⟨c, i, none⟩ u) :=
  ⟨fun k hk hg => (setCell_others b c i u k (by omega)).trans (h.block k hk hg), by rw [size_setCell]; exact h.size⟩

theorem Cst.alloc (w : World) (g : Nat) (o : Obj) : Cst w g (w.alloc o) := ⟨fun k hk _ => Below.heap_alloc w o k hk, by rw [size_alloc']; omega⟩

end Go.Proofs.Ytmbgjkghcpkoiaa

namespace Go.Proofs.Ytmbgjkghcpkoiaa
open Go.RowKit Go.Maps
set_option maxRecDepth 20000
set_option linter.unusedVariables false
set_option linter.unusedSimpArgs false

theorem Cu.drewN {X : Nat → Prop} {T : Nat} {w : World} {g : Nat} {st : CSt} (h : Cu X T w g st) (q : Nat) : Cu X T (w.drewN q) g st := by
  obtain ⟨v, h1, h2, h3⟩ := h
  exact ⟨v, h1, h2.move (fun _ _ => rfl), h3⟩

/-- The end record at a place, in numbers. -/
def enG (d : List Int) (k : Nat) : Enr := ⟨fld d (k + 4) 2, fld d (k + 6) 2, fld d (k + 8) 2, fld d (k + 10) 2, fld d (k + 12) 4, fld d (k + 16) 4, strOfNums (sub d (k + 22) (fld d (k + 20) 2).toNat)⟩

def Enr.zero : Enr := ⟨0, 0, 0, 0, 0, 0, ⟨#[]⟩⟩

def enE (d : List Int) (at' : Int) : Int := if beE d at' 22 101010256 ≠ 0 then beE d at' 22 101010256 else if (d.length : Int) - at' - 22 < fld d (at'.toNat + 20) 2 then 122 else 0

def enA (d : List Int) (at' : Int) : Enr := if enE d at' = 0 then enG d at'.toNat else Enr.zero

def enP (d : List Int) (at' : Int) : Int := if enE d at' = 0 then at' + 22 + fld d (at'.toNat + 20) 2 else 0

theorem en_bad {d : List Int} {at' : Int} (h : enE d at' ≠ 0) : enA d at' = Enr.zero ∧ enP d at' = 0 := ⟨if_neg h, if_neg h⟩

theorem en_good {d : List Int} {k : Nat} (h : enE d k = 0) : enA d k = enG d k ∧ enP d k = (k : Int) + 22 + fld d (k + 20) 2 := ⟨if_pos h, if_pos h⟩

end Go.Proofs.Ytmbgjkghcpkoiaa

namespace Go.Proofs.Ytmbgjkghcpkoiaa
open Go.RowKit Go.Maps
set_option maxRecDepth 20000
set_option linter.unusedVariables false
set_option linter.unusedSimpArgs false

/-- The local header at a place, in numbers. -/
def loN (d : List Int) (k : Nat) : Nat := (fld d (k + 26) 2).toNat
def loX (d : List Int) (k : Nat) : Nat := (fld d (k + 28) 2).toNat
def loG (d : List Int) (k : Nat) : Loc := { rdG d (k + 4) with name := strOfNums (sub d (k + 30) (loN d k)), extra := strOfNums (sub d (k + 30 + loN d k) (loX d k)) }

def Loc.zero : Loc := ⟨0, 0, 0, 0, 0, 0, 0, 0, ⟨#[]⟩, ⟨#[]⟩⟩

def loE (d : List Int) (at' : Int) : Int := if beE d at' 30 67324752 ≠ 0 then beE d at' 30 67324752 else if (d.length : Int) - at' - 30 < (loN d at'.toNat : Int) + loX d at'.toNat then 122 else 0

def loA (d : List Int) (at' : Int) : Loc := if loE d at' = 0 then loG d at'.toNat else Loc.zero

def loP (d : List Int) (at' : Int) : Int := if loE d at' = 0 then at' + 30 + loN d at'.toNat + loX d at'.toNat else 0

theorem lo_bad {d : List Int} {at' : Int} (h : loE d at' ≠ 0) : loA d at' = Loc.zero ∧ loP d at' = 0 := ⟨if_neg h, if_neg h⟩

theorem lo_good {d : List Int} {k : Nat} (h : loE d k = 0) : loA d k = loG d k ∧ loP d k = (k : Int) + 30 + loN d k + loX d k := ⟨if_pos h, if_pos h⟩

theorem rdgIn {d : List Int} {k n p : Nat} (h : p + 26 ≤ n) : rdG (sub d k n) p = rdG d (k + p) := by
  unfold rdG
  rw [fld_sub (by omega), fld_sub (by omega), fld_sub (by omega), fld_sub (by omega), fld_sub (by omega), fld_sub (by omega), fld_sub (by omega), fld_sub (by omega)]
  simp only [Nat.add_assoc]

theorem next2_short {D : List Int} {n x : Nat} (h : D.length < n + x) : (nextSt (nextSt ⟨D, 0, 0⟩ (n : Int)) (x : Int)).e = 20 := by
  by_cases h1 : n ≤ D.length
  · rw [(next_st (d := D) (p := 0) (n := n) (by omega)).1, next_short (by omega)]
  · rw [next_short (by omega), next_err (by omega)]

end Go.Proofs.Ytmbgjkghcpkoiaa

namespace Go.Proofs.Ytmbgjkghcpkoiaa
open Go.RowKit Go.Maps
set_option maxRecDepth 20000
set_option linter.unusedVariables false
set_option linter.unusedSimpArgs false

/-- The directory record at a place, in numbers. -/
def ceN (d : List Int) (k : Nat) : Nat := (fld d (k + 28) 2).toNat
def ceX (d : List Int) (k : Nat) : Nat := (fld d (k + 30) 2).toNat
def ceM (d : List Int) (k : Nat) : Nat := (fld d (k + 32) 2).toNat
def ceR (d : List Int) (k : Nat) : Cen := ⟨{ rdG d (k + 6) with name := strOfNums (sub d (k + 46) (ceN d k)), extra := strOfNums (sub d (k + 46 + ceN d k) (ceX d k)) }, fld d (k + 4) 2, fld d (k + 34) 2, fld d (k + 36) 2, fld d (k + 38) 4, fld d (k + 42) 4, strOfNums (sub d (k + 46 + ceN d k + ceX d k) (ceM d k))⟩

def Cen.zero : Cen := ⟨Loc.zero, 0, 0, 0, 0, 0, ⟨#[]⟩⟩

def ceE (d : List Int) (at' : Int) : Int := if beE d at' 46 33639248 ≠ 0 then beE d at' 46 33639248 else if (d.length : Int) - at' - 46 < (ceN d at'.toNat : Int) + ceX d at'.toNat + ceM d at'.toNat then 122 else 0

def ceA (d : List Int) (at' : Int) : Cen := if ceE d at' = 0 then ceR d at'.toNat else Cen.zero

def ceP (d : List Int) (at' : Int) : Int := if ceE d at' = 0 then at' + 46 + ceN d at'.toNat + ceX d at'.toNat + ceM d at'.toNat else 0

theorem ce_bad {d : List Int} {at' : Int} (h : ceE d at' ≠ 0) : ceA d at' = Cen.zero ∧ ceP d at' = 0 := ⟨if_neg h, if_neg h⟩

theorem ce_good {d : List Int} {k : Nat} (h : ceE d k = 0) : ceA d k = ceR d k ∧ ceP d k = (k : Int) + 46 + ceN d k + ceX d k + ceM d k := ⟨if_pos h, if_pos h⟩

theorem next3_short {D : List Int} {n x m : Nat} (h : D.length < n + x + m) : (nextSt (nextSt (nextSt ⟨D, 0, 0⟩ (n : Int)) (x : Int)) (m : Int)).e = 20 := by
  by_cases h1 : n ≤ D.length
  · rw [(next_st (d := D) (p := 0) (n := n) (by omega)).1, Nat.zero_add]
    by_cases h2 : n + x ≤ D.length
    · rw [(next_st (d := D) (p := n) (n := x) (by omega)).1, next_short (by omega)]
    · rw [next_short (by omega), next_err (e := 20) (by omega)]
  · rw [next_short (by omega), next_err (e := 20) (by omega), next_err (e := 20) (by omega)]
end Go.Proofs.Ytmbgjkghcpkoiaa

