import Derived.Test.YtdpfjfkknimlfaaDoorGSpn
namespace Go.Proofs.YtdpfjfkknimlfaaDoor
open Go.RowKit
set_option maxRecDepth 20000
set_option linter.unusedVariables false

theorem wrap_pow {F : Nat} (hF : F ≤ 13) : wrap64 ((2 : Int) ^ F) = ((2 ^ F : Nat) : Int) ∧ 1 ≤ 2 ^ F ∧ 2 ^ F ≤ 8192 := by
  have h1 : (2 : Nat) ^ F ≤ 2 ^ 13 := Nat.pow_le_pow_right (by omega) hF
  have h2 : 1 ≤ 2 ^ F := Nat.one_le_two_pow
  have h3 : (2 : Int) ^ F = ((2 ^ F : Nat) : Int) := by simp
  rw [h3]
  obtain ⟨q, hq⟩ : ∃ q, 2 ^ F = q := ⟨_, rfl⟩
  rw [hq] at h1 h2 ⊢
  refine ⟨?_, h2, by omega⟩
  unfold wrap64
  omega

/-- What a symbol and its further bits say: the number and the error. -/
def ofV (B F : Nat) (x : Int) : Int := if 0 ≤ x ∧ x < ((2 ^ F : Nat) : Int) then (B : Int) + x else 0
def ofE (F : Nat) (x : Int) : Int := if 0 ≤ x ∧ x < ((2 ^ F : Nat) : Int) then 0 else 1

theorem of_in {B F : Nat} {x : Int} (h : 0 ≤ x ∧ x < ((2 ^ F : Nat) : Int)) : ofV B F x = (B : Int) + x ∧ ofE F x = 0 := by unfold ofV ofE; rw [if_pos h, if_pos h]; exact ⟨rfl, rfl⟩
theorem of_out {B F : Nat} {x : Int} (h : ¬ (0 ≤ x ∧ x < ((2 ^ F : Nat) : Int))) : ofV B F x = 0 ∧ ofE F x = 1 := by unfold ofV ofE; rw [if_neg h, if_neg h]; exact ⟨rfl, rfl⟩

/-- The program's LengthOf and DistOf, in numbers. -/
def lV (s x : Int) : Int := if 257 ≤ s ∧ s ≤ 285 then ofV (LB (s.toNat - 257)) (LF (s.toNat - 257)) x else 0
def lE (s x : Int) : Int := if 257 ≤ s ∧ s ≤ 285 then ofE (LF (s.toNat - 257)) x else 1
def dV (s x : Int) : Int := if 0 ≤ s ∧ s ≤ 29 then ofV (DB s.toNat) (DF s.toNat) x else 0
def dE (s x : Int) : Int := if 0 ≤ s ∧ s ≤ 29 then ofE (DF s.toNat) x else 1

end Go.Proofs.YtdpfjfkknimlfaaDoor

