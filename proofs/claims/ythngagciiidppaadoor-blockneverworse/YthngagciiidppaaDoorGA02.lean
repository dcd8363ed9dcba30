import Derived.Test.YthngagciiidppaaDoorGA01
import Derived.BigQuiet
namespace Go.Proofs.YthngagciiidppaaDoor
open Go.RowKit
set_option maxRecDepth 20000
set_option linter.unusedVariables false

theorem wrap_pow {F : Nat} (hF : F ≤ 13) : wrap64 ((2 : Int) ^ F) = ((2 ^ F : Nat) : Int) ∧ 1 ≤ 2 ^ F ∧ 2 ^ F ≤ 8192 := by
  have h1 : (2 : Nat) ^ F ≤ 2 ^ 13 := Nat.pow_le_pow_right (by omega) hF
  have h2 : 1 ≤ 2 ^ F := Nat.one_le_two_pow
  have h3 : (2 : Int) ^ F = ((2 ^ F : Nat) : Int) := by simp
  rw [h3]
  obtain ⟨q, hq⟩ : ∃ q, 2 ^ F = q := ⟨_, rfl⟩
  rw [hq] at h1 h2 ⊢
  refine ⟨?_, h2, by omega⟩
  unfold wrap64
  omega

/-- What a symbol and its further bits say: the number and the error. -/
def ofV (B F : Nat) (x : Int) : Int := if 0 ≤ x ∧ x < ((2 ^ F : Nat) : Int) then (B : Int) + x else 0
def ofE (F : Nat) (x : Int) : Int := if 0 ≤ x ∧ x < ((2 ^ F : Nat) : Int) then 0 else 1

theorem of_in {B F : Nat} {x : Int} (h : 0 ≤ x ∧ x < ((2 ^ F : Nat) : Int)) : ofV B F x = (B : Int) + x ∧ ofE F x = 0 := by unfold ofV ofE; rw [if_pos h, if_pos h]; exact ⟨rfl, rfl⟩
theorem of_out {B F : Nat} {x : Int} (h : ¬ (0 ≤ x ∧ x < ((2 ^ F : Nat) : Int))) : ofV B F x = 0 ∧ ofE F x = 1 := by unfold ofV ofE; rw [if_neg h, if_neg h]; exact ⟨rfl, rfl⟩

/-- The program's LengthOf and DistOf, in numbers. -/
def lV (s x : Int) : Int := if 257 ≤ s ∧ s ≤ 285 then ofV (LB (s.toNat - 257)) (LF (s.toNat - 257)) x else 0
def lE (s x : Int) : Int := if 257 ≤ s ∧ s ≤ 285 then ofE (LF (s.toNat - 257)) x else 1
def dV (s x : Int) : Int := if 0 ≤ s ∧ s ≤ 29 then ofV (DB s.toNat) (DF s.toNat) x else 0
def dE (s x : Int) : Int := if 0 ≤ s ∧ s ≤ 29 then ofE (DF s.toNat) x else 1

end Go.Proofs.YthngagciiidppaaDoor

namespace Go.Proofs.YthngagciiidppaaDoor
open Go.RowKit
set_option maxRecDepth 20000
set_option linter.unusedVariables false

end Go.Proofs.YthngagciiidppaaDoor

namespace Go.Proofs.YthngagciiidppaaDoor
open Go.RowKit
set_option maxRecDepth 20000
set_option linter.unusedVariables false

theorem bnum_any (w : World) (x : Int) : Calls Tryd.prog 7 #[.int .i64 x] w fun e w' => e = .returned (.int .i64 x) ∧ w' = w := by
  go_enter Tryd.func7, Tryd.ntmps7
  go_wp2
  go_ret
  exact ⟨rfl, rfl⟩

end Go.Proofs.YthngagciiidppaaDoor

namespace Go.Proofs.YthngagciiidppaaDoor
open Go.RowKit
set_option maxRecDepth 20000
set_option linter.unusedVariables false

theorem lb_up0 : ∀ i : Nat, i < 29 → ∀ j : Nat, j < 29 → i < j → LB i < LB j := by decide +kernel

theorem db_up0 : ∀ i : Nat, i < 31 → ∀ j : Nat, j < 31 → i < j → DB i < DB j := by decide +kernel

theorem lb_up (i j : Nat) (hi : i < 29) (hj : j < 29) (h : i < j) : LB i < LB j := lb_up0 i hi j hj h

theorem db_up (i j : Nat) (hi : i < 31) (hj : j < 31) (h : i < j) : DB i < DB j := db_up0 i hi j hj h

/-- The last place whose base is not above x. -/
theorem last_le (b : Nat → Nat) (x : Nat) (h0 : b 0 ≤ x) : ∀ N, 0 < N → (∀ i j, i < N → j < N → i < j → b i < b j) → ∃ i, i < N ∧ b i ≤ x ∧ ∀ j, i < j → j < N → x < b j := by
  intro N
  induction N with
  | zero => intro h; omega
  | succ n ih =>
    intro _ hm
    by_cases hn : n = 0
    · subst hn
      exact ⟨0, by omega, h0, fun j h1 h2 => by omega⟩
    · by_cases hb : b n ≤ x
      · exact ⟨n, by omega, hb, fun j h1 h2 => by omega⟩
      · obtain ⟨i, h1, h2, h3⟩ := ih (by omega) (fun i j hi hj => hm i j (by omega) (by omega))
        refine ⟨i, by omega, h2, fun j h4 h5 => ?_⟩
        by_cases e : j = n
        · subst e; omega
        · exact h3 j h4 (by omega)

/-- The symbol of a length: the last whose base is not above it. -/
def Lsy (x i : Nat) : Prop := i < 29 ∧ LB i ≤ x ∧ ∀ j, i < j → j < 29 → x < LB j
def Dsy (x i : Nat) : Prop := i < 30 ∧ DB i ≤ x ∧ ∀ j, i < j → j < 30 → x < DB j

theorem lsy_is {x : Nat} (h : 3 ≤ x) : ∃ i, Lsy x i := last_le LB x (by rw [show LB 0 = 3 by decide]; exact h) 29 (by omega) lb_up
theorem dsy_is {x : Nat} (h : 1 ≤ x) : ∃ i, Dsy x i := last_le DB x (by rw [show DB 0 = 1 by decide]; exact h) 30 (by omega) (fun i j hi hj => db_up i j (by omega) (by omega))

set_option maxHeartbeats 1000000 in
/-- sort.Search over a question that only reads. -/
theorem search_any (f : Nat) (cap : Value) (N k : Nat) (w : World) (hk : k ≤ N) (hN : N ≤ 1000) (hcall : ∀ args w, (callFunc f args).run Tryd.prog w = .ok (.enter f args) w)
    (hc : ∀ i n, i < N → Calls Tryd.prog f #[.int .i64 (i : Int), cap] (w.drewN n) fun e w' => e = .returned (.bool (decide (k ≤ i))) ∧ ∃ m, w' = w.drewN m) :
    Calls Tryd.prog 26 #[.int .i64 (N : Int), .func (.func f) #[] #[cap]] w fun e w' => e = .returned (.int .i64 (k : Int)) ∧ ∃ n, w' = w.drewN n := by
  have HC := hide hc
  clear hc
  go_enter Tryd.func26, Tryd.ntmps26
  go_wp2
  go_loopw [5, 6] (fun a b wr => ∃ i j n : Nat, i ≤ k ∧ k ≤ j ∧ j ≤ N ∧ a = .int .i64 (i : Int) ∧ b = .int .i64 (j : Int) ∧ wr = w.drewN n) (fun a b _ => (intOf b).toNat - (intOf a).toNat)
  case atStart => exact ⟨0, N, 0, Nat.zero_le _, hk, Nat.le_refl _, rfl, rfl, rfl⟩
  case round =>
    obtain ⟨i, j, n, h1, h2, h3, rfl, rfl, hw⟩ := hrel
    subst hw
    by_cases hlt : i < j
    · have hlt' : (i : Int) < (j : Int) := by omega
      obtain ⟨h, hh⟩ : ∃ h, (i + j) / 2 = h := ⟨_, rfl⟩
      have hij : i ≤ h ∧ h < j := by omega
      have HQ := hide (HC.out h n (by omega))
      have hb : (i : Int) + (j : Int) ≤ 2000 ∧ (h : Int) ≤ 1000 := by omega
      have g3 : ((i : Int) + (j : Int)) / 2 = (h : Int) := by omega
      have g1 : wrap64 ((i : Int) + (j : Int)) = (i : Int) + (j : Int) := by unfold wrap64; omega
      have g2 : IntKind.u64.wrap ((i : Int) + (j : Int)) = (i : Int) + (j : Int) := by rw [IntKind.wrap_u64]; omega
      have g4 : IntKind.u64.wrap (h : Int) = (h : Int) := by rw [IntKind.wrap_u64]; omega
      have g5 : wrap64 (h : Int) = (h : Int) := by unfold wrap64; omega
      clear hh hb
      go_wp2_with fail
      refine HQ.out.mono ?_
      rintro e w2 ⟨rfl, m, hw2⟩
      subst hw2
      by_cases hkh : k ≤ h
      · have HD : Hid (decide (k ≤ h) = true) := decide_eq_true hkh
        rw [HD.out]
        go_wp2
        go_roundw
        case rel => exact ⟨i, h, m, h1, hkh, by omega, rfl, rfl, rfl⟩
        case measure => simp [intOf]; omega
      · have HD : Hid (decide (k ≤ h) = false) := decide_eq_false hkh
        rw [HD.out]
        go_wp2
        go_roundw
        case rel => exact ⟨h + 1, j, m, by omega, h2, h3, by go_num, rfl, rfl⟩
        case measure => simp [intOf]; omega
    · obtain rfl : i = k := by omega
      obtain rfl : j = i := by omega
      have hlt' : ¬ (j : Int) < (j : Int) := by omega
      go_wp2
      go_ret
      exact ⟨rfl, n, rfl⟩
end Go.Proofs.YthngagciiidppaaDoor

