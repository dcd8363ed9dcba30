import Derived.Test.YthngagciiidppaaGreatDoorGA01
import Derived.BigQuiet
namespace Go.Proofs.YthngagciiidppaaGreatDoor
open Go.RowKit
set_option maxRecDepth 20000
set_option linter.unusedVariables false

theorem wrap_pow {F : Nat} (hF : F ≤ 13) : wrap64 ((2 : Int) ^ F) = ((2 ^ F : Nat) : Int) ∧ 1 ≤ 2 ^ F ∧ 2 ^ F ≤ 8192 := by
  have h1 : (2 : Nat) ^ F ≤ 2 ^ 13 := Nat.pow_le_pow_right (by omega) hF
  have h2 : 1 ≤ 2 ^ F := Nat.one_le_two_pow
  have h3 : (2 : Int) ^ F = ((2 ^ F : Nat) : Int) := by simp
  rw [h3]
  obtain ⟨q, hq⟩ : ∃ q, 2 ^ F = q := ⟨_, rfl⟩
  rw [hq] at h1 h2 ⊢
  refine ⟨?_, h2, by omega⟩
  unfold wrap64
  omega

/-- What a symbol and its further bits say: the number and the error. -/
def ofV (B F : Nat) (x : Int) : Int := if 0 ≤ x ∧ x < ((2 ^ F : Nat) : Int) then (B : Int) + x else 0
def ofE (F : Nat) (x : Int) : Int := if 0 ≤ x ∧ x < ((2 ^ F : Nat) : Int) then 0 else 1

theorem of_in {B F : Nat} {x : Int} (h : 0 ≤ x ∧ x < ((2 ^ F : Nat) : Int)) : ofV B F x = (B : Int) + x ∧ ofE F x = 0 := by unfold ofV ofE; rw [if_pos h, if_pos h]; exact ⟨rfl, rfl⟩
theorem of_out {B F : Nat} {x : Int} (h : ¬ (0 ≤ x ∧ x < ((2 ^ F : Nat) : Int))) : ofV B F x = 0 ∧ ofE F x = 1 := by unfold ofV ofE; rw [if_neg h, if_neg h]; exact ⟨rfl, rfl⟩

/-- The program's LengthOf and DistOf, in numbers. -/
def lV (s x : Int) : Int := if 257 ≤ s ∧ s ≤ 285 then ofV (LB (s.toNat - 257)) (LF (s.toNat - 257)) x else 0
def lE (s x : Int) : Int := if 257 ≤ s ∧ s ≤ 285 then ofE (LF (s.toNat - 257)) x else 1
def dV (s x : Int) : Int := if 0 ≤ s ∧ s ≤ 29 then ofV (DB s.toNat) (DF s.toNat) x else 0
def dE (s x : Int) : Int := if 0 ≤ s ∧ s ≤ 29 then ofE (DF s.toNat) x else 1

end Go.Proofs.YthngagciiidppaaGreatDoor

namespace Go.Proofs.YthngagciiidppaaGreatDoor
open Go.RowKit
set_option maxRecDepth 20000
set_option linter.unusedVariables false

theorem xlbits_any (i : Nat) (s : Int) (hi : i < 29) (hs : s = ((257 + i : Nat) : Int)) (w : World) : Calls Tryz.prog 42 #[.int .i64 s] w fun e w' => e = .returned (.int .i64 (LF i : Int)) ∧ w' = w := by
  have HL := hide (lfIs i hi)
  obtain ⟨F, HF⟩ : ∃ F, Hid (F = LF i) := ⟨_, hide rfl⟩
  rw [← HF.out] at HL ⊢
  by_cases h1 : i < 8
  · have hF : F = 0 := by rw [HL.out, if_pos (.inl h1)]
    subst hF
    have g1 : s < 265 := by omega
    clear hs
    go_enter Tryz.func42, Tryz.ntmps42
    go_wp2
    go_ret
    exact ⟨rfl, rfl⟩
  · have g1 : ¬ s < 265 := by omega
    by_cases h2 : i = 28
    · have hF : F = 0 := by rw [HL.out, if_pos (.inr h2)]
      subst hF
      have g2 : s = 285 := by omega
      subst g2
      clear hs h2 g1
      go_enter Tryz.func42, Tryz.ntmps42
      go_wp2
      go_ret
      exact ⟨rfl, rfl⟩
    · have hF : F = (i - 4) / 4 := by rw [HL.out, if_neg (by omega)]
      have g2 : ¬ s = 285 := by omega
      have g3 : wrap64 (s - 261) = ((i - 4 : Nat) : Int) := by unfold wrap64; omega
      have g4 : ((i - 4 : Nat) : Int).tdiv 4 = (F : Int) := by rw [Int.tdiv_eq_ediv_of_nonneg (by omega)]; omega
      obtain ⟨p, hp⟩ : ∃ p : Int, s - 261 = p := ⟨_, rfl⟩
      have hp2 : p = ((i - 4 : Nat) : Int) := by omega
      rw [← hp2] at g4
      have g5 : wrap64 (F : Int) = (F : Int) := by unfold wrap64; omega
      have g6 : wrap64 p = p := by unfold wrap64; omega
      clear hp2 hF hs g3
      go_enter Tryz.func42, Tryz.ntmps42
      go_wp2
      go_ret
      exact ⟨rfl, rfl⟩

theorem xlbase_any (i : Nat) (s : Int) (hi : i < 29) (hs : s = ((257 + i : Nat) : Int)) (w : World) : Calls Tryz.prog 78 #[.int .i64 s] w fun e w' => e = .returned (.int .i64 (LB i : Int)) ∧ w' = w := by
  by_cases h2 : i = 28
  · have HL : Hid (LB i = 258) := by show _ = _; rw [h2]; rfl
    rw [HL.out]
    have g2 : s = 285 := by omega
    subst g2
    clear hs h2
    go_enter Tryz.func78, Tryz.ntmps78
    go_wp2
    go_ret
    exact ⟨rfl, rfl⟩
  · have g2 : (s == 285) = false := by simp; omega
    have HLN : Hid (∀ j, j < 27 → LB (j + 1) = LB j + 2 ^ LF j) := lbNext
    have HLE := hide lfLe
    have HL0 : Hid (LB 0 = 3) := rfl
    have HS := hide hs
    clear hs
    go_enter Tryz.func78, Tryz.ntmps78
    go_wp2
    go_loopw [3, 4] (fun b t wr => ∃ j : Nat, j ≤ i ∧ b = .int .i64 (LB j : Int) ∧ t = .int .i64 ((257 + j : Nat) : Int) ∧ wr = w) (fun _ t _ => 257 + i - (intOf t).toNat)
    case atStart => exact ⟨0, Nat.zero_le _, by rw [HL0.out]; rfl, rfl, rfl⟩
    case round =>
      obtain ⟨j, hj, rfl, rfl, rfl⟩ := hrel
      by_cases hlt : j < i
      · obtain ⟨t, ht⟩ : ∃ t : Int, ((257 + j : Nat) : Int) = t := ⟨_, rfl⟩
        rw [ht]
        have hlt' : t < s := by have := HS.out; omega
        have HBI := hide (xlbits_any j t (by omega) ht.symm wr)
        obtain ⟨e1, e2, e3⟩ := HLE.out j (by omega)
        have hnx := HLN.out j (by omega)
        have hle := HLE.out (j + 1) (by omega)
        obtain ⟨F, hF⟩ : ∃ F, LF j = F := ⟨_, rfl⟩
        rw [hF] at HBI e1 e3 hnx
        obtain ⟨w1, w2, w3⟩ := wrap_pow (F := F) (by omega)
        obtain ⟨q, hq⟩ : ∃ q, 2 ^ F = q := ⟨_, rfl⟩
        rw [hq] at w1 hnx e3
        obtain ⟨B, hB⟩ : ∃ B, LB j = B := ⟨_, rfl⟩
        obtain ⟨B', hB'⟩ : ∃ B, LB (j + 1) = B := ⟨_, rfl⟩
        rw [hB, hB'] at hnx
        rw [hB'] at hle
        have hmin : min F 64 = F := by omega
        have hcv : IntKind.u64.wrap (F : Int) = (F : Int) := by rw [IntKind.wrap_u64]; omega
        have had : wrap64 ((B : Int) + (q : Int)) = (B' : Int) := by unfold wrap64; omega
        have ht1 : wrap64 (t + 1) = ((257 + (j + 1) : Nat) : Int) := by unfold wrap64; omega
        rw [hB]
        have HT := hide ht
        have HT1 := hide ht1
        have HBB := hide hB'
        clear hq hF w2 w3 ht ht1 hB hB' hnx hle e1 e2 e3
        go_wp2_with fail
        refine HBI.out.mono ?_
        rintro e w8 ⟨rfl, hw8⟩
        subst hw8
        go_wp2
        go_roundw
        case rel => exact ⟨j + 1, by omega, by rw [HBB.out, had], by rw [HT1.out], by first | rfl | trivial⟩
        case measure => have h1 := HT1.out; have h2 := HT.out; rw [h1]; simp [intOf]; omega
      · obtain rfl : j = i := by omega
        obtain ⟨t, ht⟩ : ∃ t : Int, ((257 + j : Nat) : Int) = t := ⟨_, rfl⟩
        rw [ht]
        have hlt' : ¬ t < s := by have := HS.out; omega
        obtain ⟨B, hB⟩ : ∃ B, LB j = B := ⟨_, rfl⟩
        rw [hB]
        have HBH := hide hB
        clear hB ht
        go_wp2
        go_ret
        exact ⟨by rw [HBH.out]; rfl, rfl⟩
end Go.Proofs.YthngagciiidppaaGreatDoor

namespace Go.Proofs.YthngagciiidppaaGreatDoor
open Go.RowKit
set_option maxRecDepth 20000
set_option linter.unusedVariables false

theorem xdbits_any (i : Nat) (hi : i < 30) (w : World) : Calls Tryz.prog 43 #[.int .i64 (i : Int)] w fun e w' => e = .returned (.int .i64 (DF i : Int)) ∧ w' = w := by
  have HL := hide (dfIs i hi)
  obtain ⟨F, HF⟩ : ∃ F, Hid (F = DF i) := ⟨_, hide rfl⟩
  rw [← HF.out] at HL ⊢
  by_cases h1 : i < 4
  · have hF : F = 0 := by rw [HL.out, if_pos h1]
    subst hF
    have g1 : (i : Int) < 4 := by omega
    go_enter Tryz.func43, Tryz.ntmps43
    go_wp2
    go_ret
    exact ⟨rfl, rfl⟩
  · have g1 : ¬ (i : Int) < 4 := by omega
    have hF : F = (i - 2) / 2 := by rw [HL.out, if_neg h1]
    obtain ⟨p, hp⟩ : ∃ p : Int, (i : Int) - 2 = p := ⟨_, rfl⟩
    have g4 : p.tdiv 2 = (F : Int) := by rw [Int.tdiv_eq_ediv_of_nonneg (by omega)]; omega
    have g5 : wrap64 (F : Int) = (F : Int) := by unfold wrap64; omega
    have g6 : wrap64 p = p := by unfold wrap64; omega
    clear hF
    go_enter Tryz.func43, Tryz.ntmps43
    go_wp2
    go_ret
    exact ⟨rfl, rfl⟩

theorem xdbase_any (i : Nat) (hi : i ≤ 30) (w : World) : Calls Tryz.prog 79 #[.int .i64 (i : Int)] w fun e w' => e = .returned (.int .i64 (DB i : Int)) ∧ w' = w := by
  have HLN : Hid (∀ j, j < 30 → DB (j + 1) = DB j + 2 ^ DF j) := dbNext
  have HLE := hide dfLe
  have HL0 : Hid (DB 0 = 1) := rfl
  have HL3 : Hid (DB 30 = 32769) := rfl
  go_enter Tryz.func79, Tryz.ntmps79
  go_wp2
  go_loopw [3, 4] (fun b t wr => ∃ j : Nat, j ≤ i ∧ b = .int .i64 (DB j : Int) ∧ t = .int .i64 (j : Int) ∧ wr = w) (fun _ t _ => i - (intOf t).toNat)
  case atStart => exact ⟨0, Nat.zero_le _, by rw [HL0.out]; rfl, rfl, rfl⟩
  case round =>
    obtain ⟨j, hj, rfl, rfl, rfl⟩ := hrel
    by_cases hlt : j < i
    · have hlt' : (j : Int) < (i : Int) := by omega
      have HBI := hide (xdbits_any j (by omega) wr)
      obtain ⟨e1, e2, e3⟩ := HLE.out j (by omega)
      have hnx := HLN.out j (by omega)
      obtain ⟨F, hF⟩ : ∃ F, DF j = F := ⟨_, rfl⟩
      rw [hF] at HBI e1 e3 hnx
      obtain ⟨w1, w2, w3⟩ := wrap_pow (F := F) (by omega)
      obtain ⟨q, hq⟩ : ∃ q, 2 ^ F = q := ⟨_, rfl⟩
      rw [hq] at w1 hnx e3
      obtain ⟨B, hB⟩ : ∃ B, DB j = B := ⟨_, rfl⟩
      obtain ⟨B', hB'⟩ : ∃ B, DB (j + 1) = B := ⟨_, rfl⟩
      rw [hB, hB'] at hnx
      rw [hB] at e2
      have hmin : min F 64 = F := by omega
      have hcv : IntKind.u64.wrap (F : Int) = (F : Int) := by rw [IntKind.wrap_u64]; omega
      have had : wrap64 ((B : Int) + (q : Int)) = (B' : Int) := by unfold wrap64; omega
      rw [hB]
      have HBB := hide hB'
      clear hq hF w2 w3 hB hB' hnx e1 e2 e3
      go_wp2_with fail
      refine HBI.out.mono ?_
      rintro e w8 ⟨rfl, hw8⟩
      subst hw8
      go_wp2
      go_roundw
      case rel => exact ⟨j + 1, by omega, by rw [HBB.out, had], by go_num, by first | rfl | trivial⟩
      case measure => simp [intOf]; omega
    · obtain rfl : j = i := by omega
      have hlt' : ¬ (j : Int) < (j : Int) := by omega
      obtain ⟨B, hB⟩ : ∃ B, DB j = B := ⟨_, rfl⟩
      rw [hB]
      have HBH := hide hB
      clear hB
      go_wp2
      go_ret
      exact ⟨by rw [HBH.out]; rfl, rfl⟩

theorem bnum_any (w : World) (x : Int) : Calls Tryz.prog 7 #[.int .i64 x] w fun e w' => e = .returned (.int .i64 x) ∧ w' = w := by
  go_enter Tryz.func7, Tryz.ntmps7
  go_wp2
  go_ret
  exact ⟨rfl, rfl⟩

end Go.Proofs.YthngagciiidppaaGreatDoor

namespace Go.Proofs.YthngagciiidppaaGreatDoor
open Go.RowKit
set_option maxRecDepth 20000
set_option linter.unusedVariables false

theorem lb_up0 : ∀ i : Nat, i < 29 → ∀ j : Nat, j < 29 → i < j → LB i < LB j := by decide +kernel

theorem db_up0 : ∀ i : Nat, i < 31 → ∀ j : Nat, j < 31 → i < j → DB i < DB j := by decide +kernel

theorem lb_up (i j : Nat) (hi : i < 29) (hj : j < 29) (h : i < j) : LB i < LB j := lb_up0 i hi j hj h

theorem db_up (i j : Nat) (hi : i < 31) (hj : j < 31) (h : i < j) : DB i < DB j := db_up0 i hi j hj h

/-- The last place whose base is not above x. -/
theorem last_le (b : Nat → Nat) (x : Nat) (h0 : b 0 ≤ x) : ∀ N, 0 < N → (∀ i j, i < N → j < N → i < j → b i < b j) → ∃ i, i < N ∧ b i ≤ x ∧ ∀ j, i < j → j < N → x < b j := by
  intro N
  induction N with
  | zero => intro h; omega
  | succ n ih =>
    intro _ hm
    by_cases hn : n = 0
    · subst hn
      exact ⟨0, by omega, h0, fun j h1 h2 => by omega⟩
    · by_cases hb : b n ≤ x
      · exact ⟨n, by omega, hb, fun j h1 h2 => by omega⟩
      · obtain ⟨i, h1, h2, h3⟩ := ih (by omega) (fun i j hi hj => hm i j (by omega) (by omega))
        refine ⟨i, by omega, h2, fun j h4 h5 => ?_⟩
        by_cases e : j = n
        · subst e; omega
        · exact h3 j h4 (by omega)

/-- The symbol of a length: the last whose base is not above it. -/
def Lsy (x i : Nat) : Prop := i < 29 ∧ LB i ≤ x ∧ ∀ j, i < j → j < 29 → x < LB j
def Dsy (x i : Nat) : Prop := i < 30 ∧ DB i ≤ x ∧ ∀ j, i < j → j < 30 → x < DB j

theorem lsy_is {x : Nat} (h : 3 ≤ x) : ∃ i, Lsy x i := last_le LB x (by rw [show LB 0 = 3 by decide]; exact h) 29 (by omega) lb_up
theorem dsy_is {x : Nat} (h : 1 ≤ x) : ∃ i, Dsy x i := last_le DB x (by rw [show DB 0 = 1 by decide]; exact h) 30 (by omega) (fun i j hi hj => db_up i j (by omega) (by omega))

set_option maxHeartbeats 1000000 in
/-- sort.Search over a question that only reads. -/
theorem search_any (f : Nat) (cap : Value) (N k : Nat) (w : World) (hk : k ≤ N) (hN : N ≤ 1000) (hcall : ∀ args w, (callFunc f args).run Tryz.prog w = .ok (.enter f args) w)
    (hc : ∀ i n, i < N → Calls Tryz.prog f #[.int .i64 (i : Int), cap] (w.drewN n) fun e w' => e = .returned (.bool (decide (k ≤ i))) ∧ ∃ m, w' = w.drewN m) :
    Calls Tryz.prog 45 #[.int .i64 (N : Int), .func (.func f) #[] #[cap]] w fun e w' => e = .returned (.int .i64 (k : Int)) ∧ ∃ n, w' = w.drewN n := by
  have HC := hide hc
  clear hc
  go_enter Tryz.func45, Tryz.ntmps45
  go_wp2
  go_loopw [5, 6] (fun a b wr => ∃ i j n : Nat, i ≤ k ∧ k ≤ j ∧ j ≤ N ∧ a = .int .i64 (i : Int) ∧ b = .int .i64 (j : Int) ∧ wr = w.drewN n) (fun a b _ => (intOf b).toNat - (intOf a).toNat)
  case atStart => exact ⟨0, N, 0, Nat.zero_le _, hk, Nat.le_refl _, rfl, rfl, rfl⟩
  case round =>
    obtain ⟨i, j, n, h1, h2, h3, rfl, rfl, hw⟩ := hrel
    subst hw
    by_cases hlt : i < j
    · have hlt' : (i : Int) < (j : Int) := by omega
      obtain ⟨h, hh⟩ : ∃ h, (i + j) / 2 = h := ⟨_, rfl⟩
      have hij : i ≤ h ∧ h < j := by omega
      have HQ := hide (HC.out h n (by omega))
      have hb : (i : Int) + (j : Int) ≤ 2000 ∧ (h : Int) ≤ 1000 := by omega
      have g3 : ((i : Int) + (j : Int)) / 2 = (h : Int) := by omega
      have g1 : wrap64 ((i : Int) + (j : Int)) = (i : Int) + (j : Int) := by unfold wrap64; omega
      have g2 : IntKind.u64.wrap ((i : Int) + (j : Int)) = (i : Int) + (j : Int) := by rw [IntKind.wrap_u64]; omega
      have g4 : IntKind.u64.wrap (h : Int) = (h : Int) := by rw [IntKind.wrap_u64]; omega
      have g5 : wrap64 (h : Int) = (h : Int) := by unfold wrap64; omega
      clear hh hb
      go_wp2_with fail
      refine HQ.out.mono ?_
      rintro e w2 ⟨rfl, m, hw2⟩
      subst hw2
      by_cases hkh : k ≤ h
      · have HD : Hid (decide (k ≤ h) = true) := decide_eq_true hkh
        rw [HD.out]
        go_wp2
        go_roundw
        case rel => exact ⟨i, h, m, h1, hkh, by omega, rfl, rfl, rfl⟩
        case measure => simp [intOf]; omega
      · have HD : Hid (decide (k ≤ h) = false) := decide_eq_false hkh
        rw [HD.out]
        go_wp2
        go_roundw
        case rel => exact ⟨h + 1, j, m, by omega, h2, h3, by go_num, rfl, rfl⟩
        case measure => simp [intOf]; omega
    · obtain rfl : i = k := by omega
      obtain rfl : j = i := by omega
      have hlt' : ¬ (j : Int) < (j : Int) := by omega
      go_wp2
      go_ret
      exact ⟨rfl, n, rfl⟩
end Go.Proofs.YthngagciiidppaaGreatDoor

