import Derived.Test.YtpbghgddeodabaaG3
import Derived.Handy
namespace Go.Proofs.Ytpbghgddeodabaa
open Go.RowKit
set_option maxRecDepth 20000

theorem u32_and1 {v : Int} (h0 : 0 ≤ v) (h1 : v < 4294967296) : bits .and .u32 v 1 = v % 2 := by
  have := bits_mask .u32 32 (by decide) (fun n a b => by rw [IntKind.wrap_u32]; omega) 1 (by decide) v h0 (by omega)
  simpa using this

theorem u32_or1 {t b : Int} (h0 : 0 ≤ t) (h1 : t < 2147483648) (hb : b = 0 ∨ b = 1) : bits .or .u32 (t * 2) b = 2 * t + b := by
  rw [bits_join .u32 32 (by decide) (fun n a b => by rw [IntKind.wrap_u32]; omega) 1 (t * 2) b (by omega) (by omega) (by omega) (by omega) (by omega) (by omega)]
  omega

theorem num_any (n : Int) (w : World) : Calls Try.prog 10 #[.int .i64 n] w fun e w' => e = .returned (.int .i64 n) ∧ w' = w := by
  go_enter Try.func10, Try.ntmps10
  go_wp2
  go_ret
  exact ⟨rfl, rfl⟩

def Cnt (n : Int) : Prop := 0 ≤ n ∧ n ≤ 32
instance (n : Int) : Decidable (Cnt n) := by unfold Cnt; exact inferInstance
def Fit (v n : Int) : Prop := Cnt n ∧ v < 2 ^ n.toNat
instance (v n : Int) : Decidable (Fit v n) := by unfold Fit; exact inferInstance

theorem countable_any (n : Int) (w : World) : Calls Try.prog 26 #[.int .i64 n] w fun e w' => e = .returned (.bool (decide (Cnt n))) ∧ w' = w := by
  by_cases h0 : 0 ≤ n
  · by_cases h1 : n ≤ 32
    · have HD : Hid (decide (Cnt n) = true) := decide_eq_true ⟨h0, h1⟩
      go_enter Try.func26, Try.ntmps26
      go_wp2
      go_ret
      rw [HD.out]
      exact ⟨rfl, rfl⟩
    · have HD : Hid (decide (Cnt n) = false) := decide_eq_false fun h => h1 h.2
      go_enter Try.func26, Try.ntmps26
      go_wp2
      go_ret
      rw [HD.out]
      exact ⟨rfl, rfl⟩
  · have HD : Hid (decide (Cnt n) = false) := decide_eq_false fun h => h0 h.1
    go_enter Try.func26, Try.ntmps26
    go_wp2
    go_ret
    rw [HD.out]
    exact ⟨rfl, rfl⟩

theorem fits_any (v n : Int) (hv : 0 ≤ v) (hv1 : v < 4294967296) (w : World) : Calls Try.prog 22 #[.int .u32 v, .int .i64 n] w fun e w' => e = .returned (.bool (decide (Fit v n))) ∧ w' = w := by
  by_cases hc : Cnt n
  · have HC : Hid (decide (Cnt n) = true) := decide_eq_true hc
    have hc' := hc
    obtain ⟨h0, h1⟩ := hc'
    obtain ⟨m, rfl⟩ : ∃ m : Nat, n = m := ⟨n.toNat, by omega⟩
    have hp := pow_pos m
    have HD : Hid ((v / 2 ^ m == 0) = decide (Fit v m)) := by
      by_cases hv2 : v < 2 ^ m
      · rw [Int.ediv_eq_zero_of_lt hv hv2]
        exact (decide_eq_true (show Fit v m from ⟨hc, by simpa using hv2⟩)).symm
      · have : 1 ≤ v / 2 ^ m := by rw [Int.le_ediv_iff_mul_le hp]; omega
        have e : (v / 2 ^ m == 0) = false := by simp; omega
        show _ = _
        rw [e]
        exact (decide_eq_false (fun h : Fit v m => hv2 (by simpa using h.2))).symm
    clear hc
    go_enter Try.func22, Try.ntmps22
    go_wp2_with fail
    refine (countable_any _ _).mono ?_
    rintro e w' ⟨rfl, rfl⟩
    rw [HC.out]
    go_wp2
    go_ret
    refine ⟨?_, rfl⟩
    show Ending.returned (Value.bool (v / 2 ^ m == 0)) = _
    rw [HD.out]
  · have HC : Hid (decide (Cnt n) = false) := decide_eq_false hc
    have HD : Hid (decide (Fit v n) = false) := decide_eq_false fun h => hc h.1
    clear hc
    go_enter Try.func22, Try.ntmps22
    go_wp2_with fail
    refine (countable_any _ _).mono ?_
    rintro e w' ⟨rfl, rfl⟩
    rw [HC.out]
    go_wp2
    go_ret
    rw [HD.out]
    exact ⟨rfl, rfl⟩

theorem rev_snoc (v : Int) (k : Nat) : val (bts v (k + 1)).reverse = v / 2 ^ k % 2 + 2 * val (bts v k).reverse := by
  rw [bts_snoc, List.reverse_append]
  rfl

theorem rev_bound (v : Int) (k : Nat) : 0 ≤ val (bts v k).reverse ∧ val (bts v k).reverse < 2 ^ k := by
  have := val_bound (l := (bts v k).reverse) (fun b hb => bit_bts v k b (List.mem_reverse.1 hb))
  rwa [List.length_reverse, length_bts] at this

def revN (v n : Int) : Int := if Fit v n then val (bts v n.toNat).reverse else 0
def revE (v n : Int) : Int := if Fit v n then 0 else 1

theorem rev_take {v : Int} {n i : Nat} (h : i < n) : val ((bts v n).reverse.take (i + 1)) = val ((bts v n).reverse.take i) + v / 2 ^ (n - 1 - i) % 2 * 2 ^ i := by
  have hl : i < (bts v n).reverse.length := by rw [List.length_reverse, length_bts]; exact h
  rw [List.take_succ_eq_append_getElem hl, val_append]
  have e : (bts v n).reverse[i] = v / 2 ^ (n - 1 - i) % 2 := by
    rw [List.getElem_reverse]
    have hs : bts v n = bts v (n - 1 - i) ++ bts (v / 2 ^ (n - 1 - i)) (i + 1) := by rw [← bts_split]; congr 1; omega
    have hj : (bts v n)[(bts v n).length - 1 - i]? = some (v / 2 ^ (n - 1 - i) % 2) := by
      rw [hs, List.length_append, length_bts, length_bts, List.getElem?_append_right (by rw [length_bts]; omega), length_bts]
      rw [show n - 1 - i + (i + 1) - 1 - i - (n - 1 - i) = 0 by omega]
      rfl
    obtain ⟨_, hj⟩ := List.getElem?_eq_some_iff.1 hj
    exact hj
  rw [e, List.length_take, Nat.min_eq_left (by omega)]
  simp only [val]
  rw [Int.mul_comm]
  simp

end Go.Proofs.Ytpbghgddeodabaa

