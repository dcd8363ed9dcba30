import Derived.Test.YtiabhmdefaabgaaDoorG3a
import Derived.Handy
namespace Go.Proofs.YtiabhmdefaabgaaDoor
open Go.RowKit
set_option maxRecDepth 20000

theorem u32_and1 {v : Int} (h0 : 0 ≤ v) (h1 : v < 4294967296) : bits .and .u32 v 1 = v % 2 := by
  have := bits_mask .u32 32 (by decide) (fun n a b => by rw [IntKind.wrap_u32]; omega) 1 (by decide) v h0 (by omega)
  simpa using this

theorem u32_or1 {t b : Int} (h0 : 0 ≤ t) (h1 : t < 2147483648) (hb : b = 0 ∨ b = 1) : bits .or .u32 (t * 2) b = 2 * t + b := by
  rw [bits_join .u32 32 (by decide) (fun n a b => by rw [IntKind.wrap_u32]; omega) 1 (t * 2) b (by omega) (by omega) (by omega) (by omega) (by omega) (by omega)]
  omega

theorem num_any (n : Int) (w : World) : Calls Tryd.prog 12 #[.int .i64 n] w fun e w' => e = .returned (.int .i64 n) ∧ w' = w := by
  go_enter Tryd.func12, Tryd.ntmps12
  go_wp2
  go_ret
  exact ⟨rfl, rfl⟩

def Cnt (n : Int) : Prop := 0 ≤ n ∧ n ≤ 32
instance (n : Int) : Decidable (Cnt n) := by unfold Cnt; exact inferInstance
def Fit (v n : Int) : Prop := Cnt n ∧ v < 2 ^ n.toNat
instance (v n : Int) : Decidable (Fit v n) := by unfold Fit; exact inferInstance

theorem countable_any (n : Int) (w : World) : Calls Tryd.prog 86 #[.int .i64 n] w fun e w' => e = .returned (.bool (decide (Cnt n))) ∧ w' = w := by
  by_cases h0 : 0 ≤ n
  · by_cases h1 : n ≤ 32
    · have HD : Hid (decide (Cnt n) = true) := decide_eq_true ⟨h0, h1⟩
      go_enter Tryd.func86, Tryd.ntmps86
      go_wp2
      go_ret
      rw [HD.out]
      exact ⟨rfl, rfl⟩
    · have HD : Hid (decide (Cnt n) = false) := decide_eq_false fun h => h1 h.2
      go_enter Tryd.func86, Tryd.ntmps86
      go_wp2
      go_ret
      rw [HD.out]
      exact ⟨rfl, rfl⟩
  · have HD : Hid (decide (Cnt n) = false) := decide_eq_false fun h => h0 h.1
    go_enter Tryd.func86, Tryd.ntmps86
    go_wp2
    go_ret
    rw [HD.out]
    exact ⟨rfl, rfl⟩

theorem rev_snoc (v : Int) (k : Nat) : val (bts v (k + 1)).reverse = v / 2 ^ k % 2 + 2 * val (bts v k).reverse := by
  rw [bts_snoc, List.reverse_append]
  rfl

theorem rev_bound (v : Int) (k : Nat) : 0 ≤ val (bts v k).reverse ∧ val (bts v k).reverse < 2 ^ k := by
  have := val_bound (l := (bts v k).reverse) (fun b hb => bit_bts v k b (List.mem_reverse.1 hb))
  rwa [List.length_reverse, length_bts] at this

def revN (v n : Int) : Int := if Fit v n then val (bts v n.toNat).reverse else 0
def revE (v n : Int) : Int := if Fit v n then 0 else 1

theorem bit_any (v : Int) (i : Nat) (hi : i ≤ 32) (hv : 0 ≤ v) (hv1 : v < 4294967296) (w : World) : Calls Tryd.prog 49 #[.int .u32 v, .int .i64 i] w fun e w' => e = .returned (.int .u8 (v / 2 ^ i % 2)) ∧ w' = w := by
  obtain ⟨q, HQ⟩ : ∃ q, Hid (q = v / 2 ^ i) := ⟨_, rfl⟩
  have HA : Hid (bits .and .u32 (v / 2 ^ i) 1 % 256 = v / 2 ^ i % 2) := by
    show _ = _
    rw [u32_and1 (Int.ediv_nonneg hv (Int.le_of_lt (pow_pos i))) (Int.lt_of_le_of_lt (Int.ediv_le_self _ hv) hv1)]
    omega
  go_enter Tryd.func49, Tryd.ntmps49
  go_wp2
  go_ret
  refine ⟨?_, rfl⟩
  show Ending.returned (Value.int .u8 (bits .and .u32 (v / 2 ^ i) 1 % 256)) = _
  rw [HA.out]

theorem rev_take {v : Int} {n i : Nat} (h : i < n) : val ((bts v n).reverse.take (i + 1)) = val ((bts v n).reverse.take i) + v / 2 ^ (n - 1 - i) % 2 * 2 ^ i := by
  have hl : i < (bts v n).reverse.length := by rw [List.length_reverse, length_bts]; exact h
  rw [List.take_succ_eq_append_getElem hl, val_append]
  have e : (bts v n).reverse[i] = v / 2 ^ (n - 1 - i) % 2 := by
    rw [List.getElem_reverse]
    have hs : bts v n = bts v (n - 1 - i) ++ bts (v / 2 ^ (n - 1 - i)) (i + 1) := by rw [← bts_split]; congr 1; omega
    have hj : (bts v n)[(bts v n).length - 1 - i]? = some (v / 2 ^ (n - 1 - i) % 2) := by
      rw [hs, List.length_append, length_bts, length_bts, List.getElem?_append_right (by rw [length_bts]; omega), length_bts]
      rw [show n - 1 - i + (i + 1) - 1 - i - (n - 1 - i) = 0 by omega]
      rfl
    obtain ⟨_, hj⟩ := List.getElem?_eq_some_iff.1 hj
    exact hj
  rw [e, List.length_take, Nat.min_eq_left (by omega)]
  simp only [val]
  rw [Int.mul_comm]
  simp

end Go.Proofs.YtiabhmdefaabgaaDoor

