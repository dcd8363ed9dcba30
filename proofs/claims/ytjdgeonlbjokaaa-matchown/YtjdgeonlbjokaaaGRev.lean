import Derived.Test.YtjdgeonlbjokaaaG3
import Derived.Handy
namespace Go.Proofs.Ytjdgeonlbjokaaa
open Go.RowKit
set_option maxRecDepth 20000

theorem u32_and1 {v : Int} (h0 : 0 ≤ v) (h1 : v < 4294967296) : bits .and .u32 v 1 = v % 2 := by
  have := bits_mask .u32 32 (by decide) (fun n a b => by rw [IntKind.wrap_u32]; omega) 1 (by decide) v h0 (by omega)
  simpa using this

theorem u32_or1 {t b : Int} (h0 : 0 ≤ t) (h1 : t < 2147483648) (hb : b = 0 ∨ b = 1) : bits .or .u32 (t * 2) b = 2 * t + b := by
  rw [bits_join .u32 32 (by decide) (fun n a b => by rw [IntKind.wrap_u32]; omega) 1 (t * 2) b (by omega) (by omega) (by omega) (by omega) (by omega) (by omega)]
  omega

def Cnt (n : Int) : Prop := 0 ≤ n ∧ n ≤ 32
instance (n : Int) : Decidable (Cnt n) := by unfold Cnt; exact inferInstance
def Fit (v n : Int) : Prop := Cnt n ∧ v < 2 ^ n.toNat
instance (v n : Int) : Decidable (Fit v n) := by unfold Fit; exact inferInstance

theorem rev_snoc (v : Int) (k : Nat) : val (bts v (k + 1)).reverse = v / 2 ^ k % 2 + 2 * val (bts v k).reverse := by
  rw [bts_snoc, List.reverse_append]
  rfl

theorem rev_bound (v : Int) (k : Nat) : 0 ≤ val (bts v k).reverse ∧ val (bts v k).reverse < 2 ^ k := by
  have := val_bound (l := (bts v k).reverse) (fun b hb => bit_bts v k b (List.mem_reverse.1 hb))
  rwa [List.length_reverse, length_bts] at this

def revN (v n : Int) : Int := if Fit v n then val (bts v n.toNat).reverse else 0
def revE (v n : Int) : Int := if Fit v n then 0 else 1

theorem rev_take {v : Int} {n i : Nat} (h : i < n) : val ((bts v n).reverse.take (i + 1)) = val ((bts v n).reverse.take i) + v / 2 ^ (n - 1 - i) % 2 * 2 ^ i := by
  have hl : i < (bts v n).reverse.length := by rw [List.length_reverse, length_bts]; exact h
  rw [List.take_succ_eq_append_getElem hl, val_append]
  have e : (bts v n).reverse[i] = v / 2 ^ (n - 1 - i) % 2 := by
    rw [List.getElem_reverse]
    have hs : bts v n = bts v (n - 1 - i) ++ bts (v / 2 ^ (n - 1 - i)) (i + 1) := by rw [← bts_split]; congr 1; omega
    have hj : (bts v n)[(bts v n).length - 1 - i]? = some (v / 2 ^ (n - 1 - i) % 2) := by
      rw [hs, List.length_append, length_bts, length_bts, List.getElem?_append_right (by rw [length_bts]; omega), length_bts]
      rw [show n - 1 - i + (i + 1) - 1 - i - (n - 1 - i) = 0 by omega]
      rfl
    obtain ⟨_, hj⟩ := List.getElem?_eq_some_iff.1 hj
    exact hj
  rw [e, List.length_take, Nat.min_eq_left (by omega)]
  simp only [val]
  rw [Int.mul_comm]
  simp

end Go.Proofs.Ytjdgeonlbjokaaa

