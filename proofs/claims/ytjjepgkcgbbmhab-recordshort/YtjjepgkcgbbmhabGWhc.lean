import Derived.Test.YtjjepgkcgbbmhabGRps
namespace Go.Proofs.Ytjjepgkcgbbmhab
open Go.RowKit Go.Maps
set_option maxRecDepth 20000
set_option linter.unusedVariables false

theorem tmod_pos {k n : Int} (h : 0 ≤ k) : k.tmod n = k % n := Int.tmod_eq_emod_of_nonneg h

theorem tmod_neg {k n : Int} (hn : 0 < n) (h : k < 0) : (k.tmod n < 0 → k.tmod n + n = k % n) ∧ (¬ k.tmod n < 0 → k.tmod n = k % n) := by
  have h1 := Int.emod_nonneg k (show n ≠ 0 by omega)
  have h2 := Int.emod_lt_of_pos k hn
  have e : k.tmod n = -((-k) % n) := by
    have h5 := Int.tmod_eq_emod_of_nonneg (a := -k) (b := n) (by omega)
    have := Int.neg_tmod (-k) n
    rw [Int.neg_neg, h5] at this
    exact this
  have h3 := Int.emod_nonneg (-k) (show n ≠ 0 by omega)
  have h4 := Int.emod_lt_of_pos (-k) hn
  have d1 := Int.mul_ediv_add_emod k n
  have d2 := Int.mul_ediv_add_emod (-k) n
  have key : k % n = (if (-k) % n = 0 then 0 else n - (-k) % n) := by
    by_cases hz : (-k) % n = 0
    · rw [if_pos hz]
      have : k = n * (-((-k) / n)) := by rw [Int.mul_neg]; omega
      rw [this, Int.mul_emod_right]
    · rw [if_neg hz]
      have : k = (n - (-k) % n) + n * (-((-k) / n) - 1) := by rw [Int.mul_sub, Int.mul_neg]; omega
      conv => lhs; rw [this]
      rw [Int.add_mul_emod_self_left, Int.emod_eq_of_lt (by omega) (by omega)]
  rw [e, key]
  refine ⟨fun h => ?_, fun h => ?_⟩
  · rw [if_neg (by omega)]; omega
  · rw [if_pos (by omega)]; omega

theorem which_any (k n : Int) (hn : 0 < n) (hn1 : n ≤ 4611686018427387904) (w : World) : Calls Try.prog 20 #[.int .i64 k, .int .i64 n] w fun e w' => e = .returned (.int .i64 (k % n)) ∧ w' = w := by
  by_cases hk : 0 ≤ k
  · have h0 := tmod_pos (n := n) hk
    have h1 := Int.emod_nonneg k (show n ≠ 0 by omega)
    have h2 : k.tmod n = k % n ∧ ¬ (k % n < 0) := ⟨h0, by omega⟩
    obtain ⟨M, HM⟩ : ∃ M, Hid (M = k % n) := ⟨_, rfl⟩
    rw [← HM.out] at h0 h1 ⊢
    clear h2
    have hn0 : n ≠ 0 := by omega
    go_enter Try.func20, Try.ntmps20
    go_wp2
    go_ret
    exact ⟨rfl, rfl⟩
  · obtain ⟨h1, h2⟩ := tmod_neg (k := k) hn (by omega)
    obtain ⟨M, HM⟩ : ∃ M, Hid (M = k.tmod n) := ⟨_, rfl⟩
    have hM : k.tmod n = M := HM.out.symm
    rw [hM] at h1 h2
    have hn0 : n ≠ 0 := by omega
    have H1 := hide h1
    have H2 := hide h2
    have h3 := Int.emod_nonneg k hn0
    have h4 := Int.emod_lt_of_pos k hn
    by_cases h0 : M < 0
    · have HX : Hid (M + n = k % n) := h1 h0
      have hw : -4611686018427387904 ≤ M + n ∧ M + n ≤ 4611686018427387904 := by have := HX.out; omega
      clear h1 h2 h3 h4
      go_enter Try.func20, Try.ntmps20
      go_wp2
      go_ret
      rw [← HX.out]
      exact ⟨rfl, rfl⟩
    · have HX : Hid (M = k % n) := h2 h0
      clear h1 h2 h3 h4
      go_enter Try.func20, Try.ntmps20
      go_wp2
      go_ret
      rw [← HX.out]
      exact ⟨rfl, rfl⟩
end Go.Proofs.Ytjjepgkcgbbmhab

