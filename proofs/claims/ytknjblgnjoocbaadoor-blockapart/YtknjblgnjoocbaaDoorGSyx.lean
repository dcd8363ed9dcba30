import Derived.Test.YtknjblgnjoocbaaDoorGCn
namespace Go.Proofs.YtknjblgnjoocbaaDoor
open Go.RowKit
set_option maxRecDepth 20000
set_option linter.unusedVariables false

theorem wrap_small {n : Nat} (h : n ≤ 1000000) : wrap64 (n : Int) = (n : Int) := by unfold wrap64; omega

theorem wrapu_small {n : Nat} (h : n ≤ 1000000) : IntKind.u64.wrap (n : Int) = (n : Int) := by rw [IntKind.wrap_u64]; omega

theorem wrap_add {a b : Nat} (h : a + b ≤ 1000000) : wrap64 ((a : Int) + (b : Int)) = (a : Int) + (b : Int) := by unfold wrap64; omega

theorem lsy_step {x i j : Nat} (h : Lsy x i) (hx : x < 258) (hj : j ≤ i) : i ≤ 27 ∧ (j < i → LB j + 2 ^ LF j ≤ x) ∧ (j = i → x < LB j + 2 ^ LF j) := by
  obtain ⟨h1, h2, h3⟩ := h
  have hi : i ≤ 27 := by
    by_cases e : i = 28
    · subst e
      have : LB 28 = 258 := by decide
      omega
    · omega
  refine ⟨hi, fun hlt => ?_, fun e => ?_⟩
  · rw [← lbNext j (by omega)]
    by_cases e : j + 1 = i
    · rw [e]; exact h2
    · have := lb_up (j + 1) i (by omega) (by omega) (by omega)
      omega
  · subst e
    by_cases e : j = 27
    · subst e
      have : LB 27 + 2 ^ LF 27 = 259 := by decide
      omega
    · rw [← lbNext j (by omega)]
      exact h3 (j + 1) (by omega) (by omega)

theorem dsy_step {x i j : Nat} (h : Dsy x i) (hx : x ≤ 32768) (hj : j ≤ i) : (j < i → DB (j + 1) ≤ x) ∧ (j = i → x < DB (j + 1)) := by
  obtain ⟨h1, h2, h3⟩ := h
  refine ⟨fun hlt => ?_, fun e => ?_⟩
  · by_cases e : j + 1 = i
    · rw [e]; exact h2
    · have := db_up (j + 1) i (by omega) (by omega) (by omega)
      omega
  · subst e
    by_cases e : j = 29
    · subst e
      have : DB (29 + 1) = 32769 := by decide
      omega
    · exact h3 (j + 1) (by omega) (by omega)

end Go.Proofs.YtknjblgnjoocbaaDoor

