import Derived.Test.YtlidmhdcikcpkaaG3
import Derived.BigQuiet
import Derived.Deep.RegionHeld3
namespace Go.Proofs.Ytlidmhdcikcpkaa
open Go.RowKit
set_option maxRecDepth 20000
set_option linter.unusedVariables false
set_option linter.unusedSimpArgs false

theorem boxC {w : World} {c : Nat} {A : Array Value} {t : TypeId} {k : Nat × Nat} (h : w.heap[c]? = some (.cells A t k)) (i : Nat) {u : Value} (hu : A[i]? = some u) : w.cell? ⟨c, i, none⟩ = some u := by
  unfold World.cell?
  simp only [h]
  exact hu

/-- Limits in numbers. -/
def lmA (a b m d : Int) : Prop := a < 0 ∨ b < 0 ∨ m < 0 ∨ 65535 < m ∨ d < 0 ∨ 4294967295 < d
instance (a b m d : Int) : Decidable (lmA a b m d) := by unfold lmA; infer_instance
def lmM (m k : Int) : Int := if m = 0 then k else m
def lmE (a b m d : Int) : Int := if lmA a b m d then 1 else if lmM m 65535 < a then 152 else if lmM d 4294967295 < b ∨ 16777216 < b then 153 else 0

theorem within_any (n k : Int) (w : World) : Calls Try.prog 22 #[.int .i64 n, .int .i64 k] w fun e w' => e = .returned (.bool (decide (0 ≤ n ∧ n ≤ k))) ∧ w' = w := by
  by_cases h : 0 ≤ n
  · have e : decide (0 ≤ n ∧ n ≤ k) = decide (n ≤ k) := by simp [h]
    rw [e]
    go_enter Try.func22, Try.ntmps22
    go_wp2
    go_ret
    exact ⟨rfl, rfl⟩
  · have e : decide (0 ≤ n ∧ n ≤ k) = false := by simp [h]
    have h' : decide (0 ≤ n) = false := by simp [h]
    rw [e]
    go_enter Try.func22, Try.ntmps22
    go_wp2
    go_ret
    exact ⟨rfl, rfl⟩

theorem limit_any (n k : Int) (w : World) : Calls Try.prog 23 #[.int .i64 n, .int .i64 k] w fun e w' => e = .returned (.int .i64 (lmM n k)) ∧ w' = w := by
  by_cases h : n = 0
  · have e : lmM n k = k := by unfold lmM; rw [if_pos h]
    rw [e]
    subst h
    clear e
    go_enter Try.func23, Try.ntmps23
    go_wp2
    go_ret
    exact ⟨rfl, rfl⟩
  · have e : lmM n k = n := by unfold lmM; rw [if_neg h]
    rw [e]
    clear e
    have h' : (n == 0) = false := by simpa using h
    go_enter Try.func23, Try.ntmps23
    go_wp2
    go_ret
    exact ⟨rfl, rfl⟩

theorem numL_any (v : Int) (w : World) : Calls Try.prog 9 #[.int .i64 v] w fun e w' => e = .returned (.int .i64 v) ∧ w' = w := by
  go_enter Try.func9, Try.ntmps9
  go_wp2
  go_ret
  exact ⟨rfl, rfl⟩

set_option maxHeartbeats 4000000 in
theorem pLimits_any (a b m d : Int) (w : World) : Calls Try.prog 10 #[.int .i64 a, .int .i64 b, .agg #[.int .i64 m, .int .i64 d]] w fun e w' => e = .returned (.int .i64 (lmE a b m d)) ∧ Below w.heap.size w w' := by
  have HB : Hid (Below w.heap.size w (w.alloc (.cells #[.int .i64 m, .int .i64 d] 28))) := (Below.refl _ _).alloc (Nat.le_refl _) _
  obtain ⟨w1, hw1⟩ : ∃ y, w.alloc (.cells #[.int .i64 m, .int .i64 d] 28) = y := ⟨_, rfl⟩
  have hbx : w1.heap[w.heap.size]? = some (.cells #[.int .i64 m, .int .i64 d] 28) := by rw [← hw1]; exact heap_alloc_new _ _
  rw [hw1] at HB
  have q0 := boxC hbx 0 rfl
  have q1 := boxC hbx 1 rfl
  clear hbx
  have HW1 := hide (within_any m 65535 w1)
  have HW2 := hide (within_any d 4294967295 w1)
  have HL1 := hide (limit_any m 65535 w1)
  have HL2 := hide (limit_any d 4294967295 w1)
  obtain ⟨x1, hx1⟩ : ∃ x, x = decide (0 ≤ m ∧ m ≤ 65535) := ⟨_, rfl⟩
  obtain ⟨x2, hx2⟩ : ∃ x, x = decide (0 ≤ d ∧ d ≤ 4294967295) := ⟨_, rfl⟩
  obtain ⟨M, hM⟩ : ∃ x, x = lmM m 65535 := ⟨_, rfl⟩
  obtain ⟨D, hD⟩ : ∃ x, x = lmM d 4294967295 := ⟨_, rfl⟩
  rw [← hx1] at HW1
  rw [← hx2] at HW2
  rw [← hM] at HL1
  rw [← hD] at HL2
  have HE : Hid (lmE a b m d = if a < 0 ∨ b < 0 ∨ x1 = false ∨ x2 = false then 1 else if M < a then 152 else if D < b ∨ 16777216 < b then 153 else 0) := by
    show _ = _
    unfold lmE
    rw [hM, hD]
    have e1 : lmA a b m d ↔ (a < 0 ∨ b < 0 ∨ x1 = false ∨ x2 = false) := by
      rw [hx1, hx2]
      unfold lmA
      simp only [decide_eq_false_iff_not]
      omega
    simp only [e1]
  clear hx1 hx2 hM hD
  rw [HE.out]
  clear HE
  by_cases ha : a < 0
  · rw [if_pos (.inl ha)]
    go_enter Try.func10, Try.ntmps10
    go_wp2
    go_ret
    exact ⟨rfl, HB.out⟩
  by_cases hb : b < 0
  · rw [if_pos (.inr (.inl hb))]
    go_enter Try.func10, Try.ntmps10
    go_wp2
    go_ret
    exact ⟨rfl, HB.out⟩
  cases x1 with
  | false =>
    rw [if_pos (.inr (.inr (.inl rfl)))]
    go_enter Try.func10, Try.ntmps10
    go_wp2_with fail
    refine HW1.out.mono ?_
    rintro e w2 ⟨rfl, h2⟩
    rw [h2]
    clear h2 w2
    go_wp2
    go_ret
    exact ⟨rfl, HB.out⟩
  | true =>
  cases x2 with
  | false =>
    rw [if_pos (.inr (.inr (.inr rfl)))]
    go_enter Try.func10, Try.ntmps10
    go_wp2_with fail
    refine HW1.out.mono ?_
    rintro e w2 ⟨rfl, h2⟩
    rw [h2]
    clear h2 w2
    go_wp2_with fail
    refine HW2.out.mono ?_
    rintro e w2 ⟨rfl, h2⟩
    rw [h2]
    clear h2 w2
    go_wp2
    go_ret
    exact ⟨rfl, HB.out⟩
  | true =>
  rw [if_neg (by simp; omega)]
  by_cases hc : M < a
  · rw [if_pos hc]
    go_enter Try.func10, Try.ntmps10
    go_wp2_with fail
    refine HW1.out.mono ?_
    rintro e w2 ⟨rfl, h2⟩
    rw [h2]
    clear h2 w2
    go_wp2_with fail
    refine HW2.out.mono ?_
    rintro e w2 ⟨rfl, h2⟩
    rw [h2]
    clear h2 w2
    go_wp2_with fail
    refine HL1.out.mono ?_
    rintro e w2 ⟨rfl, h2⟩
    rw [h2]
    clear h2 w2
    go_wp2
    go_ret
    exact ⟨rfl, HB.out⟩
  rw [if_neg hc]
  by_cases hd : D < b
  · rw [if_pos (.inl hd)]
    go_enter Try.func10, Try.ntmps10
    go_wp2_with fail
    refine HW1.out.mono ?_
    rintro e w2 ⟨rfl, h2⟩
    rw [h2]
    clear h2 w2
    go_wp2_with fail
    refine HW2.out.mono ?_
    rintro e w2 ⟨rfl, h2⟩
    rw [h2]
    clear h2 w2
    go_wp2_with fail
    refine HL1.out.mono ?_
    rintro e w2 ⟨rfl, h2⟩
    rw [h2]
    clear h2 w2
    go_wp2_with fail
    refine HL2.out.mono ?_
    rintro e w2 ⟨rfl, h2⟩
    rw [h2]
    clear h2 w2
    go_wp2
    go_ret
    exact ⟨rfl, HB.out⟩
  by_cases hf : 16777216 < b
  · rw [if_pos (.inr hf)]
    go_enter Try.func10, Try.ntmps10
    go_wp2_with fail
    refine HW1.out.mono ?_
    rintro e w2 ⟨rfl, h2⟩
    rw [h2]
    clear h2 w2
    go_wp2_with fail
    refine HW2.out.mono ?_
    rintro e w2 ⟨rfl, h2⟩
    rw [h2]
    clear h2 w2
    go_wp2_with fail
    refine HL1.out.mono ?_
    rintro e w2 ⟨rfl, h2⟩
    rw [h2]
    clear h2 w2
    go_wp2_with fail
    refine HL2.out.mono ?_
    rintro e w2 ⟨rfl, h2⟩
    rw [h2]
    clear h2 w2
    go_wp2
    go_ret
    exact ⟨rfl, HB.out⟩
  · rw [if_neg (by omega)]
    go_enter Try.func10, Try.ntmps10
    go_wp2_with fail
    refine HW1.out.mono ?_
    rintro e w2 ⟨rfl, h2⟩
    rw [h2]
    clear h2 w2
    go_wp2_with fail
    refine HW2.out.mono ?_
    rintro e w2 ⟨rfl, h2⟩
    rw [h2]
    clear h2 w2
    go_wp2_with fail
    refine HL1.out.mono ?_
    rintro e w2 ⟨rfl, h2⟩
    rw [h2]
    clear h2 w2
    go_wp2_with fail
    refine HL2.out.mono ?_
    rintro e w2 ⟨rfl, h2⟩
    rw [h2]
    clear h2 w2
    go_wp2
    go_ret
    exact ⟨rfl, HB.out⟩
end Go.Proofs.Ytlidmhdcikcpkaa

