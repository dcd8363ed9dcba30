import Derived.Test.YtbbbonphmffokaaG3
import Derived.BigQuiet
namespace Go.Proofs.Ytbbbonphmffokaa
open Go.RowKit
set_option maxRecDepth 20000
set_option linter.unusedVariables false

/-- The kind of the least number, the first of equals. -/
def chz (a b c : Int) : Nat := if b < a then (if c < b then 2 else 1) else (if c < a then 2 else 0)

theorem choose_any (a b c : Int) (w : World) : Calls Try.prog 4 #[.agg #[.int .i64 a, .int .i64 b, .int .i64 c]] w fun e w' => e = .returned (.int .i64 (chz a b c : Nat)) ∧ Below w.heap.size w w' := by
  have HB : Hid (∀ n, Below w.heap.size w ((w.alloc (.cells #[.int .i64 a, .int .i64 b, .int .i64 c] 23)).drewN n)) := fun n => below_drewN ((Below.refl _ _).alloc (Nat.le_refl _) _) n
  by_cases h1 : b < a
  · by_cases h2 : c < b
    · have HC : Hid (chz a b c = 2) := by show _ = _; unfold chz; rw [if_pos h1, if_pos h2]
      rw [HC.out]
      go_enter Try.func4, Try.ntmps4
      go_wp2
      go_quiet (fail)
      go_wp2
      go_quiet (fail)
      go_wp2
      go_ret
      exact ⟨rfl, by simpa only [World.drewN_drewN] using HB.out _⟩
    · have HC : Hid (chz a b c = 1) := by show _ = _; unfold chz; rw [if_pos h1, if_neg h2]
      rw [HC.out]
      go_enter Try.func4, Try.ntmps4
      go_wp2
      go_quiet (fail)
      go_wp2
      go_quiet (fail)
      go_wp2
      go_ret
      exact ⟨rfl, by simpa only [World.drewN_drewN] using HB.out _⟩
  · by_cases h2 : c < a
    · have HC : Hid (chz a b c = 2) := by show _ = _; unfold chz; rw [if_neg h1, if_pos h2]
      rw [HC.out]
      go_enter Try.func4, Try.ntmps4
      go_wp2
      go_quiet (fail)
      go_wp2
      go_ret
      exact ⟨rfl, HB.out _⟩
    · have HC : Hid (chz a b c = 0) := by show _ = _; unfold chz; rw [if_neg h1, if_neg h2]
      rw [HC.out]
      go_enter Try.func4, Try.ntmps4
      go_wp2
      go_quiet (fail)
      go_wp2
      go_ret
      exact ⟨rfl, HB.out _⟩

def s3 (a b c : Int) (i : Nat) : Int := if i = 0 then a else if i = 1 then b else c

theorem chz_least {a b c : Int} : chz a b c < 3 ∧ ∀ i, i < 3 → ¬ s3 a b c i < s3 a b c (chz a b c) ∧ (i < chz a b c → s3 a b c i ≠ s3 a b c (chz a b c)) := by
  unfold chz
  by_cases h1 : b < a
  · rw [if_pos h1]
    by_cases h2 : c < b
    · rw [if_pos h2]
      refine ⟨by omega, fun i hi => ?_⟩
      match i, hi with
      | 0, _ => simp [s3]; omega
      | 1, _ => simp [s3]; omega
      | 2, _ => simp [s3]
    · rw [if_neg h2]
      refine ⟨by omega, fun i hi => ?_⟩
      match i, hi with
      | 0, _ => simp [s3]; omega
      | 1, _ => simp [s3]
      | 2, _ => simp [s3]; omega
  · rw [if_neg h1]
    by_cases h2 : c < a
    · rw [if_pos h2]
      refine ⟨by omega, fun i hi => ?_⟩
      match i, hi with
      | 0, _ => simp [s3]; omega
      | 1, _ => simp [s3]; omega
      | 2, _ => simp [s3]
    · rw [if_neg h2]
      refine ⟨by omega, fun i hi => ?_⟩
      match i, hi with
      | 0, _ => simp [s3]
      | 1, _ => simp [s3]; omega
      | 2, _ => simp [s3]; omega

set_option maxHeartbeats 4000000 in
theorem choosesLeast_walk (a b c : Int) (w : World) : Calls Try.prog 3 #[.agg #[.int .i64 a, .int .i64 b, .int .i64 c]] w fun e w' => e = .returned (.bool true) ∧ Below w.heap.size w w' := by
  obtain ⟨wb, hwb⟩ : ∃ wb, (w.alloc (.cells #[.int .i64 a, .int .i64 b, .int .i64 c] 23)).alloc (.cells #[.int .i64 a, .int .i64 b, .int .i64 c] 3) = wb := ⟨_, rfl⟩
  have b1 : Below w.heap.size w (w.alloc (.cells #[.int .i64 a, .int .i64 b, .int .i64 c] 23)) := (Below.refl _ _).alloc (Nat.le_refl _) _
  have HB : Hid (Below w.heap.size w wb) := by rw [← hwb]; exact b1.alloc (by have := b1.size; omega) _
  obtain ⟨g, hg⟩ : ∃ g, (w.alloc (.cells #[.int .i64 a, .int .i64 b, .int .i64 c] 23)).heap.size = g := ⟨_, rfl⟩
  have hs : wb.heap.size = w.heap.size + 2 := by rw [← hwb]; simp
  have hg1 : g = w.heap.size + 1 := by rw [← hg]; simp
  have HR : Hid (wb.heap[w.heap.size + 1]? = some (.cells #[.int .i64 a, .int .i64 b, .int .i64 c] 3 (0, 0))) := by
    show _ = _
    rw [← hwb, ← hg1, ← hg]
    exact heap_alloc_new _ _
  have HS : Hid (wb.heap[w.heap.size]? = some (.cells #[.int .i64 a, .int .i64 b, .int .i64 c] 23 (0, 0))) := by
    show _ = _
    rw [← hwb, Below.heap_alloc _ _ _ (by simp)]
    exact heap_alloc_new _ _
  clear b1 hg1 hg g
  obtain ⟨hk3, hk⟩ := chz_least (a := a) (b := b) (c := c)
  have HK := hide hk
  have HCH := hide (fun wx => choose_any a b c wx)
  obtain ⟨k, HKK⟩ : ∃ k, Hid (k = chz a b c) := ⟨_, hide rfl⟩
  rw [← HKK.out] at hk3 HK HCH
  clear hk
  have p0 : wb.cell? ⟨w.heap.size, 0, none⟩ = some (.int .i64 a) := by unfold World.cell?; rw [HS.out]; rfl
  have p1 : wb.cell? ⟨w.heap.size, 1, none⟩ = some (.int .i64 b) := by unfold World.cell?; rw [HS.out]; rfl
  have p2 : wb.cell? ⟨w.heap.size, 2, none⟩ = some (.int .i64 c) := by unfold World.cell?; rw [HS.out]; rfl
  have HC : Hid (∀ wx, Below wb.heap.size wb wx → ∀ i, i < 3 → wx.cell? ⟨w.heap.size + 1, i, none⟩ = some (.int .i64 (s3 a b c i))) := fun wx q i hi => by
    refine (q.cell (by show w.heap.size + 1 < _; omega)).trans ?_
    unfold World.cell?
    rw [HR.out]
    match i, hi with
    | 0, _ => rfl
    | 1, _ => rfl
    | 2, _ => rfl
  go_enter Try.func3, Try.ntmps3
  go_wp2_with fail
  refine (HCH.out _).mono ?_
  rintro e w2 ⟨rfl, b2⟩
  have HB2 := hide b2
  clear b2 hwb p0 p1 p2 HCH
  have k0 : ¬ (k : Int) < 0 := by omega
  have k2 : ¬ (2 : Int) < (k : Int) := by omega
  go_wp2
  go_loopw [5] (fun t wr => ∃ i : Nat, i ≤ 3 ∧ t = .int .i64 (i : Int) ∧ Hid (Below wb.heap.size wb wr)) (fun t _ => 3 - (intOf t).toNat)
  case atStart => exact ⟨0, by omega, rfl, HB2⟩
  case round =>
    obtain ⟨i, hi, rfl, HBi⟩ := hrel
    by_cases hi3 : i < 3
    · have hi3' : (i : Int) < 3 := by omega
      have hk3' : (k : Int) < 3 := by omega
      obtain ⟨q1, q2⟩ := HK.out i hi3
      have c1 := HC.out _ HBi.out i hi3
      have c2 := HC.out _ HBi.out k hk3
      obtain ⟨A, hA⟩ : ∃ A, s3 a b c i = A := ⟨_, rfl⟩
      obtain ⟨B, hB⟩ : ∃ B, s3 a b c k = B := ⟨_, rfl⟩
      rw [hA] at c1 q1 q2
      rw [hB] at c2 q1 q2
      have d1 : decide (A < B) = false := decide_eq_false (by omega)
      by_cases hik : i < k
      · have d2 : decide ((i : Int) < (k : Int)) = true := decide_eq_true (by omega)
        have d2' : decide (i < k) = true := decide_eq_true hik
        have d3 : (A == B) = false := by simp; exact q2 hik
        clear q1 q2 hA hB
        go_wp2
        go_quiet (fail)
        go_wp2
        go_roundw
        case rel => exact ⟨i + 1, by omega, by go_num, below_drewN HBi.out _⟩
        case measure => simp [intOf]; omega
      · have d2 : decide ((i : Int) < (k : Int)) = false := decide_eq_false (by omega)
        have d2' : decide (i < k) = false := decide_eq_false hik
        clear q1 q2 hA hB
        go_wp2
        go_quiet (fail)
        go_wp2
        go_roundw
        case rel => exact ⟨i + 1, by omega, by go_num, below_drewN HBi.out _⟩
        case measure => simp [intOf]; omega
    · have hi3' : ¬ (i : Int) < 3 := by omega
      go_wp2
      go_ret
      exact ⟨rfl, HB.out.trans (HBi.out.mono HB.out.size)⟩
end Go.Proofs.Ytbbbonphmffokaa

