import Derived.Test.YthngagciiidppaaDoorGA00
import Derived.BigQuiet
namespace Go.Proofs.YthngagciiidppaaDoor
open Go.RowKit
set_option maxRecDepth 20000
set_option linter.unusedVariables false

/-- The kind of the least number, the first of equals. -/
def chz (a b c : Int) : Nat := if b < a then (if c < b then 2 else 1) else (if c < a then 2 else 0)

theorem choose_any (a b c : Int) (w : World) : Calls Tryd.prog 8 #[.agg #[.int .i64 a, .int .i64 b, .int .i64 c]] w fun e w' => e = .returned (.int .i64 (chz a b c : Nat)) ∧ Below w.heap.size w w' := by
  have HB : Hid (∀ n, Below w.heap.size w ((w.alloc (.cells #[.int .i64 a, .int .i64 b, .int .i64 c] 26)).drewN n)) := fun n => below_drewN ((Below.refl _ _).alloc (Nat.le_refl _) _) n
  by_cases h1 : b < a
  · by_cases h2 : c < b
    · have HC : Hid (chz a b c = 2) := by show _ = _; unfold chz; rw [if_pos h1, if_pos h2]
      rw [HC.out]
      go_enter Tryd.func8, Tryd.ntmps8
      go_wp2
      go_quiet (fail)
      go_wp2
      go_quiet (fail)
      go_wp2
      go_ret
      exact ⟨rfl, by simpa only [World.drewN_drewN] using HB.out _⟩
    · have HC : Hid (chz a b c = 1) := by show _ = _; unfold chz; rw [if_pos h1, if_neg h2]
      rw [HC.out]
      go_enter Tryd.func8, Tryd.ntmps8
      go_wp2
      go_quiet (fail)
      go_wp2
      go_quiet (fail)
      go_wp2
      go_ret
      exact ⟨rfl, by simpa only [World.drewN_drewN] using HB.out _⟩
  · by_cases h2 : c < a
    · have HC : Hid (chz a b c = 2) := by show _ = _; unfold chz; rw [if_neg h1, if_pos h2]
      rw [HC.out]
      go_enter Tryd.func8, Tryd.ntmps8
      go_wp2
      go_quiet (fail)
      go_wp2
      go_ret
      exact ⟨rfl, HB.out _⟩
    · have HC : Hid (chz a b c = 0) := by show _ = _; unfold chz; rw [if_neg h1, if_neg h2]
      rw [HC.out]
      go_enter Tryd.func8, Tryd.ntmps8
      go_wp2
      go_quiet (fail)
      go_wp2
      go_ret
      exact ⟨rfl, HB.out _⟩

def s3 (a b c : Int) (i : Nat) : Int := if i = 0 then a else if i = 1 then b else c

theorem chz_least {a b c : Int} : chz a b c < 3 ∧ ∀ i, i < 3 → ¬ s3 a b c i < s3 a b c (chz a b c) ∧ (i < chz a b c → s3 a b c i ≠ s3 a b c (chz a b c)) := by
  unfold chz
  by_cases h1 : b < a
  · rw [if_pos h1]
    by_cases h2 : c < b
    · rw [if_pos h2]
      refine ⟨by omega, fun i hi => ?_⟩
      match i, hi with
      | 0, _ => simp [s3]; omega
      | 1, _ => simp [s3]; omega
      | 2, _ => simp [s3]
    · rw [if_neg h2]
      refine ⟨by omega, fun i hi => ?_⟩
      match i, hi with
      | 0, _ => simp [s3]; omega
      | 1, _ => simp [s3]
      | 2, _ => simp [s3]; omega
  · rw [if_neg h1]
    by_cases h2 : c < a
    · rw [if_pos h2]
      refine ⟨by omega, fun i hi => ?_⟩
      match i, hi with
      | 0, _ => simp [s3]; omega
      | 1, _ => simp [s3]; omega
      | 2, _ => simp [s3]
    · rw [if_neg h2]
      refine ⟨by omega, fun i hi => ?_⟩
      match i, hi with
      | 0, _ => simp [s3]
      | 1, _ => simp [s3]; omega
      | 2, _ => simp [s3]; omega

end Go.Proofs.YthngagciiidppaaDoor

