import Derived.Test.YtjldmphfdaoecaaG03Arr
import Derived.Test.YtjldmphfdaoecaaG02Brb
namespace Go.Proofs.Ytjldmphfdaoecaa
open Go.RowKit Go.Maps
set_option maxRecDepth 20000

end Go.Proofs.Ytjldmphfdaoecaa

namespace Go.Proofs.Ytjldmphfdaoecaa
open Go.RowKit Go.Maps
set_option maxRecDepth 20000
set_option linter.unusedVariables false

theorem lsound_any (a b c : Int) (w : World) : Calls Try.prog 19 #[.agg #[.int .i64 a, .int .i64 b, .int .u8 c]] w fun e w' => e = .returned (.bool (sndb (a, b, c))) ∧ Below w.heap.size w w' := by
  have HB : Hid (∀ q, Below w.heap.size w ((w.alloc (.cells #[.int .i64 a, .int .i64 b, .int .u8 c] 38)).drewN q)) := fun q => below_drewN ((Below.refl _ _).alloc (Nat.le_refl _) _) q
  obtain ⟨wb, hwb⟩ : ∃ wb, w.alloc (.cells #[.int .i64 a, .int .i64 b, .int .u8 c] 38) = wb := ⟨_, rfl⟩
  have d1 : wb.cell? ⟨w.heap.size, 0, none⟩ = some (.int .i64 a) := by rw [← hwb]; unfold World.cell?; simp only [heap_alloc_new]; rfl
  have d2 : wb.cell? ⟨w.heap.size, 1, none⟩ = some (.int .i64 b) := by rw [← hwb]; unfold World.cell?; simp only [heap_alloc_new]; rfl
  have d3 : wb.cell? ⟨w.heap.size, 2, none⟩ = some (.int .u8 c) := by rw [← hwb]; unfold World.cell?; simp only [heap_alloc_new]; rfl
  rw [hwb] at HB
  by_cases h0 : a = 0
  · have HE : Hid (sndb (a, b, c) = decide (b = 0)) := by show _ = _; unfold sndb Snd; simp [h0]
    have g0 : (a == 0) = true := by simpa using h0
    by_cases hb : b = 0
    · have g1 : (b == 0) = true := by simpa using hb
      have HE2 : Hid (sndb (a, b, c) = true) := by show _ = _; rw [HE.out]; simpa using hb
      clear HE h0 hb
      go_enter Try.func19, Try.ntmps19
      go_wp2
      go_ret
      rw [HE2.out]
      exact ⟨rfl, HB.out 0⟩
    · have g1 : (b == 0) = false := by simpa using hb
      have HE2 : Hid (sndb (a, b, c) = false) := by show _ = _; rw [HE.out]; simpa using hb
      clear HE h0 hb
      go_enter Try.func19, Try.ntmps19
      go_wp2
      go_ret
      rw [HE2.out]
      exact ⟨rfl, HB.out 0⟩
  · have g0 : (a == 0) = false := by simpa using h0
    have HE : Hid (sndb (a, b, c) = decide (3 ≤ a ∧ a ≤ 258 ∧ 1 ≤ b ∧ b ≤ 32768 ∧ c = 0)) := by show _ = _; unfold sndb Snd; simp [h0]
    by_cases h1 : 3 ≤ a
    · by_cases h2 : a ≤ 258
      · by_cases h3 : 1 ≤ b
        · by_cases h4 : b ≤ 32768
          · by_cases h5 : c = 0
            · have g1 : decide (3 ≤ a) = true := decide_eq_true h1
              have g2 : decide (a ≤ 258) = true := decide_eq_true h2
              have g3 : decide (1 ≤ b) = true := decide_eq_true h3
              have g4 : decide (b ≤ 32768) = true := decide_eq_true h4
              have g5 : (c == 0) = true := by simpa using h5
              have HE2 : Hid (sndb (a, b, c) = true) := by show _ = _; rw [HE.out]; exact decide_eq_true ⟨h1, h2, h3, h4, h5⟩
              clear HE h0 h1 h2 h3 h4 h5
              go_enter Try.func19, Try.ntmps19
              go_wp2
              go_ret
              rw [HE2.out]
              exact ⟨rfl, HB.out 0⟩
            · have g1 : decide (3 ≤ a) = true := decide_eq_true h1
              have g2 : decide (a ≤ 258) = true := decide_eq_true h2
              have g3 : decide (1 ≤ b) = true := decide_eq_true h3
              have g4 : decide (b ≤ 32768) = true := decide_eq_true h4
              have g5 : (c == 0) = false := by simpa using h5
              have HE2 : Hid (sndb (a, b, c) = false) := by show _ = _; rw [HE.out]; exact decide_eq_false (fun q => h5 q.2.2.2.2)
              clear HE h0 h1 h2 h3 h4 h5
              go_enter Try.func19, Try.ntmps19
              go_wp2
              go_ret
              rw [HE2.out]
              exact ⟨rfl, HB.out 0⟩
          · have g1 : decide (3 ≤ a) = true := decide_eq_true h1
            have g2 : decide (a ≤ 258) = true := decide_eq_true h2
            have g3 : decide (1 ≤ b) = true := decide_eq_true h3
            have g4 : decide (b ≤ 32768) = false := decide_eq_false h4
            have HE2 : Hid (sndb (a, b, c) = false) := by show _ = _; rw [HE.out]; exact decide_eq_false (fun q => h4 q.2.2.2.1)
            clear HE h0 h1 h2 h3 h4
            go_enter Try.func19, Try.ntmps19
            go_wp2
            go_ret
            rw [HE2.out]
            exact ⟨rfl, HB.out 0⟩
        · have g1 : decide (3 ≤ a) = true := decide_eq_true h1
          have g2 : decide (a ≤ 258) = true := decide_eq_true h2
          have g3 : decide (1 ≤ b) = false := decide_eq_false h3
          have HE2 : Hid (sndb (a, b, c) = false) := by show _ = _; rw [HE.out]; exact decide_eq_false (fun q => h3 q.2.2.1)
          clear HE h0 h1 h2 h3
          go_enter Try.func19, Try.ntmps19
          go_wp2
          go_ret
          rw [HE2.out]
          exact ⟨rfl, HB.out 0⟩
      · have g1 : decide (3 ≤ a) = true := decide_eq_true h1
        have g2 : decide (a ≤ 258) = false := decide_eq_false h2
        have HE2 : Hid (sndb (a, b, c) = false) := by show _ = _; rw [HE.out]; exact decide_eq_false (fun q => h2 q.2.1)
        clear HE h0 h1 h2
        go_enter Try.func19, Try.ntmps19
        go_wp2
        go_ret
        rw [HE2.out]
        exact ⟨rfl, HB.out 0⟩
    · have g1 : decide (3 ≤ a) = false := decide_eq_false h1
      have HE2 : Hid (sndb (a, b, c) = false) := by show _ = _; rw [HE.out]; exact decide_eq_false (fun q => h1 q.1)
      clear HE h0 h1
      go_enter Try.func19, Try.ntmps19
      go_wp2
      go_ret
      rw [HE2.out]
      exact ⟨rfl, HB.out 0⟩
end Go.Proofs.Ytjldmphfdaoecaa

namespace Go.Proofs.Ytjldmphfdaoecaa
open Go.RowKit Go.Maps
set_option maxRecDepth 20000
set_option linter.unusedVariables false

end Go.Proofs.Ytjldmphfdaoecaa

namespace Go.Proofs.Ytjldmphfdaoecaa
open Go.RowKit Go.Maps
set_option maxRecDepth 20000
set_option linter.unusedVariables false

end Go.Proofs.Ytjldmphfdaoecaa

