import Derived.Test.YtgengoffkoonfabQBase
import Derived.Test.YtgengoffkoonfabQHmt
import Derived.BigRegion
namespace Go.Proofs.Ytgengoffkoonfab.H4
open Go.RowKit Go.Maps
set_option maxRecDepth 20000

theorem drew3 (w : World) (a b c : Nat) : ∃ n, ((w.drewN a).drewN b).drewN c = w.drewN n := ⟨a + (b + c), by rw [World.drewN_drewN, World.drewN_drewN]⟩

theorem ahead_raw (w : World) (g b cap i j len : Nat) (ki ti kj tj : Int) (hi : i < len) (hj : j < len) (h0 : w.cell? ⟨g, 0, none⟩ = some (.slice (some ⟨b, 0, none⟩) len cap))
    (c1 : w.cell? ⟨b, i * 3, none⟩ = some (.int .i64 ki)) (c2 : w.cell? ⟨b, i * 3 + 1, none⟩ = some (.int .i64 ti)) (c3 : w.cell? ⟨b, j * 3, none⟩ = some (.int .i64 kj)) (c4 : w.cell? ⟨b, j * 3 + 1, none⟩ = some (.int .i64 tj)) :
    Calls Try.prog 83 #[.pointer (some ⟨g, 0, none⟩), .int .i64 i, .int .i64 j] w fun e w' => e = .returned (.bool (decide (ki < kj ∨ ki = kj ∧ ti < tj))) ∧ ∃ n, w' = w.drewN n := by
  go_enter Try.func83, Try.ntmps83
  go_wp2
  go_quiet (fail)
  go_wp2
  go_quiet (fail)
  by_cases hk : ki = kj
  · subst hk
    go_wp2
    go_quiet (fail)
    go_wp2
    go_ret
    exact ⟨by simp, _, rfl⟩
  · have hk' : (ki != kj) = true := by simpa using hk
    go_wp2
    go_quiet (fail)
    go_wp2
    go_ret
    exact ⟨by simp [hk], drew3 _ _ _ _⟩

theorem swap_raw (w : World) (g b cap i j len : Nat) (ki ti vi kj tj vj : Int) (hi : i < len) (hj : j < len) (h0 : w.cell? ⟨g, 0, none⟩ = some (.slice (some ⟨b, 0, none⟩) len cap))
    (c1 : w.cell? ⟨b, i * 3, none⟩ = some (.int .i64 ki)) (c2 : w.cell? ⟨b, i * 3 + 1, none⟩ = some (.int .i64 ti)) (c3 : w.cell? ⟨b, i * 3 + 2, none⟩ = some (.int .i64 vi)) (d1 : w.cell? ⟨b, j * 3, none⟩ = some (.int .i64 kj)) (d2 : w.cell? ⟨b, j * 3 + 1, none⟩ = some (.int .i64 tj)) (d3 : w.cell? ⟨b, j * 3 + 2, none⟩ = some (.int .i64 vj))
    (hf : ∀ o, w.frozen? ⟨b, o, none⟩ = false) (hij : i ≠ j) :
    Calls Try.prog 84 #[.pointer (some ⟨g, 0, none⟩), .int .i64 i, .int .i64 j] w fun e w' => e = .returned (.tuple #[]) ∧ w' = ((((((w.setCell ⟨b, i * 3, none⟩ (.int .i64 kj)).setCell ⟨b, i * 3 + 1, none⟩ (.int .i64 tj)).setCell ⟨b, i * 3 + 2, none⟩ (.int .i64 vj)).setCell ⟨b, j * 3, none⟩ (.int .i64 ki)).setCell ⟨b, j * 3 + 1, none⟩ (.int .i64 ti)).setCell ⟨b, j * 3 + 2, none⟩ (.int .i64 vi)).drew := by
  have f1 := hf (i * 3)
  have f2 := hf (i * 3 + 1)
  have f3 := hf (i * 3 + 2)
  have f4 := hf (j * 3)
  have f5 := hf (j * 3 + 1)
  have f6 := hf (j * 3 + 2)
  have n0 : ¬ j = i := by omega
  have n1 : ¬ i = j := by omega
  have n2 : ¬ j * 3 = i * 3 + 1 := by omega
  have n3 : ¬ i * 3 = j * 3 + 1 := by omega
  have n4 : ¬ j * 3 = i * 3 + 2 := by omega
  have n5 : ¬ i * 3 = j * 3 + 2 := by omega
  have n6 : ¬ j * 3 + 1 = i * 3 := by omega
  have n7 : ¬ i * 3 + 1 = j * 3 := by omega
  have n8 : ¬ j * 3 + 1 = i * 3 + 2 := by omega
  have n9 : ¬ i * 3 + 1 = j * 3 + 2 := by omega
  have n10 : ¬ j * 3 + 2 = i * 3 := by omega
  have n11 : ¬ i * 3 + 2 = j * 3 := by omega
  have n12 : ¬ j * 3 + 2 = i * 3 + 1 := by omega
  have n13 : ¬ i * 3 + 2 = j * 3 + 1 := by omega
  clear hf hij
  go_enter Try.func84, Try.ntmps84
  go_wp2
  go_region
  exact bodyPost_end (results_none rfl _ _ _) rfl ⟨rfl, rfl⟩

end Go.Proofs.Ytgengoffkoonfab.H4
