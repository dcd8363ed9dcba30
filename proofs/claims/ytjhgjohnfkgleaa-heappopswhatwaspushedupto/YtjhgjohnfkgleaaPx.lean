import Derived.Test.YtjhgjohnfkgleaaBase
import Derived.Test.YtjhgjohnfkgleaaHmt
import Derived.Test.YtjhgjohnfkgleaaHrep
import Derived.BigRegion
namespace Go.Proofs.Ytjhgjohnfkgleaa
namespace Pp
open Go.RowKit Go.Maps
set_option maxRecDepth 20000

theorem drew3 (w : World) (a b c : Nat) : ∃ n, ((w.drewN a).drewN b).drewN c = w.drewN n := ⟨a + (b + c), by rw [World.drewN_drewN, World.drewN_drewN]⟩

theorem ahead_raw (w : World) (g b cap i j len : Nat) (ki ti kj tj : Int) (hi : i < len) (hj : j < len) (h0 : w.cell? ⟨g, 0, none⟩ = some (.slice (some ⟨b, 0, none⟩) len cap))
    (c1 : w.cell? ⟨b, i * 4, none⟩ = some (.int .i64 ki)) (c2 : w.cell? ⟨b, i * 4 + 1, none⟩ = some (.int .i64 ti)) (c3 : w.cell? ⟨b, j * 4, none⟩ = some (.int .i64 kj)) (c4 : w.cell? ⟨b, j * 4 + 1, none⟩ = some (.int .i64 tj)) :
    Calls Try.prog 44 #[.pointer (some ⟨g, 0, none⟩), .int .i64 i, .int .i64 j] w fun e w' => e = .returned (.bool (decide (ki < kj ∨ ki = kj ∧ ti < tj))) ∧ ∃ n, w' = w.drewN n := by
  go_enter Try.func44, Try.ntmps44
  go_wp2
  go_quiet (fail)
  go_wp2
  go_quiet (fail)
  by_cases hk : ki = kj
  · subst hk
    go_wp2
    go_quiet (fail)
    go_wp2
    go_ret
    exact ⟨by simp, _, rfl⟩
  · have hk' : (ki != kj) = true := by simpa using hk
    go_wp2
    go_quiet (fail)
    go_wp2
    go_ret
    exact ⟨by simp [hk], drew3 _ _ _ _⟩

theorem swap_raw (w : World) (g b cap i j len : Nat) (nm : ByteArray) (ki ti vi kj tj vj : Int) (hi : i < len) (hj : j < len) (h0 : w.cell? ⟨g, 0, none⟩ = some (.slice (some ⟨b, 0, none⟩) len cap))
    (c1 : w.cell? ⟨b, i * 4, none⟩ = some (.int .i64 ki)) (c2 : w.cell? ⟨b, i * 4 + 1, none⟩ = some (.int .i64 ti)) (c3 : w.cell? ⟨b, i * 4 + 2, none⟩ = some (.string nm)) (c4 : w.cell? ⟨b, i * 4 + 3, none⟩ = some (.int .i64 vi)) (d1 : w.cell? ⟨b, j * 4, none⟩ = some (.int .i64 kj)) (d2 : w.cell? ⟨b, j * 4 + 1, none⟩ = some (.int .i64 tj)) (d3 : w.cell? ⟨b, j * 4 + 2, none⟩ = some (.string nm)) (d4 : w.cell? ⟨b, j * 4 + 3, none⟩ = some (.int .i64 vj))
    (hf : ∀ o, w.frozen? ⟨b, o, none⟩ = false) (hij : i ≠ j) :
    Calls Try.prog 45 #[.pointer (some ⟨g, 0, none⟩), .int .i64 i, .int .i64 j] w fun e w' => e = .returned (.tuple #[]) ∧ w' = ((((((((w.setCell ⟨b, i * 4, none⟩ (.int .i64 kj)).setCell ⟨b, i * 4 + 1, none⟩ (.int .i64 tj)).setCell ⟨b, i * 4 + 2, none⟩ (.string nm)).setCell ⟨b, i * 4 + 3, none⟩ (.int .i64 vj)).setCell ⟨b, j * 4, none⟩ (.int .i64 ki)).setCell ⟨b, j * 4 + 1, none⟩ (.int .i64 ti)).setCell ⟨b, j * 4 + 2, none⟩ (.string nm)).setCell ⟨b, j * 4 + 3, none⟩ (.int .i64 vi)).drew := by
  have f1 := hf (i * 4)
  have f2 := hf (i * 4 + 1)
  have f3 := hf (i * 4 + 2)
  have f4 := hf (i * 4 + 3)
  have f5 := hf (j * 4)
  have f6 := hf (j * 4 + 1)
  have f7 := hf (j * 4 + 2)
  have f8 := hf (j * 4 + 3)
  have n0 : ¬ j = i := by omega
  have n1 : ¬ i = j := by omega
  have n2 : ¬ i * 4 = j * 4 + 1 := by omega
  have n3 : ¬ j * 4 = i * 4 + 1 := by omega
  have n4 : ¬ i * 4 = j * 4 + 2 := by omega
  have n5 : ¬ j * 4 = i * 4 + 2 := by omega
  have n6 : ¬ i * 4 = j * 4 + 3 := by omega
  have n7 : ¬ j * 4 = i * 4 + 3 := by omega
  have n8 : ¬ i * 4 + 1 = j * 4 := by omega
  have n9 : ¬ j * 4 + 1 = i * 4 := by omega
  have n10 : ¬ i * 4 + 1 = j * 4 + 2 := by omega
  have n11 : ¬ j * 4 + 1 = i * 4 + 2 := by omega
  have n12 : ¬ i * 4 + 1 = j * 4 + 3 := by omega
  have n13 : ¬ j * 4 + 1 = i * 4 + 3 := by omega
  have n14 : ¬ i * 4 + 2 = j * 4 := by omega
  have n15 : ¬ j * 4 + 2 = i * 4 := by omega
  have n16 : ¬ i * 4 + 2 = j * 4 + 1 := by omega
  have n17 : ¬ j * 4 + 2 = i * 4 + 1 := by omega
  have n18 : ¬ i * 4 + 2 = j * 4 + 3 := by omega
  have n19 : ¬ j * 4 + 2 = i * 4 + 3 := by omega
  have n20 : ¬ i * 4 + 3 = j * 4 := by omega
  have n21 : ¬ j * 4 + 3 = i * 4 := by omega
  have n22 : ¬ i * 4 + 3 = j * 4 + 1 := by omega
  have n23 : ¬ j * 4 + 3 = i * 4 + 1 := by omega
  have n24 : ¬ i * 4 + 3 = j * 4 + 2 := by omega
  have n25 : ¬ j * 4 + 3 = i * 4 + 2 := by omega
  clear hf hij
  go_enter Try.func45, Try.ntmps45
  go_wp2
  go_region
  exact bodyPost_end (results_none rfl _ _ _) rfl ⟨rfl, rfl⟩

end Pp
end Go.Proofs.Ytjhgjohnfkgleaa
