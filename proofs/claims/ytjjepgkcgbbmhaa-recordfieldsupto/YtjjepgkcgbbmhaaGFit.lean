import Derived.Test.YtjjepgkcgbbmhaaGRe
import Derived.Test.YtjjepgkcgbbmhaaGCnn
namespace Go.Proofs.Ytjjepgkcgbbmhaa
open Go.RowKit Go.Maps
set_option maxRecDepth 20000
set_option linter.unusedVariables false
set_option linter.unusedSimpArgs false

theorem is16_yes {v : Int} (h : ¬ wide v 2) (w : World) : Calls Try.prog 11 #[.int .i64 v] w fun e w' => e = .returned (.bool true) ∧ w' = w := by
  unfold wide at h
  have h0 : 0 ≤ v := by omega
  have h1 : v ≤ 65535 := by omega
  clear h
  go_enter Try.func11, Try.ntmps11
  go_wp2
  go_ret
  exact ⟨rfl, rfl⟩

theorem is16_no {v : Int} (h : wide v 2) (w : World) : Calls Try.prog 11 #[.int .i64 v] w fun e w' => e = .returned (.bool false) ∧ w' = w := by
  unfold wide at h
  by_cases h0 : v < 0
  · have h1 : ¬ (0 ≤ v) := by omega
    clear h
    go_enter Try.func11, Try.ntmps11
    go_wp2
    go_ret
    exact ⟨rfl, rfl⟩
  · have h1 : 0 ≤ v := by omega
    have h2 : ¬ (v ≤ 65535) := by omega
    clear h
    go_enter Try.func11, Try.ntmps11
    go_wp2
    go_ret
    exact ⟨rfl, rfl⟩

theorem is32_yes {v : Int} (h : ¬ wide v 4) (w : World) : Calls Try.prog 8 #[.int .i64 v] w fun e w' => e = .returned (.bool true) ∧ w' = w := by
  unfold wide at h
  have h0 : 0 ≤ v := by omega
  have h1 : v ≤ 4294967295 := by omega
  clear h
  go_enter Try.func8, Try.ntmps8
  go_wp2
  go_ret
  exact ⟨rfl, rfl⟩

theorem is32_no {v : Int} (h : wide v 4) (w : World) : Calls Try.prog 8 #[.int .i64 v] w fun e w' => e = .returned (.bool false) ∧ w' = w := by
  unfold wide at h
  by_cases h0 : v < 0
  · have h1 : ¬ (0 ≤ v) := by omega
    clear h
    go_enter Try.func8, Try.ntmps8
    go_wp2
    go_ret
    exact ⟨rfl, rfl⟩
  · have h1 : 0 ≤ v := by omega
    have h2 : ¬ (v ≤ 4294967295) := by omega
    clear h
    go_enter Try.func8, Try.ntmps8
    go_wp2
    go_ret
    exact ⟨rfl, rfl⟩

end Go.Proofs.Ytjjepgkcgbbmhaa

