import Derived.Test.YtdfggdafflkkcaaGLgd
namespace Go.Proofs.Ytdfggdafflkkcaa
set_option maxRecDepth 20000
set_option linter.unusedVariables false

theorem few_us : us [1, 1, 2] = [0, 1, 2] := by decide +kernel

theorem few_srl : srl [1, 1, 2] = [0, 1, 2] := by
  unfold srl
  rw [few_us]
  exact List.mergeSort_of_pairwise (by decide)

theorem few_lws : lws [1, 1, 2] = [1, 1, 2] := by
  unfold lws
  rw [few_srl]
  decide +kernel

theorem few_sel : sel [1, 1, 2] 15 4 = [3, 2, 0, 0, 0, 0, 0, 0, 0, 0, 0, 0, 0, 0, 0] := by
  simp [sel, row, mrg, pks, cnt]

theorem few_lm (s : Nat) : lm [1, 1, 2] 15 s = if s ∈ [0, 1, 2] then ct [3, 2, 0, 0, 0, 0, 0, 0, 0, 0, 0, 0, 0, 0, 0] ([0, 1, 2].idxOf s) else 0 := by
  unfold lm
  rw [few_us, few_srl, few_lws]
  show (if (3 : Nat) = 1 then _ else if s ∈ [0, 1, 2] then ct (sel [1, 1, 2] 15 4) ([0, 1, 2].idxOf s) else 0) = _
  rw [if_neg (by omega), few_sel]

theorem few_l : lmt [1, 1, 2] 15 = [2, 2, 1] := by
  unfold lmt
  simp only [few_lm]
  decide +kernel

end Go.Proofs.Ytdfggdafflkkcaa

