import Derived.Test.YtgengoffkoonfabGLgd
import Derived.Test.YtgengoffkoonfabGKr
namespace Go.Proofs.Ytgengoffkoonfab
open Go.RowKit Go.Maps
set_option maxRecDepth 20000
set_option linter.unusedVariables false

theorem dp_order {f : List Int} (hs : Sound f) {s t : Nat} (h1 : s ∈ us f) (h2 : t ∈ us f) (h : f.getD t 0 < f.getD s 0) : dp f s ≤ dp f t := by
  have hne : s ≠ t := fun e => by subst e; omega
  have hu : 2 ≤ (us f).length := by
    apply Classical.byContradiction
    intro c
    obtain ⟨i, hi, ei⟩ := List.getElem_of_mem h1
    obtain ⟨j, hj, ej⟩ := List.getElem_of_mem h2
    obtain rfl : i = j := by omega
    exact hne (ei.symm.trans ej)
  obtain ⟨a, b, c⟩ := dp_facts hs hu
  refine best_order (f := fq f) 60 (us_nodup f) (fun s h => by have := b s h; omega) (Nat.le_of_eq a) (fun o ho hk => c 60 o ho hk) h1 h2 ?_
  have := hs.nn s
  have := hs.nn t
  unfold fq
  omega

theorem lm_order {f : List Int} {L s t : Nat} (h1 : s ∈ us f) (h2 : t ∈ us f) (h : Lf f t s) : lm f L s ≤ lm f L t := by
  by_cases hu : (us f).length = 1
  · rw [lm_one hu h1, lm_one hu h2]; exact Nat.le_refl _
  · have hpos := List.length_pos_of_mem h1
    obtain ⟨j, hj, ej⟩ := List.getElem_of_mem (srl_mem.2 h1)
    obtain ⟨i, hi, ei⟩ := List.getElem_of_mem (srl_mem.2 h2)
    rw [← ej, ← ei, lm_at (by omega) hj, lm_at (by omega) hi]
    refine ct_mono _ ?_
    apply Classical.byContradiction
    intro c
    have := List.pairwise_iff_getElem.1 (srl_srt f).rise j i hj hi (by omega)
    rw [ej, ei] at this
    unfold Lf at this h
    omega
end Go.Proofs.Ytgengoffkoonfab

