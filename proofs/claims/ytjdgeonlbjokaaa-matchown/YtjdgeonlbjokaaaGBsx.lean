import Derived.Test.YtjdgeonlbjokaaaGBn
namespace Go.Proofs.Ytjdgeonlbjokaaa
set_option linter.unusedVariables false

/-- A candidate that counts: fewer than so many are nearer. -/
theorem near_counts {D : List Int} {i n C j : Nat} (hn : n ≤ i) (h : j ∈ (cds D i n).take C) : (cds D i (i - 1 - j)).length < C := by
  have hm := cds_mem hn (List.mem_of_mem_take h)
  obtain ⟨r, hr⟩ := cds_pre D i (n := i - 1 - j) (m := n) (by omega) hn
  apply Classical.byContradiction
  intro q
  rw [hr, List.take_append_of_le_length (by omega)] at h
  have := cds_mem (by omega) (List.mem_of_mem_take h)
  omega

theorem sub_take {D : List Int} {i W W' C C' j : Nat} (hW : W ≤ W') (hC : C ≤ C') (h : j ∈ (cds D i (min i W)).take C) : j ∈ (cds D i (min i W')).take C' := by
  obtain ⟨r, hr⟩ := cds_pre D i (n := min i W) (m := min i W') (by omega) (Nat.min_le_left _ _)
  have h1 : j ∈ ((cds D i (min i W)).take C') := by
    have : (cds D i (min i W)).take C = ((cds D i (min i W)).take C').take C := by rw [List.take_take, Nat.min_eq_left hC]
    rw [this] at h
    exact List.mem_of_mem_take h
  rw [hr, List.take_append]
  exact List.mem_append_left _ h1

theorem bst_wider {D : List Int} {i W W' C C' : Nat} (hW : W ≤ W') (hC : C ≤ C') : (bst D i W C).1 ≤ (bst D i W' C').1 := by
  rcases bst_in D i W C with h | ⟨j, hj, h⟩
  · rw [h]; exact Nat.zero_le _
  · have e := congrArg Prod.fst h
    simp only at e
    have q := pick_ge (D := D) (i := i) ((cds D i (min i W')).take C') (sub_take hW hC hj)
    unfold bst at e ⊢
    rw [e]
    exact q

/-- The candidates between two places: their number. -/
theorem between_len {D : List Int} {i j : Nat} (h : j < i) : (asc D i (j + 1) (i - 1 - j)).length = (cds D i (i - 1 - j)).length := by
  unfold cds
  rw [List.length_reverse, show i - (i - 1 - j) = j + 1 by omega]
end Go.Proofs.Ytjdgeonlbjokaaa

