import Derived.Test.YtecimcpaoobknabGTnm
namespace Go.Proofs.Ytecimcpaoobknab
set_option linter.unusedVariables false

/-- Of equals the first one is kept. -/
theorem pick_first {D : List Int} {i : Nat} : ∀ (r : List Nat) {j : Nat}, j ∈ r → (∀ x ∈ r, x < i) → r.Pairwise (· > ·) → rno D j i = (pick D i r (0, 0)).1 → 0 < rno D j i → (pick D i r (0, 0)).2 ≤ i - j := by
  intro r
  rw [← List.reverse_reverse r]
  generalize r.reverse = q
  induction q with
  | nil => intro j h; simp at h
  | cons k q ih =>
    intro j hj hlt hp he h0
    rw [List.reverse_cons] at hj hlt hp he ⊢
    rw [pick_snoc] at he ⊢
    obtain ⟨p1, p2, p3⟩ := List.pairwise_append.1 hp
    simp only [List.mem_append, List.mem_singleton] at hj
    unfold stp at he ⊢
    by_cases hk : (pick D i q.reverse (0, 0)).1 < rno D k i
    · rw [if_pos hk] at he ⊢
      simp only at he ⊢
      rcases hj with hj | rfl
      · have := pick_ge (D := D) (i := i) q.reverse hj
        omega
      · exact Nat.le_refl _
    · rw [if_neg hk] at he ⊢
      rcases hj with hj | rfl
      · exact ih hj (fun x hx => hlt x (List.mem_append_left _ hx)) p1 he h0
      · rcases pick_in (D := D) (i := i) q.reverse with e | ⟨x, hx, e⟩
        · rw [e] at he; simp only at he; omega
        · have hgt := p3 x hx j (by simp)
          have := congrArg Prod.snd e
          simp only at this
          rw [this]
          omega

theorem cds_down (D : List Int) (i n : Nat) : (cds D i n).Pairwise (· > ·) := by
  unfold cds asc
  rw [List.pairwise_reverse]
  exact List.Pairwise.filter _ (List.pairwise_lt_range' 1 (by omega))

/-- No candidate that counts is better than the best copy. -/
theorem bst_top {D : List Int} {i W C j : Nat} (hji : j < i) (h : i - j ≤ W ∧ Cnd D j i ∧ (asc D i (j + 1) (i - 1 - j)).length < C) : rno D j i ≤ (bst D i W C).1 ∧ (rno D j i = (bst D i W C).1 → (bst D i W C).2 ≤ i - j) := by
  obtain ⟨h1, h2, h3⟩ := h
  rw [between_len hji] at h3
  have hin : j ∈ (cds D i (min i W)).take C := by
    obtain ⟨r, hr⟩ := cds_pre D i (n := i - j) (m := min i W) (by omega) (Nat.min_le_left _ _)
    have e : cds D i (i - j) = cds D i (i - 1 - j) ++ [j] := by
      have := cds_succ D (i := i) (n := i - 1 - j) (by omega)
      rw [show i - 1 - j + 1 = i - j by omega, show i - 1 - (i - 1 - j) = j by omega, if_pos h2] at this
      exact this
    rw [hr, e, List.append_assoc, List.take_append, List.take_of_length_le (by omega)]
    refine List.mem_append_right _ ?_
    obtain ⟨m, hm⟩ : ∃ m, C - (cds D i (i - 1 - j)).length = m + 1 := ⟨C - (cds D i (i - 1 - j)).length - 1, by omega⟩
    rw [hm]
    simp
  refine ⟨pick_ge _ hin, fun e => ?_⟩
  have h0 : 0 < rno D j i := by have := cnd_iff.1 h2; omega
  exact pick_first _ hin (fun x hx => (cds_mem (Nat.min_le_left _ _) (List.mem_of_mem_take hx)).2.1) (List.Pairwise.sublist (List.take_sublist _ _) (cds_down D i _)) e h0
end Go.Proofs.Ytecimcpaoobknab

