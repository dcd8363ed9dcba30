import Derived.Test.YtecimcpaoobknaaGTnm
namespace Go.Proofs.Ytecimcpaoobknaa
set_option linter.unusedVariables false

theorem rep_get {n k : Nat} {b : Int} (h : k < n) : (List.replicate n b).getD k 0 = b := by simp [h]

theorem rep_rno {n : Nat} {b : Int} {j i : Nat} (hji : j < i) (hi : i < n) : rno (List.replicate n b) j i = min 258 (n - i) := by
  have h1 := rno_le (List.replicate n b) j i
  have h2 := rno_len (D := List.replicate n b) (j := j) (i := i) (by simpa using hi)
  rw [List.length_replicate] at h2
  have h3 : min 258 (n - i) ≤ rno (List.replicate n b) j i := rno_iff.2 ⟨by omega, fun k hk => ⟨by rw [List.length_replicate]; omega, by rw [rep_get (by omega), rep_get (by omega)]⟩⟩
  omega

theorem rep_cnd {n : Nat} {b : Int} {j i : Nat} (hji : j < i) : Cnd (List.replicate n b) j i ↔ i + 3 ≤ n := by
  unfold Cnd
  rw [List.length_replicate]
  refine ⟨fun h => by omega, fun h => ⟨by omega, ?_, ?_, ?_⟩⟩
  · rw [rep_get (by omega), rep_get (by omega)]
  · rw [rep_get (by omega), rep_get (by omega)]
  · rw [rep_get (by omega), rep_get (by omega)]

theorem rep_bst {n : Nat} {b : Int} {i W C : Nat} (hW : 1 ≤ W) (hC : 1 ≤ C) : bst (List.replicate n b) i W C = if 0 < i ∧ i + 3 ≤ n then (min 258 (n - i), 1) else (0, 0) := by
  by_cases h : 0 < i ∧ i + 3 ≤ n
  · rw [if_pos h]
    obtain ⟨r, hr⟩ := cds_pre (List.replicate n b) i (n := 1) (m := min i W) (by omega) (Nat.min_le_left _ _)
    have e : cds (List.replicate n b) i 1 = [i - 1] := by
      have := cds_succ (List.replicate n b) (i := i) (n := 0) (by omega)
      rw [cds_zero, Nat.sub_zero, if_pos ((rep_cnd (by omega)).2 h.2)] at this
      exact this
    obtain ⟨c, hc⟩ : ∃ c, C = c + 1 := ⟨C - 1, by omega⟩
    have hm : ∀ j ∈ (cds (List.replicate n b) i (min i W)).take C, rno (List.replicate n b) j i = min 258 (n - i) := fun j hj => rep_rno (cds_mem (Nat.min_le_left _ _) (List.mem_of_mem_take hj)).2.1 (by omega)
    unfold bst
    have hl : (cds (List.replicate n b) i (min i W)).take C = (i - 1) :: (r.take c) := by rw [hr, e, hc]; rfl
    rw [hl] at hm ⊢
    rw [pick_cons]
    have hs : stp (List.replicate n b) i (0, 0) (i - 1) = (min 258 (n - i), 1) := by
      unfold stp
      rw [hm (i - 1) List.mem_cons_self, if_pos (by simp only; omega), show i - (i - 1) = 1 by omega]
    rw [hs]
    exact pick_stay _ _ fun j hj => by rw [hm j (List.mem_cons_of_mem _ hj)]; exact Nat.le_refl _
  · rw [if_neg h]
    rcases bst_facts (D := List.replicate n b) (i := i) (W := W) (C := C) with e | ⟨j, h1, h2, h3, _⟩
    · exact e
    · exact absurd ⟨by omega, (rep_cnd h1).1 h3⟩ h

/-- The token at a place of n bytes of one value. -/
theorem rep_tok {n : Nat} {b : Int} {i W C : Nat} {z : Bool} (hW : 1 ≤ W) (hC : 1 ≤ C) (hi : i < n) : tok (List.replicate n b) W C z i = if 0 < i ∧ i + 3 ≤ n then (((min 258 (n - i) : Nat) : Int), 1, 0) else (0, 0, b) := by
  by_cases h : 0 < i ∧ i + 3 ≤ n
  · rw [if_pos h]
    have e := rep_bst (n := n) (b := b) (i := i) hW hC
    rw [if_pos h] at e
    have e2 := rep_bst (n := n) (b := b) (i := i + 1) hW hC
    have hl : ¬ Lit (List.replicate n b) W C z i := by
      rintro (q | ⟨_, _, q⟩)
      · rw [e] at q; simp only at q; omega
      · rw [e, e2] at q
        by_cases h3 : 0 < i + 1 ∧ i + 1 + 3 ≤ n
        · rw [if_pos h3] at q; simp only at q; omega
        · rw [if_neg h3] at q; simp only at q; omega
    rw [tok_cpy hl, e]
    rfl
  · rw [if_neg h]
    have e := rep_bst (n := n) (b := b) (i := i) hW hC
    rw [if_neg h] at e
    rw [tok_lit (.inl (by rw [e])), rep_get hi]
end Go.Proofs.Ytecimcpaoobknaa

