import Derived.Test.YtjhgjohnfkgleabHpop
namespace Go.Proofs.Ytjhgjohnfkgleab
set_option maxRecDepth 20000

def drainL : Nat → List (It Int) → List (It Int)
  | 0, _ => []
  | k + 1, R => if R = [] then [] else pt R (fstTo R R.length) :: drainL k (rest R)

def drainAll (R : List (It Int)) : List (It Int) := drainL R.length R

theorem drainAll_nil : drainAll [] = [] := rfl

theorem drainAll_step {R : List (It Int)} (h : R ≠ []) : drainAll R = pt R (fstTo R R.length) :: drainAll (rest R) := by
  have := rest_len h
  unfold drainAll
  obtain ⟨k, hk⟩ : ∃ k, R.length = k + 1 := ⟨R.length - 1, by have := List.length_pos_iff.2 h; omega⟩
  have e : (rest R).length = k := by omega
  rw [e]
  conv => lhs; rw [show drainL R.length R = drainL (k + 1) R by rw [hk]]
  show (if R = [] then [] else _) = _
  rw [if_neg h]

theorem drainAll_perm (R : List (It Int)) : (drainAll R).Perm R := by
  suffices h : ∀ n (R : List (It Int)), R.length = n → (drainAll R).Perm R from h _ R rfl
  intro n
  induction n with
  | zero => intro R h; rw [List.eq_nil_of_length_eq_zero h]; exact List.Perm.refl _
  | succ n ih =>
    intro R h
    have hn : R ≠ [] := fun e => by subst e; simp at h
    have hl := rest_len hn
    rw [drainAll_step hn]
    refine ((ih (rest R) (by omega)).cons _).trans ?_
    exact erase_perm (fstTo_lt R R.length (by omega))

/-- The places, each under its key. -/
def its (keys : List Int) : List (It Int) := (List.range keys.length).map fun i => ⟨keys.getD i 0, i, i⟩

theorem its_len (keys : List Int) : (its keys).length = keys.length := by simp [its]

theorem its_take {keys : List Int} {k : Nat} (h : k < keys.length) : (its keys).take (k + 1) = (its keys).take k ++ [It.mk (keys.getD k 0) (k : Int) (k : Int)] := by
  rw [List.take_succ_eq_append_getElem (by rw [its_len]; exact h)]
  simp [its]

def orderOf (keys : List Int) : List Int := (drainAll (its keys)).map (·.val)

theorem orderOf_len (keys : List Int) : (orderOf keys).length = keys.length := by
  unfold orderOf
  rw [List.length_map, (drainAll_perm _).length_eq, its_len]

theorem take_len (keys : List Int) {k : Nat} (h : k ≤ keys.length) : ((its keys).take k).length = k := by rw [List.length_take, its_len]; omega

theorem its_all (keys : List Int) : (its keys).take keys.length = its keys := List.take_of_length_le (by rw [its_len]; exact Nat.le_refl _)

theorem pkV_eq {R : List (It Int)} (h : R ≠ []) : pkV R = (pt R (fstTo R R.length)).val := by unfold pkV; rw [if_neg h]
theorem pkK_eq {R : List (It Int)} (h : R ≠ []) : pkK R = (pt R (fstTo R R.length)).key := by unfold pkK; rw [if_neg h]

end Go.Proofs.Ytjhgjohnfkgleab
