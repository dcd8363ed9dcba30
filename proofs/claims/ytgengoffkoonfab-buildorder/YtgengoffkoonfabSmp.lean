import Derived.Test.YtgengoffkoonfabRot
namespace Go.Proofs.Ytgengoffkoonfab
open Go.RowKit Go.Maps
set_option maxRecDepth 20000
set_option linter.unusedVariables false

/-- Merged: between A and Z stands what stood there, in order. -/
def Mrg (w0 w' : World) (B c : Nat) (A C Z : List Int) (f : Int → Int) : Prop := ∃ Y T : List Int, T = A ++ (Y ++ Z) ∧ Y.Perm C ∧ Y.Pairwise (Lx f) ∧ Srow w0 w' B c T

theorem ins_sorted {f : Int → Int} {U1 U2 : List Int} {y : Int} (h : (U1 ++ U2).Pairwise (Lx f)) (h1 : ∀ u ∈ U1, Lx f u y) (h2 : ∀ u ∈ U2, Lx f y u) : (U1 ++ y :: U2).Pairwise (Lx f) := by
  rw [List.pairwise_append] at h ⊢
  refine ⟨h.1, List.pairwise_cons.2 ⟨h2, h.2.1⟩, fun a ha b hb => ?_⟩
  rcases List.mem_cons.1 hb with rfl | hb
  · exact h1 a ha
  · exact h.2.2 a ha b hb

theorem lx_of {f : Int → Int} {x y : Int} (h : ¬ f y < f x) (hc : f x = f y → x < y) : Lx f x y := by
  unfold Lx
  by_cases e : f x = f y
  · exact .inr ⟨e, hc e⟩
  · exact .inl (by omega)

/-- Sorted: f does not fall. -/
theorem mono_of {f : Int → Int} {V : List Int} (h : V.Pairwise (Lx f)) {s t : Nat} (hst : s ≤ t) (ht : t < V.length) : f (V.getD s 0) ≤ f (V.getD t 0) := by
  by_cases e : s = t
  · subst e; exact Int.le_refl _
  · have := List.pairwise_iff_getElem.1 h s t (by omega) ht (by omega)
    rw [show V.getD s 0 = V[s]'(by omega) by simp [show s < V.length by omega], show V.getD t 0 = V[t] by simp [ht]]
    unfold Lx at this
    omega

theorem take_all {V : List Int} {P : Int → Prop} {k : Nat} (hk : k ≤ V.length) (h : ∀ t, t < k → P (V.getD t 0)) : ∀ v ∈ V.take k, P v := by
  intro v hv
  obtain ⟨i, hi, rfl⟩ := List.getElem_of_mem hv
  have hi2 : i < k := by rw [List.length_take] at hi; omega
  have := h i hi2
  rw [List.getElem_take]
  rwa [show V.getD i 0 = V[i]'(by omega) by simp [show i < V.length by omega]] at this

theorem drop_all {V : List Int} {P : Int → Prop} {k : Nat} (h : ∀ t, k ≤ t → t < V.length → P (V.getD t 0)) : ∀ v ∈ V.drop k, P v := by
  intro v hv
  obtain ⟨i, hi, rfl⟩ := List.getElem_of_mem hv
  rw [List.length_drop] at hi
  have := h (k + i) (by omega) (by omega)
  rw [List.getElem_drop]
  rwa [show V.getD (k + i) 0 = V[k + i]'(by omega) by simp [show k + i < V.length by omega]] at this

theorem half_i64 {s : Nat} (h : s ≤ 1000) : s / 2 ≤ s := Nat.div_le_self _ _

/-- The one on the left has found its place. -/
def lft (A V Z : List Int) (x : Int) (r : Nat) : List Int := A ++ (V.take r ++ x :: (V.drop r ++ Z))

theorem lft_len (A V Z : List Int) (x : Int) (r : Nat) : (lft A V Z x r).length = A.length + 1 + V.length + Z.length := by
  simp [lft]; omega

theorem lft_step (A V Z : List Int) (x : Int) (r : Nat) (hr : r < V.length) : swp (lft A V Z x r) (A.length + r) (A.length + r + 1) = lft A V Z x (r + 1) := by
  unfold lft
  rw [List.drop_eq_getElem_cons hr, List.take_succ_eq_append_getElem hr]
  have e := swp_two (A ++ V.take r) [] (V.drop (r + 1) ++ Z) x V[r] (A.length + r) (A.length + r + 1) (by simp; omega) (by simp; omega)
  simp only [List.append_assoc, List.cons_append, List.nil_append] at e ⊢
  exact e

theorem lft_get0 (A V Z : List Int) (x : Int) : (lft A V Z x 0).getD A.length 0 = x := by
  unfold lft
  exact getD_app A x _ 0

theorem lft_get (A V Z : List Int) (x : Int) {t : Nat} (ht : t < V.length) : (lft A V Z x 0).getD (A.length + 1 + t) 0 = V.getD t 0 := by
  unfold lft
  rw [List.getD_eq_getElem?_getD, List.getElem?_append_right (by omega), show A.length + 1 + t - A.length = t + 1 by omega]
  simp only [List.take_zero, List.nil_append, List.drop_zero, List.getElem?_cons_succ]
  rw [List.getElem?_append_left ht, ← List.getD_eq_getElem?_getD]

/-- Likewise the one on the right. -/
def rgt (A U Z : List Int) (y : Int) (r : Nat) : List Int := A ++ (U.take r ++ y :: (U.drop r ++ Z))

theorem rgt_step (A U Z : List Int) (y : Int) (r : Nat) (hr : r < U.length) : swp (lft A U Z y (r + 1)) (A.length + r + 1) (A.length + r) = lft A U Z y r := by
  rw [swp_comm _ _ _ (by omega)]
  unfold lft
  rw [List.drop_eq_getElem_cons hr, List.take_succ_eq_append_getElem hr]
  have e := swp_two (A ++ U.take r) [] (U.drop (r + 1) ++ Z) U[r] y (A.length + r) (A.length + r + 1) (by simp; omega) (by simp; omega)
  simp only [List.append_assoc, List.cons_append, List.nil_append] at e ⊢
  exact e

theorem rgt_get (A U Z : List Int) (y : Int) : (lft A U Z y U.length).getD (A.length + U.length) 0 = y ∧ ∀ t, t < U.length → (lft A U Z y U.length).getD (A.length + t) 0 = U.getD t 0 := by
  unfold lft
  rw [List.take_of_length_le (Nat.le_refl _)]
  refine ⟨?_, fun t ht => ?_⟩
  · have := getD_app (A ++ U) y (U.drop U.length ++ Z) 0
    rw [List.length_append] at this
    rw [← this]
    simp
  · rw [List.getD_eq_getElem?_getD, List.getElem?_append_right (by omega), Nat.add_sub_cancel_left, List.getElem?_append_left ht, ← List.getD_eq_getElem?_getD]

theorem lft_mem {A V Z : List Int} {x : Int} {r : Nat} {y : Int} : y ∈ lft A V Z x r ↔ y ∈ A ∨ y = x ∨ y ∈ V ∨ y ∈ Z := by
  unfold lft
  simp only [List.mem_append, List.mem_cons]
  have : y ∈ V ↔ y ∈ V.take r ∨ y ∈ V.drop r := by rw [← List.mem_append, List.take_append_drop]
  rw [this]
  constructor
  · rintro (h | h | h | h | h)
    · exact .inl h
    · exact .inr (.inr (.inl (.inl h)))
    · exact .inr (.inl h)
    · exact .inr (.inr (.inl (.inr h)))
    · exact .inr (.inr (.inr h))
  · rintro (h | h | (h | h) | h)
    · exact .inl h
    · exact .inr (.inr (.inl h))
    · exact .inr (.inl h)
    · exact .inr (.inr (.inr (.inl h)))
    · exact .inr (.inr (.inr (.inr h)))

theorem mrg_lft {w0 w : World} {B c : Nat} {A V Z : List Int} {x : Int} {k : Nat} {f : Int → Int} (h : Srow w0 w B c (lft A V Z x k)) (hs : V.Pairwise (Lx f)) (h1 : ∀ v ∈ V.take k, Lx f v x) (h2 : ∀ v ∈ V.drop k, Lx f x v) : Mrg w0 w B c A (x :: V) Z f := by
  refine ⟨V.take k ++ x :: V.drop k, _, by simp [lft], ?_, ins_sorted (by rw [List.take_append_drop]; exact hs) h1 h2, h⟩
  have := List.perm_middle (a := x) (l₁ := V.take k) (l₂ := V.drop k)
  rwa [List.take_append_drop] at this
end Go.Proofs.Ytgengoffkoonfab
