import Derived.Test.YtgengoffkoonfabSmp
namespace Go.Proofs.Ytgengoffkoonfab
open Go.RowKit Go.Maps
set_option maxRecDepth 20000
set_option linter.unusedVariables false

/-- The one that goes in has passed all of Y2. -/
theorem ins_step (A Y1 Y2 Z : List Int) (x y : Int) (i : Nat) (hi : i = A.length + Y1.length + 1) : swp (A ++ ((Y1 ++ [y]) ++ x :: (Y2 ++ Z))) i (i - 1) = A ++ (Y1 ++ x :: ((y :: Y2) ++ Z)) := by
  rw [swp_comm _ _ _ (by omega)]
  have e := swp_two (A ++ Y1) [] (Y2 ++ Z) y x (i - 1) i (by simp; omega) (by simp; omega)
  simp only [List.append_assoc, List.cons_append, List.nil_append] at e ⊢
  exact e

/-- Inserting under way: Y = Y1 ++ Y2 is in order, x stands between and is ahead of all of Y2. -/
structure Insr (f : Int → Int) (A Z Y : List Int) (x : Int) (j : Nat) (X : List Int) : Prop where
  ex : ∃ Y1 Y2, Y = Y1 ++ Y2 ∧ X = A ++ (Y1 ++ x :: (Y2 ++ Z)) ∧ j = A.length + Y1.length ∧ ∀ y ∈ Y2, f x < f y

theorem insr_len {f : Int → Int} {A Z Y X : List Int} {x : Int} {j : Nat} (h : Insr f A Z Y x j X) : X.length = A.length + 1 + Y.length + Z.length ∧ A.length ≤ j ∧ j ≤ A.length + Y.length := by
  obtain ⟨Y1, Y2, e1, e2, e3, _⟩ := h.ex
  rw [e1, e2, e3]
  refine ⟨by simp; omega, by omega, by simp⟩

theorem insr_get {f : Int → Int} {A Z Y X : List Int} {x : Int} {j : Nat} (h : Insr f A Z Y x (j + 1) X) (hj : A.length ≤ j) : X.getD (j + 1) 0 = x ∧ X.getD j 0 ∈ Y ∧ (f x < f (X.getD j 0) → Insr f A Z Y x j (swp X (j + 1) j)) := by
  obtain ⟨Y1, Y2, e1, e2, e3, e4⟩ := h.ex
  have hne : Y1 ≠ [] := fun e => by rw [e] at e3; simp at e3; omega
  obtain ⟨Y0, y, rfl⟩ : ∃ Y0 y, Y1 = Y0 ++ [y] := ⟨Y1.dropLast, Y1.getLast hne, (List.dropLast_concat_getLast hne).symm⟩
  have hjl : j = A.length + Y0.length := by simp at e3; omega
  have g1 : X.getD (j + 1) 0 = x := by
    rw [e2]
    have := getD_app (A ++ (Y0 ++ [y])) x (Y2 ++ Z) 0
    have e5 : A ++ (Y0 ++ [y] ++ x :: (Y2 ++ Z)) = A ++ (Y0 ++ [y]) ++ x :: (Y2 ++ Z) := by simp
    rw [e5, show j + 1 = (A ++ (Y0 ++ [y])).length by simp; omega]
    exact this
  have g2 : X.getD j 0 = y := by
    rw [e2]
    have := getD_app (A ++ Y0) y (x :: (Y2 ++ Z)) 0
    have e5 : A ++ (Y0 ++ [y] ++ x :: (Y2 ++ Z)) = A ++ Y0 ++ y :: (x :: (Y2 ++ Z)) := by simp
    rw [e5, show j = (A ++ Y0).length by simp; omega]
    exact this
  refine ⟨g1, by rw [g2, e1]; simp, fun hlt => ?_⟩
  rw [g2] at hlt
  refine ⟨Y0, y :: Y2, by rw [e1]; simp, ?_, hjl, fun z hz => ?_⟩
  · rw [e2]
    have := ins_step A Y0 Y2 Z x y (j + 1) (by omega)
    simpa using this
  · rcases List.mem_cons.1 hz with rfl | hz
    · exact hlt
    · exact e4 z hz

theorem insr_done {f : Int → Int} {A Z Y X : List Int} {x : Int} {j : Nat} (h : Insr f A Z Y x j X) (hs : Y.Pairwise (Lx f)) (hx : ∀ y ∈ Y, y < x) (hend : j = A.length ∨ ∃ k, j = k + 1 ∧ A.length ≤ k ∧ ¬ f x < f (X.getD k 0)) :
    ∃ Y', X = A ++ (Y' ++ Z) ∧ Y'.Perm (Y ++ [x]) ∧ Y'.Pairwise (Lx f) := by
  obtain ⟨Y1, Y2, e1, e2, e3, e4⟩ := h.ex
  refine ⟨Y1 ++ x :: Y2, by rw [e2]; simp, ?_, ?_⟩
  · rw [e1]
    exact List.perm_middle.trans ((List.perm_append_comm (l₁ := [x]) (l₂ := Y1 ++ Y2)))
  · refine ins_sorted (by rw [← e1]; exact hs) (fun y hy => ?_) fun y hy => .inl (e4 y hy)
    rcases hend with e | ⟨k, e, hk, hn⟩
    · exfalso
      have : Y1.length = 0 := by omega
      rw [List.eq_nil_of_length_eq_zero this] at hy
      simp at hy
    · have hne : Y1 ≠ [] := fun e' => by rw [e'] at hy; simp at hy
      obtain ⟨Y0, z, rfl⟩ : ∃ Y0 y, Y1 = Y0 ++ [y] := ⟨Y1.dropLast, Y1.getLast hne, (List.dropLast_concat_getLast hne).symm⟩
      have g2 : X.getD k 0 = z := by
        rw [e2]
        have := getD_app (A ++ Y0) z (x :: (Y2 ++ Z)) 0
        have hk0 : k = A.length + Y0.length := by simp at e3; omega
        have e5 : A ++ (Y0 ++ [z] ++ x :: (Y2 ++ Z)) = A ++ Y0 ++ z :: (x :: (Y2 ++ Z)) := by simp
        rw [e5, show k = (A ++ Y0).length by simp; omega]
        exact this
      rw [g2] at hn
      have hyz : f y ≤ f z := by
        rcases List.mem_append.1 hy with q | q
        · have hs' := hs
          rw [e1, List.append_assoc, List.pairwise_append] at hs'
          have := hs'.2.2 y q z (by simp)
          unfold Lx at this
          omega
        · simp at q; rw [q]; exact Int.le_refl _
      exact lx_of (by omega) fun _ => hx y (by rw [e1]; exact List.mem_append_left _ hy)
end Go.Proofs.Ytgengoffkoonfab
