import Derived.Test.YtknjblgnjoocbaaDoorGXdp
namespace Go.Proofs.YtknjblgnjoocbaaDoor
open Go.RowKit Go.Maps
set_option maxRecDepth 20000
set_option linter.unusedVariables false
set_option linter.unusedSimpArgs false

def mmg : List Mnd → List Mnd → List Mnd
  | [], p => p
  | a :: w, [] => a :: w
  | a :: w, b :: p => if a.1.1 ≤ b.1.1 then a :: mmg w (b :: p) else b :: mmg (a :: w) p
termination_by w p => w.length + p.length

theorem mmg_row (A B : List Mnd) : mro (mmg A B) = nmg (mro A) (mro B) := by
  induction A, B using mmg.induct with
  | case1 p => simp [mmg, nmg, mro]
  | case2 a w => simp [mmg, nmg, mro]
  | case3 a w b p h ih =>
    have e : mro (a :: w) = a.1 :: mro w := rfl
    have e2 : mro (b :: p) = b.1 :: mro p := rfl
    rw [mmg, if_pos h, e, e2, nmg, if_pos h, ← e2, ← ih]
    rfl
  | case4 a w b p h ih =>
    have e : mro (a :: w) = a.1 :: mro w := rfl
    have e2 : mro (b :: p) = b.1 :: mro p := rfl
    rw [mmg, if_neg h, e, e2, nmg, if_neg h, ← e, ← ih]
    rfl

theorem mmg_nil (A : List Mnd) : mmg A [] = A := by cases A <;> simp [mmg]

theorem mmg_len (A B : List Mnd) : (mmg A B).length = A.length + B.length := by
  induction A, B using mmg.induct with
  | case1 p => simp [mmg]
  | case2 a w => simp [mmg]
  | case3 a w b p h ih => rw [mmg, if_pos h]; simp only [List.length_cons] at ih ⊢; omega
  | case4 a w b p h ih => rw [mmg, if_neg h]; simp only [List.length_cons] at ih ⊢; omega

theorem mmg_mem {A B : List Mnd} {p : Mnd} (h : p ∈ mmg A B) : p ∈ A ∨ p ∈ B := by
  induction A, B using mmg.induct with
  | case1 q => rw [mmg] at h; exact .inr h
  | case2 a w => rw [mmg] at h; exact .inl h
  | case3 a w b q c ih =>
    rw [mmg, if_pos c] at h
    rcases List.mem_cons.1 h with h | h
    · exact .inl (List.mem_cons.2 (.inl h))
    · rcases ih h with h | h
      · exact .inl (List.mem_cons_of_mem _ h)
      · exact .inr h
  | case4 a w b q c ih =>
    rw [mmg, if_neg c] at h
    rcases List.mem_cons.1 h with h | h
    · exact .inr (List.mem_cons.2 (.inl h))
    · rcases ih h with h | h
      · exact .inl h
      · exact .inr (List.mem_cons_of_mem _ h)

theorem mdrop {A : List Mnd} {i : Nat} (h : i < A.length) : A.drop i = A.getD i mn0 :: A.drop (i + 1) := by
  rw [List.drop_eq_getElem_cons h]
  simp [h]

theorem mmg_a {A B : List Mnd} {i j : Nat} (hi : i < A.length) (h : B.length ≤ j ∨ (A.getD i mn0).1.1 ≤ (B.getD j mn0).1.1) : mmg (A.drop i) (B.drop j) = A.getD i mn0 :: mmg (A.drop (i + 1)) (B.drop j) := by
  rw [mdrop hi]
  by_cases hj : j < B.length
  · rw [mdrop hj, mmg, if_pos (h.resolve_left (by omega))]
  · rw [List.drop_of_length_le (l := B) (by omega), mmg_nil, mmg_nil]

theorem mmg_b {A B : List Mnd} {i j : Nat} (hj : j < B.length) (h : A.length ≤ i ∨ (B.getD j mn0).1.1 < (A.getD i mn0).1.1) : mmg (A.drop i) (B.drop j) = B.getD j mn0 :: mmg (A.drop i) (B.drop (j + 1)) := by
  rw [mdrop hj]
  by_cases hi : i < A.length
  · rw [mdrop hi, mmg, if_neg (by have := h.resolve_left (by omega); omega)]
  · rw [List.drop_of_length_le (l := A) (by omega), mmg, mmg]

end Go.Proofs.YtknjblgnjoocbaaDoor

