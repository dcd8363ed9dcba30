import Derived.Test.YtdfggdafflkkcaaGAso
namespace Go.Proofs.Ytdfggdafflkkcaa
open Go.RowKit Go.Maps
set_option maxRecDepth 20000
set_option linter.unusedVariables false
set_option linter.unusedSimpArgs false

theorem usk_count (l : List Int) (k : Nat) (hk : k ≤ l.length) : (usk l k).length = (l.take k).countP fun x => decide (0 < x) := by
  induction k with
  | zero => simp [usk]
  | succ k ih =>
    have e : l.take (k + 1) = l.take k ++ [l.getD k 0] := by
      rw [List.take_add_one, List.getElem?_eq_getElem (by omega)]
      simp [List.getD, List.getElem?_eq_getElem (show k < l.length by omega)]
    rw [e, List.countP_append, ← ih (by omega)]
    rw [usk_succ, List.length_append]
    by_cases c : 0 < l.getD k 0
    · rw [if_pos c]; simp only [List.countP_cons, List.countP_nil, c, decide_true]; rfl
    · rw [if_neg c]; simp only [List.countP_cons, List.countP_nil, c, decide_false]; rfl

theorem us_rev (l : List Int) : (us l.reverse).length = (us l).length := by
  unfold us
  rw [usk_count _ _ (Nat.le_refl _), usk_count _ _ (Nat.le_refl _), List.take_length, List.take_length, List.countP_reverse]

theorem getD_rev {l : List Int} {i : Nat} (hi : i < l.length) : l.reverse.getD i 0 = l.getD (l.length - 1 - i) 0 := by
  simp [List.getD, List.getElem?_reverse hi]

theorem sound_rev {f : List Int} (hs : Sound f) : Sound f.reverse := by
  refine ⟨by rw [List.length_reverse]; exact hs.len, fun i hi => ?_⟩
  rw [List.length_reverse] at hi
  rw [getD_rev hi]
  exact hs.ok _ (by omega)

theorem cst_gd {f n : List Int} {lim : Int} (hs : Sound f) (h : Gd f n lim) : cstE f n = 0 := by
  unfold cstE
  rw [if_neg, if_neg (by rw [bnb_iff.2 hs.ok]; decide)]
  rintro (q | q | q)
  · have := hs.len; omega
  · exact q h.len
  · have hb : bnb n 288 = true := bnb_iff.2 fun i hi => by have := h.at hs i; omega
    rw [hb] at q
    cases q

theorem set_turn {A : List Int} {k : Nat} {B : List Int} (hl : B.length = A.length) (hk : k < A.length) : (B.take k ++ A.drop k).set k (B.getD k 0) = B.take (k + 1) ++ A.drop (k + 1) := by
  have e1 : (B.take k).length = k := by rw [List.length_take]; omega
  have e2 : B.take (k + 1) = B.take k ++ [B.getD k 0] := by
    rw [List.take_add_one, List.getElem?_eq_getElem (by omega)]
    simp [List.getD, List.getElem?_eq_getElem (show k < B.length by omega)]
  rw [List.set_append_right _ _ (by omega), e1, Nat.sub_self, List.drop_eq_getElem_cons hk, List.set_cons_zero, e2, List.append_assoc]
  rfl

theorem few_c1 : cstV [1, 1, 2] [2, 2, 1] = 6 ∧ cstE [1, 1, 2] [2, 2, 1] = 0 := by decide +kernel
theorem few_c2 : cstV [5, 1, 2] [2, 2, 1] = 14 ∧ cstE [5, 1, 2] [2, 2, 1] = 0 := by decide +kernel
theorem few_c3 : cstV [5, 1, 2] [2, 2, 2] = 16 ∧ cstE [5, 1, 2] [2, 2, 2] = 0 := by decide +kernel
end Go.Proofs.Ytdfggdafflkkcaa

