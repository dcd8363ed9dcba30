import Derived.Test.YtgengoffkoonfabSm4
import Derived.Test.YtgengoffkoonfabSm5
import Derived.Test.YtgengoffkoonfabInw
namespace Go.Proofs.Ytgengoffkoonfab
open Go.RowKit Go.Maps
set_option maxRecDepth 20000
set_option linter.unusedVariables false

theorem sym_all {w0 : World} {B c : Nat} {p : Value} {f : Int → Int} {D : Int → Prop} (hc : Cmp w0 B p f D) (N : Nat) : SymOk w0 B c p f D N := by
  induction N with
  | zero => intro w A U V Z X a m b hN _ _ _ _ _ _ _ h1; omega
  | succ N ih =>
    intro w A U V Z X a m b hN hX h hD hL ha hm hb h1 h2 hU hV hx
    by_cases c1 : U.length = 1
    · obtain ⟨x, rfl⟩ := List.length_eq_one_iff.1 c1
      have := sym1_any A V Z X x (by rw [hX]; simp [lft]) h hc hD hL a m b ha (by simp at hm; omega) (by simp at hm; omega) hV (fun v hv => hx x (by simp) v hv)
      simpa using this
    · by_cases c2 : V.length = 1
      · obtain ⟨y, rfl⟩ := List.length_eq_one_iff.1 c2
        exact sym2_any A U Z X y (by rw [hX]; simp [lft]) h hc hD hL a m b ha hm (by simp at hb; omega) (by omega) hU (fun u hu => hx u hu y (by simp))
      · by_cases c3 : (a + b) / 2 < m
        · exact sym_step1 hc N ih w A U V Z X a m b hN hX h hD hL ha hm hb (by omega) (by omega) hU hV hx c3
        · exact sym_step2 hc N ih w A U V Z X a m b hN hX h hD hL ha hm hb (by omega) (by omega) hU hV hx c3

/-- The segment from c on, d long. -/
def sg (X : List Int) (c d : Nat) : List Int := (X.drop c).take d

theorem sg_len (X : List Int) (c d : Nat) : (sg X c d).length = min d (X.length - c) := by simp [sg]

theorem sg_cut (X : List Int) (a d : Nat) : X = X.take a ++ (sg X a d ++ X.drop (a + d)) := by
  unfold sg
  rw [← List.drop_drop, List.take_append_drop, List.take_append_drop]

theorem sg_add (X : List Int) (a d e : Nat) : sg X a (d + e) = sg X a d ++ sg X (a + d) e := by
  unfold sg
  rw [← List.drop_drop, List.take_add]

theorem sg_left {X A Y Z : List Int} {c d : Nat} (h : c + d ≤ A.length) : sg (A ++ (Y ++ Z)) c d = sg A c d := by
  unfold sg
  rw [List.drop_append_of_le_length (by omega), List.take_append_of_le_length (by rw [List.length_drop]; omega)]

theorem sg_mid {A Y Z : List Int} : sg (A ++ (Y ++ Z)) A.length Y.length = Y := by
  unfold sg
  rw [List.drop_left, List.take_left]

theorem sg_right {A Y Z : List Int} {c d : Nat} (h : A.length + Y.length ≤ c) : sg (A ++ (Y ++ Z)) c d = sg Z (c - (A.length + Y.length)) d := by
  unfold sg
  have e : A ++ (Y ++ Z) = (A ++ Y) ++ Z := by simp
  rw [e, List.drop_append, List.drop_of_length_le (by simp; omega), List.nil_append, List.length_append]

/-- A segment in order, of what stood there at first. -/
structure Sok (f : Int → Int) (S X : List Int) (c d : Nat) : Prop where
  perm : (sg X c d).Perm (sg S c d)
  rise : (sg X c d).Pairwise (Lx f)

/-- Behind a change of [a, a + d) alone. -/
theorem sok_far {f : Int → Int} {S X T A Y C Z : List Int} {a d c e : Nat} (hX : X = A ++ (C ++ Z)) (hT : T = A ++ (Y ++ Z)) (hY : Y.length = C.length) (ha : a = A.length) (hd : d = C.length) (h : Sok f S X c e) (hf : c + e ≤ a ∨ a + d ≤ c) : Sok f S T c e := by
  have e1 : sg T c e = sg X c e := by
    rw [hX, hT]
    rcases hf with q | q
    · rw [sg_left (X := X) (by omega), sg_left (X := X) (by omega)]
    · rw [sg_right (by omega), sg_right (by omega), hY]
  exact ⟨by rw [e1]; exact h.perm, by rw [e1]; exact h.rise⟩

theorem sok_at {f : Int → Int} {S T A Y Z : List Int} {a d : Nat} (hT : T = A ++ (Y ++ Z)) (ha : a = A.length) (hd : d = Y.length) (hp : Y.Perm (sg S a d)) (hs : Y.Pairwise (Lx f)) : Sok f S T a d := by
  have e1 : sg T a d = Y := by rw [hT, ha, hd]; exact sg_mid
  exact ⟨by rw [e1]; exact hp, by rw [e1]; exact hs⟩

/-- Segments of the first list rise across their border. -/
theorem sg_cross {S : List Int} (h : S.Pairwise (· < ·)) {a d e : Nat} {x y : Int} (hx : x ∈ sg S a d) (hy : y ∈ sg S (a + d) e) : x < y := by
  have h1 : (sg S a (d + e)).Pairwise (· < ·) := (h.sublist (List.drop_sublist _ _)).sublist (List.take_sublist _ _)
  rw [sg_add, List.pairwise_append] at h1
  exact h1.2.2 x hx y hy

theorem sg_rise {S : List Int} (h : S.Pairwise (· < ·)) (a d : Nat) : (sg S a d).Pairwise (· < ·) := (h.sublist (List.drop_sublist _ _)).sublist (List.take_sublist _ _)
end Go.Proofs.Ytgengoffkoonfab
