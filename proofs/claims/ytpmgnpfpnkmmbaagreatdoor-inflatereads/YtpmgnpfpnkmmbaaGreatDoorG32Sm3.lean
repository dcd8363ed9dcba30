import Derived.Test.YtpmgnpfpnkmmbaaGreatDoorG31Rot
namespace Go.Proofs.YtpmgnpfpnkmmbaaGreatDoor
open Go.RowKit Go.Maps
set_option maxRecDepth 20000
set_option linter.unusedVariables false

/-- Merged: between A and Z stands what stood there, in order. -/
def Mrg (w0 w' : World) (B c : Nat) (A C Z : List Int) (f : Int → Int) : Prop := ∃ Y T : List Int, T = A ++ (Y ++ Z) ∧ Y.Perm C ∧ Y.Pairwise (Lx f) ∧ Srow w0 w' B c T

theorem ins_sorted {f : Int → Int} {U1 U2 : List Int} {y : Int} (h : (U1 ++ U2).Pairwise (Lx f)) (h1 : ∀ u ∈ U1, Lx f u y) (h2 : ∀ u ∈ U2, Lx f y u) : (U1 ++ y :: U2).Pairwise (Lx f) := by
  rw [List.pairwise_append] at h ⊢
  refine ⟨h.1, List.pairwise_cons.2 ⟨h2, h.2.1⟩, fun a ha b hb => ?_⟩
  rcases List.mem_cons.1 hb with rfl | hb
  · exact h1 a ha
  · exact h.2.2 a ha b hb

theorem lx_of {f : Int → Int} {x y : Int} (h : ¬ f y < f x) (hc : f x = f y → x < y) : Lx f x y := by
  unfold Lx
  by_cases e : f x = f y
  · exact .inr ⟨e, hc e⟩
  · exact .inl (by omega)

/-- Sorted: f does not fall. -/
theorem mono_of {f : Int → Int} {V : List Int} (h : V.Pairwise (Lx f)) {s t : Nat} (hst : s ≤ t) (ht : t < V.length) : f (V.getD s 0) ≤ f (V.getD t 0) := by
  by_cases e : s = t
  · subst e; exact Int.le_refl _
  · have := List.pairwise_iff_getElem.1 h s t (by omega) ht (by omega)
    rw [show V.getD s 0 = V[s]'(by omega) by simp [show s < V.length by omega], show V.getD t 0 = V[t] by simp [ht]]
    unfold Lx at this
    omega

theorem take_all {V : List Int} {P : Int → Prop} {k : Nat} (hk : k ≤ V.length) (h : ∀ t, t < k → P (V.getD t 0)) : ∀ v ∈ V.take k, P v := by
  intro v hv
  obtain ⟨i, hi, rfl⟩ := List.getElem_of_mem hv
  have hi2 : i < k := by rw [List.length_take] at hi; omega
  have := h i hi2
  rw [List.getElem_take]
  rwa [show V.getD i 0 = V[i]'(by omega) by simp [show i < V.length by omega]] at this

theorem drop_all {V : List Int} {P : Int → Prop} {k : Nat} (h : ∀ t, k ≤ t → t < V.length → P (V.getD t 0)) : ∀ v ∈ V.drop k, P v := by
  intro v hv
  obtain ⟨i, hi, rfl⟩ := List.getElem_of_mem hv
  rw [List.length_drop] at hi
  have := h (k + i) (by omega) (by omega)
  rw [List.getElem_drop]
  rwa [show V.getD (k + i) 0 = V[k + i]'(by omega) by simp [show k + i < V.length by omega]] at this

theorem half_i64 {s : Nat} (h : s ≤ 1000) : s / 2 ≤ s := Nat.div_le_self _ _

/-- The one on the left has found its place. -/
def lft (A V Z : List Int) (x : Int) (r : Nat) : List Int := A ++ (V.take r ++ x :: (V.drop r ++ Z))

theorem lft_len (A V Z : List Int) (x : Int) (r : Nat) : (lft A V Z x r).length = A.length + 1 + V.length + Z.length := by
  simp [lft]; omega

theorem lft_step (A V Z : List Int) (x : Int) (r : Nat) (hr : r < V.length) : swp (lft A V Z x r) (A.length + r) (A.length + r + 1) = lft A V Z x (r + 1) := by
  unfold lft
  rw [List.drop_eq_getElem_cons hr, List.take_succ_eq_append_getElem hr]
  have e := swp_two (A ++ V.take r) [] (V.drop (r + 1) ++ Z) x V[r] (A.length + r) (A.length + r + 1) (by simp; omega) (by simp; omega)
  simp only [List.append_assoc, List.cons_append, List.nil_append] at e ⊢
  exact e

theorem lft_get0 (A V Z : List Int) (x : Int) : (lft A V Z x 0).getD A.length 0 = x := by
  unfold lft
  exact getD_app A x _ 0

theorem lft_get (A V Z : List Int) (x : Int) {t : Nat} (ht : t < V.length) : (lft A V Z x 0).getD (A.length + 1 + t) 0 = V.getD t 0 := by
  unfold lft
  rw [List.getD_eq_getElem?_getD, List.getElem?_append_right (by omega), show A.length + 1 + t - A.length = t + 1 by omega]
  simp only [List.take_zero, List.nil_append, List.drop_zero, List.getElem?_cons_succ]
  rw [List.getElem?_append_left ht, ← List.getD_eq_getElem?_getD]

/-- Likewise the one on the right. -/
def rgt (A U Z : List Int) (y : Int) (r : Nat) : List Int := A ++ (U.take r ++ y :: (U.drop r ++ Z))

theorem rgt_step (A U Z : List Int) (y : Int) (r : Nat) (hr : r < U.length) : swp (lft A U Z y (r + 1)) (A.length + r + 1) (A.length + r) = lft A U Z y r := by
  rw [swp_comm _ _ _ (by omega)]
  unfold lft
  rw [List.drop_eq_getElem_cons hr, List.take_succ_eq_append_getElem hr]
  have e := swp_two (A ++ U.take r) [] (U.drop (r + 1) ++ Z) U[r] y (A.length + r) (A.length + r + 1) (by simp; omega) (by simp; omega)
  simp only [List.append_assoc, List.cons_append, List.nil_append] at e ⊢
  exact e

theorem rgt_get (A U Z : List Int) (y : Int) : (lft A U Z y U.length).getD (A.length + U.length) 0 = y ∧ ∀ t, t < U.length → (lft A U Z y U.length).getD (A.length + t) 0 = U.getD t 0 := by
  unfold lft
  rw [List.take_of_length_le (Nat.le_refl _)]
  refine ⟨?_, fun t ht => ?_⟩
  · have := getD_app (A ++ U) y (U.drop U.length ++ Z) 0
    rw [List.length_append] at this
    rw [← this]
    simp
  · rw [List.getD_eq_getElem?_getD, List.getElem?_append_right (by omega), Nat.add_sub_cancel_left, List.getElem?_append_left ht, ← List.getD_eq_getElem?_getD]

theorem lft_mem {A V Z : List Int} {x : Int} {r : Nat} {y : Int} : y ∈ lft A V Z x r ↔ y ∈ A ∨ y = x ∨ y ∈ V ∨ y ∈ Z := by
  unfold lft
  simp only [List.mem_append, List.mem_cons]
  have : y ∈ V ↔ y ∈ V.take r ∨ y ∈ V.drop r := by rw [← List.mem_append, List.take_append_drop]
  rw [this]
  constructor
  · rintro (h | h | h | h | h)
    · exact .inl h
    · exact .inr (.inr (.inl (.inl h)))
    · exact .inr (.inl h)
    · exact .inr (.inr (.inl (.inr h)))
    · exact .inr (.inr (.inr h))
  · rintro (h | h | (h | h) | h)
    · exact .inl h
    · exact .inr (.inr (.inl h))
    · exact .inr (.inl h)
    · exact .inr (.inr (.inr (.inl h)))
    · exact .inr (.inr (.inr (.inr h)))

theorem mrg_lft {w0 w : World} {B c : Nat} {A V Z : List Int} {x : Int} {k : Nat} {f : Int → Int} (h : Srow w0 w B c (lft A V Z x k)) (hs : V.Pairwise (Lx f)) (h1 : ∀ v ∈ V.take k, Lx f v x) (h2 : ∀ v ∈ V.drop k, Lx f x v) : Mrg w0 w B c A (x :: V) Z f := by
  refine ⟨V.take k ++ x :: V.drop k, _, by simp [lft], ?_, ins_sorted (by rw [List.take_append_drop]; exact hs) h1 h2, h⟩
  have := List.perm_middle (a := x) (l₁ := V.take k) (l₂ := V.drop k)
  rwa [List.take_append_drop] at this
end Go.Proofs.YtpmgnpfpnkmmbaaGreatDoor

namespace Go.Proofs.YtpmgnpfpnkmmbaaGreatDoor
open Go.RowKit Go.Maps
set_option maxRecDepth 20000
set_option linter.unusedVariables false

end Go.Proofs.YtpmgnpfpnkmmbaaGreatDoor

namespace Go.Proofs.YtpmgnpfpnkmmbaaGreatDoor
open Go.RowKit Go.Maps
set_option maxRecDepth 20000
set_option linter.unusedVariables false

theorem mrg_rgt {w0 w : World} {B c : Nat} {A U Z : List Int} {y : Int} {f : Int → Int} (h : Mrg w0 w B c A (y :: U) Z f) : Mrg w0 w B c A (U ++ [y]) Z f := by
  obtain ⟨Y, T, h1, h2, h3, h4⟩ := h
  refine ⟨Y, T, h1, h2.trans ?_, h3, h4⟩
  exact (List.perm_append_comm (l₁ := [y]) (l₂ := U))

end Go.Proofs.YtpmgnpfpnkmmbaaGreatDoor

namespace Go.Proofs.YtpmgnpfpnkmmbaaGreatDoor
open Go.RowKit Go.Maps
set_option maxRecDepth 20000
set_option linter.unusedVariables false

/-- What the search over the middle finds: how both sides are cut. -/
structure Cut4 (f : Int → Int) (U V U1 U2 V1 V2 : List Int) : Prop where
  u : U = U1 ++ U2
  v : V = V1 ++ V2
  c1 : ∀ x ∈ U1, ∀ y ∈ V2, Lx f x y
  c2 : ∀ y ∈ V1, ∀ x ∈ U2, Lx f y x

theorem sym_split {f : Int → Int} {U V : List Int} (hU : U.Pairwise (Lx f)) (hV : V.Pairwise (Lx f)) (hx : ∀ u ∈ U, ∀ v ∈ V, f u = f v → u < v) {a m b mid lo hi st : Nat} (hm : m = a + U.length) (hb : b = m + V.length)
    (h1 : lo ≤ st) (h2 : st ≤ hi) (hal : a ≤ lo) (him : hi ≤ m) (hid : hi ≤ mid) (hn : mid + m ≤ lo + b) (flo : lo = a ∨ lo + b = mid + m) (fhi : hi = m ∨ hi = mid)
    (g1 : ∀ c, lo ≤ c → c < st → f (U.getD (c - a) 0) ≤ f (V.getD (mid - 1 - c) 0)) (g2 : ∀ c, st ≤ c → c < hi → f (V.getD (mid - 1 - c) 0) < f (U.getD (c - a) 0)) :
    Cut4 f U V (U.take (st - a)) (U.drop (st - a)) (V.take (mid - st)) (V.drop (mid - st)) := by
  have gm : ∀ {l : List Int} {i : Nat} (h : i < l.length), l.getD i 0 = l[i] := fun h => by simp [h]
  refine ⟨(List.take_append_drop _ _).symm, (List.take_append_drop _ _).symm, fun x hx1 y hy1 => ?_, fun y hy1 x hx1 => ?_⟩
  · obtain ⟨i, hi1, rfl⟩ := List.getElem_of_mem hx1
    obtain ⟨j, hj1, rfl⟩ := List.getElem_of_mem hy1
    rw [List.length_take] at hi1
    rw [List.length_drop] at hj1
    rw [List.getElem_take, List.getElem_drop]
    have hgt : lo < st := by
      rcases flo with e | e
      · omega
      · apply Classical.byContradiction
        intro c
        omega
    have k := g1 (st - 1) (by omega) (by omega)
    have m1 := mono_of hU (s := i) (t := st - 1 - a) (by omega) (by omega)
    have m2 := mono_of hV (s := mid - 1 - (st - 1)) (t := mid - st + j) (by omega) (by omega)
    rw [gm (l := U) (i := i) (by omega)] at m1
    rw [gm (l := V) (i := mid - st + j) (by omega)] at m2
    exact lx_of (by omega) (hx _ (List.getElem_mem _) _ (List.getElem_mem _))
  · obtain ⟨j, hj1, rfl⟩ := List.getElem_of_mem hy1
    obtain ⟨i, hi1, rfl⟩ := List.getElem_of_mem hx1
    rw [List.length_take] at hj1
    rw [List.length_drop] at hi1
    rw [List.getElem_take, List.getElem_drop]
    have hlt : st < hi := by
      rcases fhi with e | e
      · apply Classical.byContradiction
        intro c
        omega
      · apply Classical.byContradiction
        intro c
        omega
    have k := g2 st (by omega) (by omega)
    have m1 := mono_of hV (s := j) (t := mid - 1 - st) (by omega) (by omega)
    have m2 := mono_of hU (s := st - a) (t := st - a + i) (by omega) (by omega)
    rw [gm (l := V) (i := j) (by omega)] at m1
    rw [gm (l := U) (i := st - a + i) (by omega)] at m2
    exact .inl (by omega)

theorem mrg_self {w0 w : World} {B c : Nat} {A C Z : List Int} {f : Int → Int} (h : Srow w0 w B c (A ++ (C ++ Z))) (hs : C.Pairwise (Lx f)) : Mrg w0 w B c A C Z f := ⟨C, _, rfl, List.Perm.refl _, hs, h⟩

theorem pw_left {f : Int → Int} {U U1 U2 : List Int} (h : U.Pairwise (Lx f)) (e : U = U1 ++ U2) : U1.Pairwise (Lx f) ∧ U2.Pairwise (Lx f) ∧ ∀ x ∈ U1, ∀ y ∈ U2, Lx f x y := by
  rw [e, List.pairwise_append] at h
  exact h

/-- Both halves are in order: so is the whole. -/
theorem mrg_fin {w0 w : World} {B c : Nat} {A U V Z U1 U2 V1 V2 Y1 : List Int} {f : Int → Int} (hc : Cut4 f U V U1 U2 V1 V2) (hU : U.Pairwise (Lx f)) (hV : V.Pairwise (Lx f)) (hp : Y1.Perm (U1 ++ V1)) (hs : Y1.Pairwise (Lx f)) (h : Mrg w0 w B c (A ++ Y1) (U2 ++ V2) Z f) : Mrg w0 w B c A (U ++ V) Z f := by
  obtain ⟨Y2, T, e, p2, s2, hr⟩ := h
  obtain ⟨_, _, uu⟩ := pw_left hU hc.u
  obtain ⟨_, _, vv⟩ := pw_left hV hc.v
  refine ⟨Y1 ++ Y2, T, by rw [e]; simp, ?_, ?_, hr⟩
  · have h1 : (Y1 ++ Y2).Perm ((U1 ++ V1) ++ (U2 ++ V2)) := hp.append p2
    refine h1.trans ?_
    rw [hc.u, hc.v]
    have : (U1 ++ V1 ++ (U2 ++ V2)).Perm (U1 ++ (U2 ++ (V1 ++ V2))) := by
      rw [List.append_assoc]
      refine List.Perm.append_left _ ?_
      rw [← List.append_assoc, ← List.append_assoc]
      exact List.Perm.append_right _ List.perm_append_comm
    have e2 : U1 ++ U2 ++ (V1 ++ V2) = U1 ++ (U2 ++ (V1 ++ V2)) := by simp
    rw [e2]
    exact this
  · rw [List.pairwise_append]
    refine ⟨hs, s2, fun x hx y hy => ?_⟩
    rcases List.mem_append.1 (hp.subset hx) with hx | hx <;> rcases List.mem_append.1 (p2.subset hy) with hy | hy
    · exact uu x hx y hy
    · exact hc.c1 x hx y hy
    · exact hc.c2 x hx y hy
    · exact vv x hx y hy

theorem cut_x2 {f : Int → Int} {U V U1 U2 V1 V2 : List Int} (hc : Cut4 f U V U1 U2 V1 V2) (A Z : List Int) : A ++ (U ++ (V ++ Z)) = (A ++ U1) ++ U2 ++ V1 ++ (V2 ++ Z) := by
  rw [hc.u, hc.v]; simp

theorem cut_no {f : Int → Int} {U V U1 U2 V1 V2 : List Int} (hc : Cut4 f U V U1 U2 V1 V2) (A Z : List Int) (h : U2 = [] ∨ V1 = []) : A ++ (U ++ (V ++ Z)) = A ++ (U1 ++ (V1 ++ (U2 ++ (V2 ++ Z)))) := by
  rw [hc.u, hc.v]
  rcases h with h | h <;> rw [h] <;> simp

theorem pw_one {f : Int → Int} {U V : List Int} (hU : U.Pairwise (Lx f)) (hV : V.Pairwise (Lx f)) (h : U = [] ∨ V = []) : (U ++ V).Pairwise (Lx f) := by
  rcases h with h | h
  · rw [h]; simpa using hV
  · rw [h]; simpa using hU

theorem get_u (A U V Z : List Int) {i : Nat} (h : i < U.length) : (A ++ (U ++ (V ++ Z))).getD (A.length + i) 0 = U.getD i 0 := by
  rw [List.getD_eq_getElem?_getD, List.getElem?_append_right (by omega), Nat.add_sub_cancel_left, List.getElem?_append_left h, ← List.getD_eq_getElem?_getD]

theorem get_v (A U V Z : List Int) {i : Nat} (h : i < V.length) : (A ++ (U ++ (V ++ Z))).getD (A.length + U.length + i) 0 = V.getD i 0 := by
  rw [List.getD_eq_getElem?_getD, List.getElem?_append_right (by omega), show A.length + U.length + i - A.length = U.length + i by omega, List.getElem?_append_right (by omega), Nat.add_sub_cancel_left, List.getElem?_append_left h, ← List.getD_eq_getElem?_getD]

theorem getD_mem6' {l : List Int} {i : Nat} (h : i < l.length) : l.getD i 0 ∈ l := by
  rw [show l.getD i 0 = l[i] by simp [h]]
  exact List.getElem_mem h
end Go.Proofs.YtpmgnpfpnkmmbaaGreatDoor

