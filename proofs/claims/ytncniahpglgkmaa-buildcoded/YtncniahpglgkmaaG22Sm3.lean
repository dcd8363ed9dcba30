import Derived.Test.YtncniahpglgkmaaG21Sm2
namespace Go.Proofs.Ytncniahpglgkmaa
open Go.RowKit Go.Maps
set_option maxRecDepth 20000
set_option linter.unusedVariables false

/-- What the search over the middle finds: how both sides are cut. -/
structure Cut4 (f : Int → Int) (U V U1 U2 V1 V2 : List Int) : Prop where
  u : U = U1 ++ U2
  v : V = V1 ++ V2
  c1 : ∀ x ∈ U1, ∀ y ∈ V2, Lx f x y
  c2 : ∀ y ∈ V1, ∀ x ∈ U2, Lx f y x

theorem sym_split {f : Int → Int} {U V : List Int} (hU : U.Pairwise (Lx f)) (hV : V.Pairwise (Lx f)) (hx : ∀ u ∈ U, ∀ v ∈ V, f u = f v → u < v) {a m b mid lo hi st : Nat} (hm : m = a + U.length) (hb : b = m + V.length)
    (h1 : lo ≤ st) (h2 : st ≤ hi) (hal : a ≤ lo) (him : hi ≤ m) (hid : hi ≤ mid) (hn : mid + m ≤ lo + b) (flo : lo = a ∨ lo + b = mid + m) (fhi : hi = m ∨ hi = mid)
    (g1 : ∀ c, lo ≤ c → c < st → f (U.getD (c - a) 0) ≤ f (V.getD (mid - 1 - c) 0)) (g2 : ∀ c, st ≤ c → c < hi → f (V.getD (mid - 1 - c) 0) < f (U.getD (c - a) 0)) :
    Cut4 f U V (U.take (st - a)) (U.drop (st - a)) (V.take (mid - st)) (V.drop (mid - st)) := by
  have gm : ∀ {l : List Int} {i : Nat} (h : i < l.length), l.getD i 0 = l[i] := fun h => by simp [h]
  refine ⟨(List.take_append_drop _ _).symm, (List.take_append_drop _ _).symm, fun x hx1 y hy1 => ?_, fun y hy1 x hx1 => ?_⟩
  · obtain ⟨i, hi1, rfl⟩ := List.getElem_of_mem hx1
    obtain ⟨j, hj1, rfl⟩ := List.getElem_of_mem hy1
    rw [List.length_take] at hi1
    rw [List.length_drop] at hj1
    rw [List.getElem_take, List.getElem_drop]
    have hgt : lo < st := by
      rcases flo with e | e
      · omega
      · apply Classical.byContradiction
        intro c
        omega
    have k := g1 (st - 1) (by omega) (by omega)
    have m1 := mono_of hU (s := i) (t := st - 1 - a) (by omega) (by omega)
    have m2 := mono_of hV (s := mid - 1 - (st - 1)) (t := mid - st + j) (by omega) (by omega)
    rw [gm (l := U) (i := i) (by omega)] at m1
    rw [gm (l := V) (i := mid - st + j) (by omega)] at m2
    exact lx_of (by omega) (hx _ (List.getElem_mem _) _ (List.getElem_mem _))
  · obtain ⟨j, hj1, rfl⟩ := List.getElem_of_mem hy1
    obtain ⟨i, hi1, rfl⟩ := List.getElem_of_mem hx1
    rw [List.length_take] at hj1
    rw [List.length_drop] at hi1
    rw [List.getElem_take, List.getElem_drop]
    have hlt : st < hi := by
      rcases fhi with e | e
      · apply Classical.byContradiction
        intro c
        omega
      · apply Classical.byContradiction
        intro c
        omega
    have k := g2 st (by omega) (by omega)
    have m1 := mono_of hV (s := j) (t := mid - 1 - st) (by omega) (by omega)
    have m2 := mono_of hU (s := st - a) (t := st - a + i) (by omega) (by omega)
    rw [gm (l := V) (i := j) (by omega)] at m1
    rw [gm (l := U) (i := st - a + i) (by omega)] at m2
    exact .inl (by omega)

theorem mrg_self {w0 w : World} {B c : Nat} {A C Z : List Int} {f : Int → Int} (h : Srow w0 w B c (A ++ (C ++ Z))) (hs : C.Pairwise (Lx f)) : Mrg w0 w B c A C Z f := ⟨C, _, rfl, List.Perm.refl _, hs, h⟩

theorem pw_left {f : Int → Int} {U U1 U2 : List Int} (h : U.Pairwise (Lx f)) (e : U = U1 ++ U2) : U1.Pairwise (Lx f) ∧ U2.Pairwise (Lx f) ∧ ∀ x ∈ U1, ∀ y ∈ U2, Lx f x y := by
  rw [e, List.pairwise_append] at h
  exact h

/-- Both halves are in order: so is the whole. -/
theorem mrg_fin {w0 w : World} {B c : Nat} {A U V Z U1 U2 V1 V2 Y1 : List Int} {f : Int → Int} (hc : Cut4 f U V U1 U2 V1 V2) (hU : U.Pairwise (Lx f)) (hV : V.Pairwise (Lx f)) (hp : Y1.Perm (U1 ++ V1)) (hs : Y1.Pairwise (Lx f)) (h : Mrg w0 w B c (A ++ Y1) (U2 ++ V2) Z f) : Mrg w0 w B c A (U ++ V) Z f := by
  obtain ⟨Y2, T, e, p2, s2, hr⟩ := h
  obtain ⟨_, _, uu⟩ := pw_left hU hc.u
  obtain ⟨_, _, vv⟩ := pw_left hV hc.v
  refine ⟨Y1 ++ Y2, T, by rw [e]; simp, ?_, ?_, hr⟩
  · have h1 : (Y1 ++ Y2).Perm ((U1 ++ V1) ++ (U2 ++ V2)) := hp.append p2
    refine h1.trans ?_
    rw [hc.u, hc.v]
    have : (U1 ++ V1 ++ (U2 ++ V2)).Perm (U1 ++ (U2 ++ (V1 ++ V2))) := by
      rw [List.append_assoc]
      refine List.Perm.append_left _ ?_
      rw [← List.append_assoc, ← List.append_assoc]
      exact List.Perm.append_right _ List.perm_append_comm
    have e2 : U1 ++ U2 ++ (V1 ++ V2) = U1 ++ (U2 ++ (V1 ++ V2)) := by simp
    rw [e2]
    exact this
  · rw [List.pairwise_append]
    refine ⟨hs, s2, fun x hx y hy => ?_⟩
    rcases List.mem_append.1 (hp.subset hx) with hx | hx <;> rcases List.mem_append.1 (p2.subset hy) with hy | hy
    · exact uu x hx y hy
    · exact hc.c1 x hx y hy
    · exact hc.c2 x hx y hy
    · exact vv x hx y hy

/-- The statement of the merge. -/
def SymOk6 (w0 : World) (B c : Nat) (p : Value) (f : Int → Int) (D : Int → Prop) (N : Nat) : Prop :=
  ∀ (w : World) (A U V Z X : List Int) (a m b : Nat), U.length + V.length ≤ N → X = A ++ (U ++ (V ++ Z)) → Srow w0 w B c X → (∀ y ∈ X, D y) → X.length ≤ 288 → a = A.length → m = A.length + U.length → b = m + V.length → 1 ≤ U.length → 1 ≤ V.length →
    U.Pairwise (Lx f) → V.Pairwise (Lx f) → (∀ u ∈ U, ∀ v ∈ V, f u = f v → u < v) →
    Calls Try.prog 61 #[.slice (some ⟨B, 0, none⟩) X.length c, .int .i64 a, .int .i64 m, .int .i64 b, .func (.func 29) #[] #[p]] w fun e w' => e = .returned (.tuple #[]) ∧ Mrg w0 w' B c A (U ++ V) Z f

theorem cut_x2 {f : Int → Int} {U V U1 U2 V1 V2 : List Int} (hc : Cut4 f U V U1 U2 V1 V2) (A Z : List Int) : A ++ (U ++ (V ++ Z)) = (A ++ U1) ++ U2 ++ V1 ++ (V2 ++ Z) := by
  rw [hc.u, hc.v]; simp

theorem cut_no {f : Int → Int} {U V U1 U2 V1 V2 : List Int} (hc : Cut4 f U V U1 U2 V1 V2) (A Z : List Int) (h : U2 = [] ∨ V1 = []) : A ++ (U ++ (V ++ Z)) = A ++ (U1 ++ (V1 ++ (U2 ++ (V2 ++ Z)))) := by
  rw [hc.u, hc.v]
  rcases h with h | h <;> rw [h] <;> simp

theorem pw_one {f : Int → Int} {U V : List Int} (hU : U.Pairwise (Lx f)) (hV : V.Pairwise (Lx f)) (h : U = [] ∨ V = []) : (U ++ V).Pairwise (Lx f) := by
  rcases h with h | h
  · rw [h]; simpa using hV
  · rw [h]; simpa using hU

theorem get_u (A U V Z : List Int) {i : Nat} (h : i < U.length) : (A ++ (U ++ (V ++ Z))).getD (A.length + i) 0 = U.getD i 0 := by
  rw [List.getD_eq_getElem?_getD, List.getElem?_append_right (by omega), Nat.add_sub_cancel_left, List.getElem?_append_left h, ← List.getD_eq_getElem?_getD]

theorem get_v (A U V Z : List Int) {i : Nat} (h : i < V.length) : (A ++ (U ++ (V ++ Z))).getD (A.length + U.length + i) 0 = V.getD i 0 := by
  rw [List.getD_eq_getElem?_getD, List.getElem?_append_right (by omega), show A.length + U.length + i - A.length = U.length + i by omega, List.getElem?_append_right (by omega), Nat.add_sub_cancel_left, List.getElem?_append_left h, ← List.getD_eq_getElem?_getD]

theorem getD_mem6' {l : List Int} {i : Nat} (h : i < l.length) : l.getD i 0 ∈ l := by
  rw [show l.getD i 0 = l[i] by simp [h]]
  exact List.getElem_mem h
end Go.Proofs.Ytncniahpglgkmaa

