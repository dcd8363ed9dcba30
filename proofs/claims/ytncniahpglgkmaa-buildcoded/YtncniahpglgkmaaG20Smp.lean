import Derived.Test.YtncniahpglgkmaaG19Swr
namespace Go.Proofs.Ytncniahpglgkmaa
open Go.RowKit Go.Maps
set_option maxRecDepth 20000
set_option linter.unusedVariables false

/-- The rotation under way: i of the left, j of the right are still to change. -/
def Rst (T : List Int) (m i j : Nat) (X : List Int) : Prop :=
  ∃ P L R Q : List Int, X = P ++ L ++ R ++ Q ∧ T = P ++ R ++ L ++ Q ∧ P.length + i = m ∧ L.length = i ∧ R.length = j

theorem rst_left {T X : List Int} {m i j : Nat} (h : Rst T m i j X) (hij : j < i) : ∃ A U M V Z X' : List Int, X = A ++ U ++ M ++ V ++ Z ∧ V.length = U.length ∧ m - i = A.length ∧ m = A.length + U.length + M.length ∧ j = U.length ∧ X' = A ++ V ++ M ++ U ++ Z ∧ Rst T m (i - j) j X' := by
  obtain ⟨P, L, R, Q, rfl, rfl, h1, h2, h3⟩ := h
  refine ⟨P, L.take j, L.drop j, R, Q, _, by simp, by simp; omega, by omega, by simp; omega, by simp; omega, rfl, P ++ R, L.drop j, L.take j, Q, by simp, ?_, by simp; omega, by simp; omega, by simp; omega⟩
  have e : L = L.take j ++ L.drop j := (List.take_append_drop j L).symm
  conv => lhs; rw [e]
  simp

theorem rst_right {T X : List Int} {m i j : Nat} (h : Rst T m i j X) (hij : i < j) : ∃ A U M V Z X' : List Int, X = A ++ U ++ M ++ V ++ Z ∧ V.length = U.length ∧ m - i = A.length ∧ m + j - i = A.length + U.length + M.length ∧ i = U.length ∧ X' = A ++ V ++ M ++ U ++ Z ∧ Rst T m i (j - i) X' := by
  obtain ⟨P, L, R, Q, rfl, rfl, h1, h2, h3⟩ := h
  refine ⟨P, L, R.take (j - i), R.drop (j - i), Q, _, by simp, by simp; omega, by omega, by simp; omega, by omega, rfl, P, R.drop (j - i), R.take (j - i), L ++ Q, by simp, ?_, by omega, by simp; omega, by simp; omega⟩
  have e : R = R.take (j - i) ++ R.drop (j - i) := (List.take_append_drop (j - i) R).symm
  conv => lhs; rw [e]
  simp

theorem rst_last {T X : List Int} {m i : Nat} (h : Rst T m i i X) : ∃ A U M V Z : List Int, X = A ++ U ++ M ++ V ++ Z ∧ V.length = U.length ∧ m - i = A.length ∧ m = A.length + U.length + M.length ∧ i = U.length ∧ T = A ++ V ++ M ++ U ++ Z := by
  obtain ⟨P, L, R, Q, rfl, rfl, h1, h2, h3⟩ := h
  exact ⟨P, L, [], R, Q, by simp, by omega, by omega, by simp; omega, by omega, by simp⟩

theorem rst_len {T X : List Int} {m i j : Nat} (h : Rst T m i j X) : X.length = T.length ∧ i ≤ m ∧ m + j ≤ X.length := by
  obtain ⟨P, L, R, Q, rfl, rfl, h1, h2, h3⟩ := h
  refine ⟨by simp; omega, by omega, by simp; omega⟩

set_option maxHeartbeats 1000000 in
theorem rot_any {w0 w : World} {B c : Nat} (A U V Z : List Int) (X : List Int) (hX : X = A ++ U ++ V ++ Z) (h : Srow w0 w B c X) (fv : Value) (hL : X.length ≤ 288)
    (a m b : Nat) (ha : a = A.length) (hm : m = A.length + U.length) (hb : b = A.length + U.length + V.length) (h1 : a < m) (h2 : m < b) (T : List Int) (hT : T = A ++ V ++ U ++ Z) :
    Calls Try.prog 62 #[.slice (some ⟨B, 0, none⟩) X.length c, .int .i64 a, .int .i64 m, .int .i64 b, fv] w fun e w' => e = .returned (.tuple #[]) ∧ Srow w0 w' B c T := by
  have HS0 := hide h
  have HR0 : Hid (Rst T m (m - a) (b - m) X) := ⟨A, U, V, Z, hX, hT, by omega, by omega, by omega⟩
  have HLT := (rst_len HR0.out).1
  obtain ⟨L, HLL⟩ : ∃ L, Hid (L = X.length) := ⟨_, rfl⟩
  have HTL : Hid (T.length = L) := HLT.symm.trans HLL.out.symm
  have hbL : b ≤ L := by rw [HLL.out, hX]; simp; omega
  rw [← HLL.out] at hL ⊢
  have e1 : IntKind.i64.wrap ((m : Int) - a) = ((m - a : Nat) : Int) := by rw [IntKind.wrap_i64]; omega
  have e2 : IntKind.i64.wrap ((b : Int) - m) = ((b - m : Nat) : Int) := by rw [IntKind.wrap_i64]; omega
  obtain ⟨i0, hi0⟩ : ∃ i0, i0 = m - a := ⟨_, rfl⟩
  obtain ⟨j0, hj0⟩ : ∃ j0, j0 = b - m := ⟨_, rfl⟩
  rw [← hi0] at e1 HR0
  rw [← hj0] at e2 HR0
  have hi1 : 0 < i0 := by omega
  have hj1 : 0 < j0 := by omega
  have hmL : m ≤ 288 := by omega
  clear hX h ha hm hb hT HLT hi0 hj0
  go_enter Try.func62, Try.ntmps62
  go_wp2
  go_loopw [10, 11] (fun vi vj wr => ∃ i j : Nat, 0 < i ∧ 0 < j ∧ i ≤ 288 ∧ j ≤ 288 ∧ vi = .int .i64 i ∧ vj = .int .i64 j ∧ Hid (∃ X1, Rst T m i j X1 ∧ Srow w0 wr B c X1)) (fun vi vj _ => (intOf vi).toNat + (intOf vj).toNat)
  case atStart =>
    have := (rst_len HR0.out).2
    have := HLL.out
    exact ⟨i0, j0, hi1, hj1, by omega, by omega, by go_num, by go_num, X, HR0.out, HS0.out⟩
  case round =>
    obtain ⟨i, j, hi, hj, hi8, hj8, rfl, rfl, HX⟩ := hrel
    obtain ⟨X1, hr1, hs1⟩ := HX.out
    obtain ⟨hl1, hl2, hl3⟩ := rst_len hr1
    have hXL : X1.length = L := hl1.trans HTL.out
    have HR1 := hide hr1
    have HS1 := hide hs1
    clear HX hr1 hs1 hl1
    by_cases hij : i = j
    · subst hij
      obtain ⟨A1, U1, M1, V1, Z1, q1, q2, q3, q4, q5, q6⟩ := rst_last HR1.out
      have hC := swr_any A1 U1 M1 V1 Z1 X1 q1 HS1.out fv q2 (by omega) (m - i) m i q3 q4 q5 T q6
      rw [hXL] at hC
      have e3 : IntKind.i64.wrap ((m : Int) - i) = ((m - i : Nat) : Int) := by rw [IntKind.wrap_i64]; omega
      have hne : ((i : Int) != (i : Int)) = false := by simp
      clear q1 q2 q3 q4 q5 q6 hXL hl3
      obtain ⟨z, hz⟩ : ∃ z, z = m - i := ⟨_, rfl⟩
      rw [← hz] at hC e3
      clear hz
      go_wp2_with fail
      refine hC.mono ?_
      rintro e w2 ⟨rfl, hs2⟩
      have HS2 := hide hs2
      clear hs2
      go_wp2
      (try simp only [Exit.inBlock, Exit.then])
      refine bodyPost_end (results_none rfl _ _ _) rfl ?_
      exact ⟨rfl, HS2.out⟩
    · have hne : ((i : Int) != (j : Int)) = true := by simp; omega
      by_cases hlt : j < i
      · have hlt' : (j : Int) < (i : Int) := by omega
        obtain ⟨A1, U1, M1, V1, Z1, X2, q1, q2, q3, q4, q5, q6, q7⟩ := rst_left HR1.out hlt
        have hC := swr_any A1 U1 M1 V1 Z1 X1 q1 HS1.out fv q2 (by omega) (m - i) m j q3 q4 q5 X2 q6
        rw [hXL] at hC
        have HR2 := hide q7
        have e3 : IntKind.i64.wrap ((m : Int) - i) = ((m - i : Nat) : Int) := by rw [IntKind.wrap_i64]; omega
        have e4 : IntKind.i64.wrap ((i : Int) - j) = ((i - j : Nat) : Int) := by rw [IntKind.wrap_i64]; omega
        clear q1 q2 q3 q4 q5 q6 q7 hXL hl3
        obtain ⟨z, hz⟩ : ∃ z, z = m - i := ⟨_, rfl⟩
        rw [← hz] at hC e3
        obtain ⟨y, hy⟩ : ∃ z, z = i - j := ⟨_, rfl⟩
        rw [← hy] at e4 HR2
        have hy1 : 0 < y ∧ y + j = i := by omega
        clear hz hij hy
        go_wp2_with fail
        refine hC.mono ?_
        rintro e w2 ⟨rfl, hs2⟩
        have HS2 := hide hs2
        clear hs2
        go_wp2
        go_roundw
        case rel => exact ⟨y, j, hy1.1, hj, by omega, hj8, by go_num, rfl, X2, HR2.out, HS2.out⟩
        case measure => simp [intOf]; omega
      · have hlt' : ¬ (j : Int) < (i : Int) := by omega
        obtain ⟨A1, U1, M1, V1, Z1, X2, q1, q2, q3, q4, q5, q6, q7⟩ := rst_right HR1.out (by omega)
        have hC := swr_any A1 U1 M1 V1 Z1 X1 q1 HS1.out fv q2 (by omega) (m - i) (m + j - i) i q3 q4 q5 X2 q6
        rw [hXL] at hC
        have HR2 := hide q7
        have e3 : IntKind.i64.wrap ((m : Int) - i) = ((m - i : Nat) : Int) := by rw [IntKind.wrap_i64]; omega
        have e5 : IntKind.i64.wrap ((m : Int) + j) = (m : Int) + j := by rw [IntKind.wrap_i64]; omega
        have e6 : IntKind.i64.wrap ((m : Int) + j - i) = ((m + j - i : Nat) : Int) := by rw [IntKind.wrap_i64]; omega
        have e4 : IntKind.i64.wrap ((j : Int) - i) = ((j - i : Nat) : Int) := by rw [IntKind.wrap_i64]; omega
        clear q1 q2 q3 q4 q5 q6 q7 hXL hl3
        obtain ⟨z, hz⟩ : ∃ z, z = m - i := ⟨_, rfl⟩
        rw [← hz] at hC e3
        obtain ⟨y, hy⟩ : ∃ z, z = j - i := ⟨_, rfl⟩
        rw [← hy] at e4 HR2
        obtain ⟨x, hx⟩ : ∃ z, z = m + j - i := ⟨_, rfl⟩
        rw [← hx] at hC e6
        have hy1 : 0 < y ∧ y + i = j := by omega
        clear hz hij hy hx
        go_wp2_with fail
        refine hC.mono ?_
        rintro e w2 ⟨rfl, hs2⟩
        have HS2 := hide hs2
        clear hs2
        go_wp2
        go_roundw
        case rel => exact ⟨i, y, hi, hy1.1, hi8, by omega, rfl, by go_num, X2, HR2.out, HS2.out⟩
        case measure => simp [intOf]; omega
end Go.Proofs.Ytncniahpglgkmaa

namespace Go.Proofs.Ytncniahpglgkmaa
open Go.RowKit Go.Maps
set_option maxRecDepth 20000
set_option linter.unusedVariables false

/-- Merged: between A and Z stands what stood there, in order. -/
def Mrg (w0 w' : World) (B c : Nat) (A C Z : List Int) (f : Int → Int) : Prop := ∃ Y T : List Int, T = A ++ (Y ++ Z) ∧ Y.Perm C ∧ Y.Pairwise (Lx f) ∧ Srow w0 w' B c T

theorem ins_sorted {f : Int → Int} {U1 U2 : List Int} {y : Int} (h : (U1 ++ U2).Pairwise (Lx f)) (h1 : ∀ u ∈ U1, Lx f u y) (h2 : ∀ u ∈ U2, Lx f y u) : (U1 ++ y :: U2).Pairwise (Lx f) := by
  rw [List.pairwise_append] at h ⊢
  refine ⟨h.1, List.pairwise_cons.2 ⟨h2, h.2.1⟩, fun a ha b hb => ?_⟩
  rcases List.mem_cons.1 hb with rfl | hb
  · exact h1 a ha
  · exact h.2.2 a ha b hb

theorem lx_of {f : Int → Int} {x y : Int} (h : ¬ f y < f x) (hc : f x = f y → x < y) : Lx f x y := by
  unfold Lx
  by_cases e : f x = f y
  · exact .inr ⟨e, hc e⟩
  · exact .inl (by omega)

/-- Sorted: f does not fall. -/
theorem mono_of {f : Int → Int} {V : List Int} (h : V.Pairwise (Lx f)) {s t : Nat} (hst : s ≤ t) (ht : t < V.length) : f (V.getD s 0) ≤ f (V.getD t 0) := by
  by_cases e : s = t
  · subst e; exact Int.le_refl _
  · have := List.pairwise_iff_getElem.1 h s t (by omega) ht (by omega)
    rw [show V.getD s 0 = V[s]'(by omega) by simp [show s < V.length by omega], show V.getD t 0 = V[t] by simp [ht]]
    unfold Lx at this
    omega

theorem take_all {V : List Int} {P : Int → Prop} {k : Nat} (hk : k ≤ V.length) (h : ∀ t, t < k → P (V.getD t 0)) : ∀ v ∈ V.take k, P v := by
  intro v hv
  obtain ⟨i, hi, rfl⟩ := List.getElem_of_mem hv
  have hi2 : i < k := by rw [List.length_take] at hi; omega
  have := h i hi2
  rw [List.getElem_take]
  rwa [show V.getD i 0 = V[i]'(by omega) by simp [show i < V.length by omega]] at this

theorem drop_all {V : List Int} {P : Int → Prop} {k : Nat} (h : ∀ t, k ≤ t → t < V.length → P (V.getD t 0)) : ∀ v ∈ V.drop k, P v := by
  intro v hv
  obtain ⟨i, hi, rfl⟩ := List.getElem_of_mem hv
  rw [List.length_drop] at hi
  have := h (k + i) (by omega) (by omega)
  rw [List.getElem_drop]
  rwa [show V.getD (k + i) 0 = V[k + i]'(by omega) by simp [show k + i < V.length by omega]] at this

theorem half_i64 {s : Nat} (h : s ≤ 1000) : s / 2 ≤ s := Nat.div_le_self _ _

/-- The one on the left has found its place. -/
def lft (A V Z : List Int) (x : Int) (r : Nat) : List Int := A ++ (V.take r ++ x :: (V.drop r ++ Z))

theorem lft_len (A V Z : List Int) (x : Int) (r : Nat) : (lft A V Z x r).length = A.length + 1 + V.length + Z.length := by
  simp [lft]; omega

theorem lft_step (A V Z : List Int) (x : Int) (r : Nat) (hr : r < V.length) : swp (lft A V Z x r) (A.length + r) (A.length + r + 1) = lft A V Z x (r + 1) := by
  unfold lft
  rw [List.drop_eq_getElem_cons hr, List.take_succ_eq_append_getElem hr]
  have e := swp_two (A ++ V.take r) [] (V.drop (r + 1) ++ Z) x V[r] (A.length + r) (A.length + r + 1) (by simp; omega) (by simp; omega)
  simp only [List.append_assoc, List.cons_append, List.nil_append] at e ⊢
  exact e

theorem lft_get0 (A V Z : List Int) (x : Int) : (lft A V Z x 0).getD A.length 0 = x := by
  unfold lft
  exact getD_app A x _ 0

theorem lft_get (A V Z : List Int) (x : Int) {t : Nat} (ht : t < V.length) : (lft A V Z x 0).getD (A.length + 1 + t) 0 = V.getD t 0 := by
  unfold lft
  rw [List.getD_eq_getElem?_getD, List.getElem?_append_right (by omega), show A.length + 1 + t - A.length = t + 1 by omega]
  simp only [List.take_zero, List.nil_append, List.drop_zero, List.getElem?_cons_succ]
  rw [List.getElem?_append_left ht, ← List.getD_eq_getElem?_getD]

/-- Likewise the one on the right. -/
def rgt (A U Z : List Int) (y : Int) (r : Nat) : List Int := A ++ (U.take r ++ y :: (U.drop r ++ Z))

theorem rgt_step (A U Z : List Int) (y : Int) (r : Nat) (hr : r < U.length) : swp (lft A U Z y (r + 1)) (A.length + r + 1) (A.length + r) = lft A U Z y r := by
  rw [swp_comm _ _ _ (by omega)]
  unfold lft
  rw [List.drop_eq_getElem_cons hr, List.take_succ_eq_append_getElem hr]
  have e := swp_two (A ++ U.take r) [] (U.drop (r + 1) ++ Z) U[r] y (A.length + r) (A.length + r + 1) (by simp; omega) (by simp; omega)
  simp only [List.append_assoc, List.cons_append, List.nil_append] at e ⊢
  exact e

theorem rgt_get (A U Z : List Int) (y : Int) : (lft A U Z y U.length).getD (A.length + U.length) 0 = y ∧ ∀ t, t < U.length → (lft A U Z y U.length).getD (A.length + t) 0 = U.getD t 0 := by
  unfold lft
  rw [List.take_of_length_le (Nat.le_refl _)]
  refine ⟨?_, fun t ht => ?_⟩
  · have := getD_app (A ++ U) y (U.drop U.length ++ Z) 0
    rw [List.length_append] at this
    rw [← this]
    simp
  · rw [List.getD_eq_getElem?_getD, List.getElem?_append_right (by omega), Nat.add_sub_cancel_left, List.getElem?_append_left ht, ← List.getD_eq_getElem?_getD]

theorem lft_mem {A V Z : List Int} {x : Int} {r : Nat} {y : Int} : y ∈ lft A V Z x r ↔ y ∈ A ∨ y = x ∨ y ∈ V ∨ y ∈ Z := by
  unfold lft
  simp only [List.mem_append, List.mem_cons]
  have : y ∈ V ↔ y ∈ V.take r ∨ y ∈ V.drop r := by rw [← List.mem_append, List.take_append_drop]
  rw [this]
  constructor
  · rintro (h | h | h | h | h)
    · exact .inl h
    · exact .inr (.inr (.inl (.inl h)))
    · exact .inr (.inl h)
    · exact .inr (.inr (.inl (.inr h)))
    · exact .inr (.inr (.inr h))
  · rintro (h | h | (h | h) | h)
    · exact .inl h
    · exact .inr (.inr (.inl h))
    · exact .inr (.inl h)
    · exact .inr (.inr (.inr (.inl h)))
    · exact .inr (.inr (.inr (.inr h)))

theorem mrg_lft {w0 w : World} {B c : Nat} {A V Z : List Int} {x : Int} {k : Nat} {f : Int → Int} (h : Srow w0 w B c (lft A V Z x k)) (hs : V.Pairwise (Lx f)) (h1 : ∀ v ∈ V.take k, Lx f v x) (h2 : ∀ v ∈ V.drop k, Lx f x v) : Mrg w0 w B c A (x :: V) Z f := by
  refine ⟨V.take k ++ x :: V.drop k, _, by simp [lft], ?_, ins_sorted (by rw [List.take_append_drop]; exact hs) h1 h2, h⟩
  have := List.perm_middle (a := x) (l₁ := V.take k) (l₂ := V.drop k)
  rwa [List.take_append_drop] at this
end Go.Proofs.Ytncniahpglgkmaa

