import Derived.Test.YtkmefeihkmbngaaDoorG09Krg
import Derived.Test.YtkmefeihkmbngaaDoorG08Usd
import Derived.Test.YtkmefeihkmbngaaDoorG07QHops
namespace Go.Proofs.YtkmefeihkmbngaaDoor
open Go.RowKit Go.Maps
set_option maxRecDepth 20000
set_option linter.unusedVariables false

structure Gd (f n : List Int) (lim : Int) : Prop where
  len : n.length = f.length
  zero : ∀ s, s < f.length → f.getD s 0 = 0 → n.getD s 0 = 0
  ok : LenOk f n lim f.length
  one : (us6 f).length = 1 → ∀ s ∈ us6 f, n.getD s 0 = 1
  all : 2 ≤ (us6 f).length → kr (nn n) (us6 f) = 2 ^ 60

structure Sound (f : List Int) : Prop where
  len : f.length ≤ 288
  ok : bnd f 4294967296 f.length

theorem Sound.nn {f : List Int} (h : Sound f) (i : Nat) : 0 ≤ f.getD i 0 := by
  by_cases c : i < f.length
  · exact (h.ok i c).1
  · rw [List.getD_eq_getElem?_getD, List.getElem?_eq_none (by omega)]; exact Int.le_refl _

theorem Gd.at {f n : List Int} {lim : Int} (h : Gd f n lim) (hs : Sound f) (i : Nat) : 0 ≤ n.getD i 0 ∧ n.getD i 0 ≤ 60 := by
  by_cases c : i < f.length
  · by_cases z : f.getD i 0 = 0
    · rw [h.zero i c z]; omega
    · have := h.ok i (mem_us.2 ⟨c, by have := hs.nn i; omega⟩)
      omega
  · rw [List.getD_eq_getElem?_getD, List.getElem?_eq_none (by rw [h.len]; omega)]
    exact ⟨Int.le_refl _, by decide⟩

theorem kr_pos {len : Nat → Nat} {l : List Nat} (h : l ≠ []) : 0 < kr len l := by
  cases l with
  | nil => exact absurd rfl h
  | cons a r =>
    have := Nat.two_pow_pos (60 - len a)
    simp only [kr, List.map_cons, List.sum_cons]
    omega

theorem kr_one {len : Nat → Nat} {l : List Nat} (hk : kr len l = 2 ^ 60) (h2 : 2 ≤ l.length) {s : Nat} (hs : s ∈ l) : 1 ≤ len s := by
  apply Classical.byContradiction
  intro c
  obtain ⟨a, b, rfl⟩ := List.append_of_mem hs
  have e : kr len (a ++ s :: b) = 2 ^ (60 - len s) + kr len (a ++ b) := by
    have := perm_sum (fun s => 2 ^ (60 - len s)) (List.perm_middle (a := s) (l₁ := a) (l₂ := b))
    unfold kr
    rw [this]
    simp
  have hne : a ++ b ≠ [] := fun e => by
    have : (a ++ b).length = 0 := by rw [e]; rfl
    simp at h2 this
    rw [this.1, this.2] at h2
    simp at h2
  have hp := kr_pos (len := len) hne
  have h0 : len s = 0 := by omega
  rw [e, h0, Nat.sub_zero] at hk
  omega

theorem kr_congr {a b : Nat → Nat} {l : List Nat} (h : ∀ s ∈ l, a s = b s) : kr a l = kr b l := map_sum_congr fun s hs => by rw [h s hs]
theorem fl_congr {f a b : Nat → Nat} {l : List Nat} (h : ∀ s ∈ l, a s = b s) : fl f a l = fl f b l := map_sum_congr fun s hs => by rw [h s hs]

end Go.Proofs.YtkmefeihkmbngaaDoor

namespace Go.Proofs.YtkmefeihkmbngaaDoor
open Go.RowKit Go.Maps
set_option maxRecDepth 20000
set_option linter.unusedVariables false

abbrev Only := H4.Only

structure Srow (w0 w : World) (B c : Nat) (X : List Int) : Prop where
  own : OI w 0 (.slice (some ⟨B, 0, none⟩) X.length c) X
  only : Only w0 w B

theorem Srow.refl {w : World} {B c : Nat} {X : List Int} (h : OI w 0 (.slice (some ⟨B, 0, none⟩) X.length c) X) : Srow w w B c X := ⟨h, H4.Only.refl _ _⟩

theorem Srow.drewN {w0 w : World} {B c : Nat} {X : List Int} (h : Srow w0 w B c X) (n : Nat) : Srow w0 (w.drewN n) B c X := ⟨h.own.move fun _ _ => rfl, h.only.drewN n⟩
theorem Srow.drew {w0 w : World} {B c : Nat} {X : List Int} (h : Srow w0 w B c X) : Srow w0 w.drew B c X := ⟨h.own.move fun _ _ => rfl, h.only.drew⟩

theorem Srow.get {w0 w : World} {B c : Nat} {X : List Int} (h : Srow w0 w B c X) {i : Nat} (hi : i < X.length) : w.cell? ⟨B, i, none⟩ = some (.int .i64 (X.getD i 0)) := OI.get h.own rfl hi

theorem Srow.fz {w0 w : World} {B c : Nat} {X : List Int} (h : Srow w0 w B c X) {i : Nat} (hi : i < X.length) : w.frozen? ⟨B, i, none⟩ = false := (OI.putg h.own hi 0).2.1

theorem Srow.cap {w0 w : World} {B c : Nat} {X : List Int} (h : Srow w0 w B c X) : X.length ≤ c ∧ c ≤ 9223372036854775807 := by
  obtain ⟨ao, cap, he, h1, h2⟩ := (h.own.sb).open
  simp only [Value.slice.injEq] at he
  obtain ⟨-, -, rfl⟩ := he
  exact ⟨h1, h2⟩

theorem Srow.trans {w0 w1 w2 : World} {B c : Nat} {X Y : List Int} (h : Srow w0 w1 B c X) (k : Srow w1 w2 B c Y) : Srow w0 w2 B c Y := ⟨k.own, h.only.trans k.only⟩

def swp (X : List Int) (i j : Nat) : List Int := (X.set i (X.getD j 0)).set j (X.getD i 0)

theorem swp_len (X : List Int) (i j : Nat) : (swp X i j).length = X.length := by simp [swp]

theorem Srow.swap {w0 w : World} {B c : Nat} {X : List Int} (h : Srow w0 w B c X) {i j : Nat} (hi : i < X.length) (hj : j < X.length) :
    Srow w0 ((w.setCell ⟨B, i, none⟩ (.int .i64 (X.getD j 0))).setCell ⟨B, j, none⟩ (.int .i64 (X.getD i 0))) B c (swp X i j) := by
  have h1 := (OI.putg h.own hi (X.getD j 0)).2.2
  have h2 := (OI.putg h1 (k := j) (by rw [List.length_set]; exact hj) (X.getD i 0)).2.2
  exact ⟨by rw [swp_len]; exact h2, (h.only.set _ _).set _ _⟩

theorem getD_app {α : Type} (A : List α) (x : α) (Z : List α) (d : α) : (A ++ x :: Z).getD A.length d = x := by simp [List.getD]

theorem set_app {α : Type} (A : List α) (x y : α) (Z : List α) : (A ++ x :: Z).set A.length y = A ++ y :: Z := by
  rw [List.set_append_right _ _ (Nat.le_refl _), Nat.sub_self, List.set_cons_zero]

theorem swp_two (A M Z : List Int) (x y : Int) (i j : Nat) (hi : i = A.length) (hj : j = A.length + 1 + M.length) : swp (A ++ x :: (M ++ y :: Z)) i j = A ++ y :: (M ++ x :: Z) := by
  subst hi
  have e1 : (A ++ x :: (M ++ y :: Z)).getD j 0 = y := by
    have : A ++ x :: (M ++ y :: Z) = (A ++ x :: M) ++ y :: Z := by simp
    rw [this, show j = (A ++ x :: M).length by simp; omega]
    exact getD_app _ _ _ _
  unfold swp
  rw [e1, getD_app, set_app]
  have : A ++ y :: (M ++ y :: Z) = (A ++ y :: M) ++ y :: Z := by simp
  rw [this, show j = (A ++ y :: M).length by simp; omega, set_app]
  simp

theorem swp_comm (X : List Int) (i j : Nat) (h : i ≠ j) : swp X i j = swp X j i := by
  unfold swp
  rw [List.set_comm _ _ h]

def cmpv (a b : Int) : Int := if a < b then -1 else if b < a then 1 else 0

theorem cmpv_lt (a b : Int) : cmpv a b < 0 ↔ a < b := by
  unfold cmpv
  by_cases h : a < b
  · simp [h]
  · by_cases k : b < a <;> simp [h, k]

def Cmp (w0 : World) (B : Nat) (p : Value) (f : Int → Int) (D : Int → Prop) : Prop :=
  ∀ W, Only w0 W B → ∀ x y, D x → D y → Calls Tryd.prog 65 #[.int .i64 x, .int .i64 y, p] W fun e W' => e = .returned (.int .i64 (cmpv (f x) (f y))) ∧ ∃ q, W' = W.drewN q

def Lx (f : Int → Int) (x y : Int) : Prop := f x < f y ∨ f x = f y ∧ x < y

theorem Lx.trans {f : Int → Int} {x y z : Int} (h : Lx f x y) (k : Lx f y z) : Lx f x z := by unfold Lx at *; omega
theorem Lx.asymm {f : Int → Int} {x y : Int} (h : Lx f x y) : ¬ Lx f y x := by unfold Lx at *; omega
end Go.Proofs.YtkmefeihkmbngaaDoor

namespace Go.Proofs.YtkmefeihkmbngaaDoor
open Go.RowKit Go.Maps
set_option maxRecDepth 20000
set_option linter.unusedVariables false

def swk (A U M V Z : List Int) (k : Nat) : List Int := A ++ (V.take k ++ U.drop k) ++ M ++ (U.take k ++ V.drop k) ++ Z

theorem swk_step (A U M V Z : List Int) (k : Nat) (hk : k < U.length) (hv : V.length = U.length) :
    swp (swk A U M V Z k) (A.length + k) (A.length + U.length + M.length + k) = swk A U M V Z (k + 1) := by
  have hkv : k < V.length := by omega
  unfold swk
  rw [List.drop_eq_getElem_cons hk, List.drop_eq_getElem_cons hkv, List.take_succ_eq_append_getElem hk, List.take_succ_eq_append_getElem hkv]
  have e := swp_two (A ++ V.take k) (U.drop (k + 1) ++ M ++ U.take k) (V.drop (k + 1) ++ Z) U[k] V[k] (A.length + k) (A.length + U.length + M.length + k) (by simp; omega) (by simp; omega)
  simp only [List.append_assoc, List.cons_append, List.nil_append] at e ⊢
  exact e

theorem swk_len (A U M V Z : List Int) (k : Nat) (hk : k ≤ U.length) (hv : V.length = U.length) : (swk A U M V Z k).length = A.length + U.length + M.length + V.length + Z.length := by
  simp [swk]; omega

set_option maxHeartbeats 1000000 in
theorem swr_any {w0 w : World} {B c : Nat} (A U M V Z : List Int) (X : List Int) (hX : X = A ++ U ++ M ++ V ++ Z) (h : Srow w0 w B c X) (fv : Value) (hv : V.length = U.length) (hL : X.length ≤ 288)
    (a b n : Nat) (ha : a = A.length) (hb : b = A.length + U.length + M.length) (hn : n = U.length) (T : List Int) (hT : T = A ++ V ++ M ++ U ++ Z) :
    Calls Tryd.prog 77 #[.slice (some ⟨B, 0, none⟩) X.length c, .int .i64 a, .int .i64 b, .int .i64 n, fv] w fun e w' => e = .returned (.tuple #[]) ∧ Srow w0 w' B c T := by
  have hlen : A.length + U.length + M.length + V.length + Z.length = X.length := by rw [hX]; simp; omega
  have e0 : swk A U M V Z 0 = X := by rw [hX]; simp [swk]
  have H0 : Hid (Srow w0 w B c (swk A U M V Z 0)) := by rw [e0]; exact h
  clear e0
  have HC := h.cap
  obtain ⟨L, HLL⟩ : ∃ L, Hid (L = X.length) := ⟨_, rfl⟩
  rw [← HLL.out] at hlen HC hL ⊢
  have HV := hide hv
  have hn' : n = V.length := by omega
  have HA := hide ha
  have HBB := hide hb
  have HN := hide hn
  have hbn : b + n + Z.length = L := by omega
  have han : a + n + M.length = b := by omega
  have HTT := hide hT
  clear hX h hv ha hb hn hn' hlen HLL hT
  go_enter Tryd.func77, Tryd.ntmps77
  go_wp2
  go_loopw [10] (fun i wr => ∃ k : Nat, k ≤ n ∧ i = .int .i64 k ∧ Hid (Srow w0 wr B c (swk A U M V Z k))) (fun i _ => n - (intOf i).toNat)
  case atStart => exact ⟨0, Nat.zero_le _, rfl, H0⟩
  case round =>
    obtain ⟨k, hk, rfl, HS⟩ := hrel
    by_cases hlt : k < n
    · have hlt' : (k : Int) < (n : Int) := by omega
      have hkl := swk_len A U M V Z k (by rw [← HN.out]; exact hk) HV.out
      have hkl2 : (swk A U M V Z k).length = L := by rw [hkl]; have := HA.out; have := HBB.out; have := HN.out; have := HV.out; omega
      have HST := hide (swk_step A U M V Z k (by rw [← HN.out]; exact hlt) HV.out)
      rw [← HBB.out, ← HA.out] at HST
      obtain ⟨X1, HX1⟩ : ∃ X1, Hid (X1 = swk A U M V Z k) := ⟨_, rfl⟩
      rw [← HX1.out] at HS HST hkl2
      have c1 := HS.out.get (i := a + k) (by omega)
      have c2 := HS.out.get (i := b + k) (by omega)
      have f1 := HS.out.fz (i := a + k) (by omega)
      have f2 := HS.out.fz (i := b + k) (by omega)
      have hsw := HS.out.swap (i := a + k) (j := b + k) (by omega) (by omega)
      rw [HST.out] at hsw
      obtain ⟨x, hx⟩ : ∃ x, X1.getD (a + k) 0 = x := ⟨_, rfl⟩
      obtain ⟨y, hy⟩ : ∃ x, X1.getD (b + k) 0 = x := ⟨_, rfl⟩
      rw [hx] at c1 hsw
      rw [hy] at c2 hsw
      have HSW := hide hsw.drew
      have i1 : ((a : Int) + k) = ((a + k : Nat) : Int) := by omega
      have i2 : ((b : Int) + k) = ((b + k : Nat) : Int) := by omega
      have w1 : IntKind.i64.wrap ((a : Int) + k) = ((a + k : Nat) : Int) := by rw [IntKind.wrap_i64]; omega
      have w2 : IntKind.i64.wrap ((b : Int) + k) = ((b + k : Nat) : Int) := by rw [IntKind.wrap_i64]; omega
      obtain ⟨p, hp⟩ : ∃ p, a + k = p := ⟨_, rfl⟩
      obtain ⟨r, hr⟩ : ∃ r, b + k = r := ⟨_, rfl⟩
      rw [hp] at c1 f1 w1 HSW
      rw [hr] at c2 f2 w2 HSW
      have hpr : ¬ p = r := by omega
      have hpr' : ¬ r = p := by omega
      have hpL : (p : Int) < (L : Int) := by omega
      have hrL : (r : Int) < (L : Int) := by omega
      clear hx hy hsw i1 i2 hkl hkl2 hp hr
      go_wp2
      go_region
      go_wp2
      go_roundw
      case rel => exact ⟨k + 1, by omega, by go_num, HSW⟩
      case measure => simp [intOf]; omega
    · obtain rfl : k = n := by omega
      have hlt' : ¬ (k : Int) < (k : Int) := by omega
      have HF : Hid (Srow w0 wr B c T) := by
        have h := HS.out
        unfold swk at h
        rw [HN.out, List.take_of_length_le (Nat.le_of_eq HV.out), List.drop_of_length_le (Nat.le_refl _), List.take_of_length_le (Nat.le_refl _), List.drop_of_length_le (Nat.le_of_eq HV.out), List.append_nil, List.append_nil] at h
        rw [HTT.out]
        exact h
      go_wp2
      (try simp only [Exit.inBlock, Exit.then])
      refine bodyPost_end (results_none rfl _ _ _) rfl ?_
      exact ⟨rfl, HF.out⟩
end Go.Proofs.YtkmefeihkmbngaaDoor

namespace Go.Proofs.YtkmefeihkmbngaaDoor
open Go.RowKit Go.Maps
set_option maxRecDepth 20000
set_option linter.unusedVariables false

def Rst (T : List Int) (m i j : Nat) (X : List Int) : Prop :=
  ∃ P L R Q : List Int, X = P ++ L ++ R ++ Q ∧ T = P ++ R ++ L ++ Q ∧ P.length + i = m ∧ L.length = i ∧ R.length = j

theorem rst_left {T X : List Int} {m i j : Nat} (h : Rst T m i j X) (hij : j < i) : ∃ A U M V Z X' : List Int, X = A ++ U ++ M ++ V ++ Z ∧ V.length = U.length ∧ m - i = A.length ∧ m = A.length + U.length + M.length ∧ j = U.length ∧ X' = A ++ V ++ M ++ U ++ Z ∧ Rst T m (i - j) j X' := by
  obtain ⟨P, L, R, Q, rfl, rfl, h1, h2, h3⟩ := h
  refine ⟨P, L.take j, L.drop j, R, Q, _, by simp, by simp; omega, by omega, by simp; omega, by simp; omega, rfl, P ++ R, L.drop j, L.take j, Q, by simp, ?_, by simp; omega, by simp; omega, by simp; omega⟩
  have e : L = L.take j ++ L.drop j := (List.take_append_drop j L).symm
  conv => lhs; rw [e]
  simp

theorem rst_right {T X : List Int} {m i j : Nat} (h : Rst T m i j X) (hij : i < j) : ∃ A U M V Z X' : List Int, X = A ++ U ++ M ++ V ++ Z ∧ V.length = U.length ∧ m - i = A.length ∧ m + j - i = A.length + U.length + M.length ∧ i = U.length ∧ X' = A ++ V ++ M ++ U ++ Z ∧ Rst T m i (j - i) X' := by
  obtain ⟨P, L, R, Q, rfl, rfl, h1, h2, h3⟩ := h
  refine ⟨P, L, R.take (j - i), R.drop (j - i), Q, _, by simp, by simp; omega, by omega, by simp; omega, by omega, rfl, P, R.drop (j - i), R.take (j - i), L ++ Q, by simp, ?_, by omega, by simp; omega, by simp; omega⟩
  have e : R = R.take (j - i) ++ R.drop (j - i) := (List.take_append_drop (j - i) R).symm
  conv => lhs; rw [e]
  simp

theorem rst_last {T X : List Int} {m i : Nat} (h : Rst T m i i X) : ∃ A U M V Z : List Int, X = A ++ U ++ M ++ V ++ Z ∧ V.length = U.length ∧ m - i = A.length ∧ m = A.length + U.length + M.length ∧ i = U.length ∧ T = A ++ V ++ M ++ U ++ Z := by
  obtain ⟨P, L, R, Q, rfl, rfl, h1, h2, h3⟩ := h
  exact ⟨P, L, [], R, Q, by simp, by omega, by omega, by simp; omega, by omega, by simp⟩

theorem rst_len {T X : List Int} {m i j : Nat} (h : Rst T m i j X) : X.length = T.length ∧ i ≤ m ∧ m + j ≤ X.length := by
  obtain ⟨P, L, R, Q, rfl, rfl, h1, h2, h3⟩ := h
  refine ⟨by simp; omega, by omega, by simp; omega⟩

set_option maxHeartbeats 1000000 in
theorem rot_any {w0 w : World} {B c : Nat} (A U V Z : List Int) (X : List Int) (hX : X = A ++ U ++ V ++ Z) (h : Srow w0 w B c X) (fv : Value) (hL : X.length ≤ 288)
    (a m b : Nat) (ha : a = A.length) (hm : m = A.length + U.length) (hb : b = A.length + U.length + V.length) (h1 : a < m) (h2 : m < b) (T : List Int) (hT : T = A ++ V ++ U ++ Z) :
    Calls Tryd.prog 76 #[.slice (some ⟨B, 0, none⟩) X.length c, .int .i64 a, .int .i64 m, .int .i64 b, fv] w fun e w' => e = .returned (.tuple #[]) ∧ Srow w0 w' B c T := by
  have HS0 := hide h
  have HR0 : Hid (Rst T m (m - a) (b - m) X) := ⟨A, U, V, Z, hX, hT, by omega, by omega, by omega⟩
  have HLT := (rst_len HR0.out).1
  obtain ⟨L, HLL⟩ : ∃ L, Hid (L = X.length) := ⟨_, rfl⟩
  have HTL : Hid (T.length = L) := HLT.symm.trans HLL.out.symm
  have hbL : b ≤ L := by rw [HLL.out, hX]; simp; omega
  rw [← HLL.out] at hL ⊢
  have e1 : IntKind.i64.wrap ((m : Int) - a) = ((m - a : Nat) : Int) := by rw [IntKind.wrap_i64]; omega
  have e2 : IntKind.i64.wrap ((b : Int) - m) = ((b - m : Nat) : Int) := by rw [IntKind.wrap_i64]; omega
  obtain ⟨i0, hi0⟩ : ∃ i0, i0 = m - a := ⟨_, rfl⟩
  obtain ⟨j0, hj0⟩ : ∃ j0, j0 = b - m := ⟨_, rfl⟩
  rw [← hi0] at e1 HR0
  rw [← hj0] at e2 HR0
  have hi1 : 0 < i0 := by omega
  have hj1 : 0 < j0 := by omega
  have hmL : m ≤ 288 := by omega
  clear hX h ha hm hb hT HLT hi0 hj0
  go_enter Tryd.func76, Tryd.ntmps76
  go_wp2
  go_loopw [10, 11] (fun vi vj wr => ∃ i j : Nat, 0 < i ∧ 0 < j ∧ i ≤ 288 ∧ j ≤ 288 ∧ vi = .int .i64 i ∧ vj = .int .i64 j ∧ Hid (∃ X1, Rst T m i j X1 ∧ Srow w0 wr B c X1)) (fun vi vj _ => (intOf vi).toNat + (intOf vj).toNat)
  case atStart =>
    have := (rst_len HR0.out).2
    have := HLL.out
    exact ⟨i0, j0, hi1, hj1, by omega, by omega, by go_num, by go_num, X, HR0.out, HS0.out⟩
  case round =>
    obtain ⟨i, j, hi, hj, hi8, hj8, rfl, rfl, HX⟩ := hrel
    obtain ⟨X1, hr1, hs1⟩ := HX.out
    obtain ⟨hl1, hl2, hl3⟩ := rst_len hr1
    have hXL : X1.length = L := hl1.trans HTL.out
    have HR1 := hide hr1
    have HS1 := hide hs1
    clear HX hr1 hs1 hl1
    by_cases hij : i = j
    · subst hij
      obtain ⟨A1, U1, M1, V1, Z1, q1, q2, q3, q4, q5, q6⟩ := rst_last HR1.out
      have hC := swr_any A1 U1 M1 V1 Z1 X1 q1 HS1.out fv q2 (by omega) (m - i) m i q3 q4 q5 T q6
      rw [hXL] at hC
      have e3 : IntKind.i64.wrap ((m : Int) - i) = ((m - i : Nat) : Int) := by rw [IntKind.wrap_i64]; omega
      have hne : ((i : Int) != (i : Int)) = false := by simp
      clear q1 q2 q3 q4 q5 q6 hXL hl3
      obtain ⟨z, hz⟩ : ∃ z, z = m - i := ⟨_, rfl⟩
      rw [← hz] at hC e3
      clear hz
      go_wp2_with fail
      refine hC.mono ?_
      rintro e w2 ⟨rfl, hs2⟩
      have HS2 := hide hs2
      clear hs2
      go_wp2
      (try simp only [Exit.inBlock, Exit.then])
      refine bodyPost_end (results_none rfl _ _ _) rfl ?_
      exact ⟨rfl, HS2.out⟩
    · have hne : ((i : Int) != (j : Int)) = true := by simp; omega
      by_cases hlt : j < i
      · have hlt' : (j : Int) < (i : Int) := by omega
        obtain ⟨A1, U1, M1, V1, Z1, X2, q1, q2, q3, q4, q5, q6, q7⟩ := rst_left HR1.out hlt
        have hC := swr_any A1 U1 M1 V1 Z1 X1 q1 HS1.out fv q2 (by omega) (m - i) m j q3 q4 q5 X2 q6
        rw [hXL] at hC
        have HR2 := hide q7
        have e3 : IntKind.i64.wrap ((m : Int) - i) = ((m - i : Nat) : Int) := by rw [IntKind.wrap_i64]; omega
        have e4 : IntKind.i64.wrap ((i : Int) - j) = ((i - j : Nat) : Int) := by rw [IntKind.wrap_i64]; omega
        clear q1 q2 q3 q4 q5 q6 q7 hXL hl3
        obtain ⟨z, hz⟩ : ∃ z, z = m - i := ⟨_, rfl⟩
        rw [← hz] at hC e3
        obtain ⟨y, hy⟩ : ∃ z, z = i - j := ⟨_, rfl⟩
        rw [← hy] at e4 HR2
        have hy1 : 0 < y ∧ y + j = i := by omega
        clear hz hij hy
        go_wp2_with fail
        refine hC.mono ?_
        rintro e w2 ⟨rfl, hs2⟩
        have HS2 := hide hs2
        clear hs2
        go_wp2
        go_roundw
        case rel => exact ⟨y, j, hy1.1, hj, by omega, hj8, by go_num, rfl, X2, HR2.out, HS2.out⟩
        case measure => simp [intOf]; omega
      · have hlt' : ¬ (j : Int) < (i : Int) := by omega
        obtain ⟨A1, U1, M1, V1, Z1, X2, q1, q2, q3, q4, q5, q6, q7⟩ := rst_right HR1.out (by omega)
        have hC := swr_any A1 U1 M1 V1 Z1 X1 q1 HS1.out fv q2 (by omega) (m - i) (m + j - i) i q3 q4 q5 X2 q6
        rw [hXL] at hC
        have HR2 := hide q7
        have e3 : IntKind.i64.wrap ((m : Int) - i) = ((m - i : Nat) : Int) := by rw [IntKind.wrap_i64]; omega
        have e5 : IntKind.i64.wrap ((m : Int) + j) = (m : Int) + j := by rw [IntKind.wrap_i64]; omega
        have e6 : IntKind.i64.wrap ((m : Int) + j - i) = ((m + j - i : Nat) : Int) := by rw [IntKind.wrap_i64]; omega
        have e4 : IntKind.i64.wrap ((j : Int) - i) = ((j - i : Nat) : Int) := by rw [IntKind.wrap_i64]; omega
        clear q1 q2 q3 q4 q5 q6 q7 hXL hl3
        obtain ⟨z, hz⟩ : ∃ z, z = m - i := ⟨_, rfl⟩
        rw [← hz] at hC e3
        obtain ⟨y, hy⟩ : ∃ z, z = j - i := ⟨_, rfl⟩
        rw [← hy] at e4 HR2
        obtain ⟨x, hx⟩ : ∃ z, z = m + j - i := ⟨_, rfl⟩
        rw [← hx] at hC e6
        have hy1 : 0 < y ∧ y + i = j := by omega
        clear hz hij hy hx
        go_wp2_with fail
        refine hC.mono ?_
        rintro e w2 ⟨rfl, hs2⟩
        have HS2 := hide hs2
        clear hs2
        go_wp2
        go_roundw
        case rel => exact ⟨i, y, hi, hy1.1, hi8, by omega, rfl, by go_num, X2, HR2.out, HS2.out⟩
        case measure => simp [intOf]; omega
end Go.Proofs.YtkmefeihkmbngaaDoor

namespace Go.Proofs.YtkmefeihkmbngaaDoor
open Go.RowKit Go.Maps
set_option maxRecDepth 20000
set_option linter.unusedVariables false

def Mrg (w0 w' : World) (B c : Nat) (A C Z : List Int) (f : Int → Int) : Prop := ∃ Y T : List Int, T = A ++ (Y ++ Z) ∧ Y.Perm C ∧ Y.Pairwise (Lx f) ∧ Srow w0 w' B c T

theorem ins_sorted {f : Int → Int} {U1 U2 : List Int} {y : Int} (h : (U1 ++ U2).Pairwise (Lx f)) (h1 : ∀ u ∈ U1, Lx f u y) (h2 : ∀ u ∈ U2, Lx f y u) : (U1 ++ y :: U2).Pairwise (Lx f) := by
  rw [List.pairwise_append] at h ⊢
  refine ⟨h.1, List.pairwise_cons.2 ⟨h2, h.2.1⟩, fun a ha b hb => ?_⟩
  rcases List.mem_cons.1 hb with rfl | hb
  · exact h1 a ha
  · exact h.2.2 a ha b hb

theorem lx_of {f : Int → Int} {x y : Int} (h : ¬ f y < f x) (hc : f x = f y → x < y) : Lx f x y := by
  unfold Lx
  by_cases e : f x = f y
  · exact .inr ⟨e, hc e⟩
  · exact .inl (by omega)

theorem mono_of {f : Int → Int} {V : List Int} (h : V.Pairwise (Lx f)) {s t : Nat} (hst : s ≤ t) (ht : t < V.length) : f (V.getD s 0) ≤ f (V.getD t 0) := by
  by_cases e : s = t
  · subst e; exact Int.le_refl _
  · have := List.pairwise_iff_getElem.1 h s t (by omega) ht (by omega)
    rw [show V.getD s 0 = V[s]'(by omega) by simp [show s < V.length by omega], show V.getD t 0 = V[t] by simp [ht]]
    unfold Lx at this
    omega

theorem take_all {V : List Int} {P : Int → Prop} {k : Nat} (hk : k ≤ V.length) (h : ∀ t, t < k → P (V.getD t 0)) : ∀ v ∈ V.take k, P v := by
  intro v hv
  obtain ⟨i, hi, rfl⟩ := List.getElem_of_mem hv
  have hi2 : i < k := by rw [List.length_take] at hi; omega
  have := h i hi2
  rw [List.getElem_take]
  rwa [show V.getD i 0 = V[i]'(by omega) by simp [show i < V.length by omega]] at this

theorem drop_all {V : List Int} {P : Int → Prop} {k : Nat} (h : ∀ t, k ≤ t → t < V.length → P (V.getD t 0)) : ∀ v ∈ V.drop k, P v := by
  intro v hv
  obtain ⟨i, hi, rfl⟩ := List.getElem_of_mem hv
  rw [List.length_drop] at hi
  have := h (k + i) (by omega) (by omega)
  rw [List.getElem_drop]
  rwa [show V.getD (k + i) 0 = V[k + i]'(by omega) by simp [show k + i < V.length by omega]] at this

def lft (A V Z : List Int) (x : Int) (r : Nat) : List Int := A ++ (V.take r ++ x :: (V.drop r ++ Z))

theorem lft_len (A V Z : List Int) (x : Int) (r : Nat) : (lft A V Z x r).length = A.length + 1 + V.length + Z.length := by
  simp [lft]; omega

theorem lft_step (A V Z : List Int) (x : Int) (r : Nat) (hr : r < V.length) : swp (lft A V Z x r) (A.length + r) (A.length + r + 1) = lft A V Z x (r + 1) := by
  unfold lft
  rw [List.drop_eq_getElem_cons hr, List.take_succ_eq_append_getElem hr]
  have e := swp_two (A ++ V.take r) [] (V.drop (r + 1) ++ Z) x V[r] (A.length + r) (A.length + r + 1) (by simp; omega) (by simp; omega)
  simp only [List.append_assoc, List.cons_append, List.nil_append] at e ⊢
  exact e

theorem lft_get0 (A V Z : List Int) (x : Int) : (lft A V Z x 0).getD A.length 0 = x := by
  unfold lft
  exact getD_app A x _ 0

theorem lft_get (A V Z : List Int) (x : Int) {t : Nat} (ht : t < V.length) : (lft A V Z x 0).getD (A.length + 1 + t) 0 = V.getD t 0 := by
  unfold lft
  rw [List.getD_eq_getElem?_getD, List.getElem?_append_right (by omega), show A.length + 1 + t - A.length = t + 1 by omega]
  simp only [List.take_zero, List.nil_append, List.drop_zero, List.getElem?_cons_succ]
  rw [List.getElem?_append_left ht, ← List.getD_eq_getElem?_getD]

theorem rgt_step (A U Z : List Int) (y : Int) (r : Nat) (hr : r < U.length) : swp (lft A U Z y (r + 1)) (A.length + r + 1) (A.length + r) = lft A U Z y r := by
  rw [swp_comm _ _ _ (by omega)]
  unfold lft
  rw [List.drop_eq_getElem_cons hr, List.take_succ_eq_append_getElem hr]
  have e := swp_two (A ++ U.take r) [] (U.drop (r + 1) ++ Z) U[r] y (A.length + r) (A.length + r + 1) (by simp; omega) (by simp; omega)
  simp only [List.append_assoc, List.cons_append, List.nil_append] at e ⊢
  exact e

theorem rgt_get (A U Z : List Int) (y : Int) : (lft A U Z y U.length).getD (A.length + U.length) 0 = y ∧ ∀ t, t < U.length → (lft A U Z y U.length).getD (A.length + t) 0 = U.getD t 0 := by
  unfold lft
  rw [List.take_of_length_le (Nat.le_refl _)]
  refine ⟨?_, fun t ht => ?_⟩
  · have := getD_app (A ++ U) y (U.drop U.length ++ Z) 0
    rw [List.length_append] at this
    rw [← this]
    simp
  · rw [List.getD_eq_getElem?_getD, List.getElem?_append_right (by omega), Nat.add_sub_cancel_left, List.getElem?_append_left ht, ← List.getD_eq_getElem?_getD]

theorem lft_mem {A V Z : List Int} {x : Int} {r : Nat} {y : Int} : y ∈ lft A V Z x r ↔ y ∈ A ∨ y = x ∨ y ∈ V ∨ y ∈ Z := by
  unfold lft
  simp only [List.mem_append, List.mem_cons]
  have : y ∈ V ↔ y ∈ V.take r ∨ y ∈ V.drop r := by rw [← List.mem_append, List.take_append_drop]
  rw [this]
  constructor
  · rintro (h | h | h | h | h)
    · exact .inl h
    · exact .inr (.inr (.inl (.inl h)))
    · exact .inr (.inl h)
    · exact .inr (.inr (.inl (.inr h)))
    · exact .inr (.inr (.inr h))
  · rintro (h | h | (h | h) | h)
    · exact .inl h
    · exact .inr (.inr (.inl h))
    · exact .inr (.inl h)
    · exact .inr (.inr (.inr (.inl h)))
    · exact .inr (.inr (.inr (.inr h)))

theorem mrg_lft {w0 w : World} {B c : Nat} {A V Z : List Int} {x : Int} {k : Nat} {f : Int → Int} (h : Srow w0 w B c (lft A V Z x k)) (hs : V.Pairwise (Lx f)) (h1 : ∀ v ∈ V.take k, Lx f v x) (h2 : ∀ v ∈ V.drop k, Lx f x v) : Mrg w0 w B c A (x :: V) Z f := by
  refine ⟨V.take k ++ x :: V.drop k, _, by simp [lft], ?_, ins_sorted (by rw [List.take_append_drop]; exact hs) h1 h2, h⟩
  have := List.perm_middle (a := x) (l₁ := V.take k) (l₂ := V.drop k)
  rwa [List.take_append_drop] at this
end Go.Proofs.YtkmefeihkmbngaaDoor

namespace Go.Proofs.YtkmefeihkmbngaaDoor
open Go.RowKit Go.Maps
set_option maxRecDepth 20000
set_option linter.unusedVariables false

set_option maxHeartbeats 2000000 in
theorem sym1_any {w0 w : World} {B c : Nat} {p : Value} {f : Int → Int} {D : Int → Prop} (A V Z X : List Int) (x : Int) (hX : X = lft A V Z x 0) (h : Srow w0 w B c X) (hc : Cmp w0 B p f D) (hD : ∀ y ∈ X, D y) (hL : X.length ≤ 288)
    (a m b : Nat) (ha : a = A.length) (hm : m = A.length + 1) (hb : b = A.length + 1 + V.length) (hs : V.Pairwise (Lx f)) (hx : ∀ v ∈ V, f x = f v → x < v) :
    Calls Tryd.prog 75 #[.slice (some ⟨B, 0, none⟩) X.length c, .int .i64 a, .int .i64 m, .int .i64 b, .func (.func 65) #[] #[p]] w fun e w' => e = .returned (.tuple #[]) ∧ Mrg w0 w' B c A (x :: V) Z f := by
  have HS := hide h
  have hlen : A.length + 1 + V.length + Z.length = X.length := by rw [hX, lft_len]
  have HX := hide hX
  obtain ⟨L, HLL⟩ : ∃ L, Hid (L = X.length) := ⟨_, rfl⟩
  rw [← HLL.out] at hlen hL ⊢
  have hcap := h.cap
  rw [← HLL.out] at hcap
  have hbL : b ≤ L := by omega
  have HMA : Hid (m = a + 1) := by show _ = _; omega
  have hma1 : m ≤ a + 1 ∧ a + 1 ≤ m := by omega
  have hmb : m ≤ b := by omega
  have HVS := hide hs
  have HXC := hide hx
  have HCM := hide hc
  have HDD := hide hD
  have G0 : Hid (X.getD a 0 = x) := by show _ = _; rw [hX, ha]; exact lft_get0 A V Z x
  have G1 : Hid (∀ t, t < V.length → X.getD (m + t) 0 = V.getD t 0) := fun t ht => by rw [hX, hm]; exact lft_get A V Z x ht
  have HVL : Hid (V.length = b - m) := by show _ = _; omega
  have HA := hide ha
  have HDX : Hid (D x) := hD x (by rw [hX, lft_mem]; exact .inr (.inl rfl))
  have HDV : Hid (∀ v ∈ V, D v) := fun v hv => hD v (by rw [hX, lft_mem]; exact .inr (.inr (.inl hv)))
  have e1 : IntKind.i64.wrap ((m : Int) - a) = 1 := by rw [IntKind.wrap_i64]; omega
  clear h hX hs hx hc hD ha hb hlen
  have HM := hide hm
  clear hm
  go_enter Tryd.func75, Tryd.ntmps75
  go_wp2
  go_loopw [10, 11] (fun vi vj wr => ∃ i j : Nat, m ≤ i ∧ i ≤ j ∧ j ≤ b ∧ vi = .int .i64 i ∧ vj = .int .i64 j ∧ Hid (Srow w0 wr B c X) ∧ Hid ((∀ t, m + t < i → f (V.getD t 0) < f x) ∧ ∀ t, j ≤ m + t → t < V.length → f x ≤ f (V.getD t 0))) (fun vi vj _ => (intOf vj).toNat - (intOf vi).toNat)
  case atStart => exact ⟨m, b, Nat.le_refl _, by omega, Nat.le_refl _, rfl, rfl, HS, fun t ht => by omega, fun t ht ht2 => by have := HVL.out; omega⟩
  case round =>
    obtain ⟨i, j, hmi, hij, hjb, rfl, rfl, HSR, HP⟩ := hrel
    by_cases hlt : i < j
    · have hlt' : (i : Int) < (j : Int) := by omega
      obtain ⟨hh, hhe⟩ : ∃ hh, hh = (i + j) / 2 := ⟨_, rfl⟩
      have hh1 : i ≤ hh ∧ hh < j := by omega
      obtain ⟨t, ht⟩ : ∃ t, hh = m + t := ⟨hh - m, by omega⟩
      have htV : t < V.length := by rw [HVL.out]; omega
      have ch := HSR.out.get (i := hh) (by rw [← HLL.out]; omega)
      rw [ht, G1.out t htV, ← ht] at ch
      have hD1 := HDV.out (V.getD t 0) (by rw [show V.getD t 0 = V[t] by simp [htV]]; exact List.getElem_mem htV)
      have HMO : Hid (∀ s, (s ≤ t → f (V.getD s 0) ≤ f (V.getD t 0)) ∧ (t ≤ s → s < V.length → f (V.getD t 0) ≤ f (V.getD s 0))) := fun s => ⟨fun h => mono_of HVS.out h htV, fun h h2 => mono_of HVS.out h h2⟩
      obtain ⟨y, HY⟩ : ∃ y, Hid (y = V.getD t 0) := ⟨_, rfl⟩
      rw [← HY.out] at ch hD1 HMO
      have HC : Hid (∀ n, Calls Tryd.prog 65 #[.int .i64 y, .int .i64 x, p] (wr.drewN n) fun e W' => e = .returned (.int .i64 (cmpv (f y) (f x))) ∧ ∃ k, W' = wr.drewN k) := fun n =>
        (HCM.out _ ((HSR.out.drewN n).only) y x hD1 HDX.out).mono fun e W' ⟨he, k, hk⟩ => ⟨he, n + k, by rw [hk, World.drewN_drewN]⟩
      have cxr := HSR.out.get (i := a) (by rw [← HLL.out]; omega)
      rw [G0.out] at cxr
      have hcv := cmpv_lt (f y) (f x)
      obtain ⟨cv, HCV⟩ : ∃ cv, Hid (cv = cmpv (f y) (f x)) := ⟨_, rfl⟩
      rw [← HCV.out] at hcv HC
      have hq : ((i : Int) + (j : Int)) / 2 = (hh : Int) := by omega
      have hhL : (hh : Int) < (L : Int) := by omega
      have haL : (a : Int) < (L : Int) := by omega
      have HHT := hide ht
      clear hhe ht
      by_cases hlt2 : cv < 0
      · have HFL := hcv.1 hlt2
        have HPN : Hid ((∀ s, m + s < hh + 1 → f (V.getD s 0) < f x) ∧ ∀ s, j ≤ m + s → s < V.length → f x ≤ f (V.getD s 0)) := ⟨fun s hs => by
          have := (HMO.out s).1 (by have := HHT.out; omega)
          omega, HP.out.2⟩
        clear hcv
        go_wp2
        go_quiet (first | (go_at_call 65; exact HC.out _))
        go_wp2
        go_roundw
        case rel => exact ⟨hh + 1, j, by omega, by omega, hjb, by go_num, rfl, HSR.out.drewN _, HPN⟩
        case measure => simp [intOf]; omega
      · have HFL : ¬ f y < f x := fun q => hlt2 (hcv.2 q)
        have HPN : Hid ((∀ s, m + s < i → f (V.getD s 0) < f x) ∧ ∀ s, hh ≤ m + s → s < V.length → f x ≤ f (V.getD s 0)) := ⟨HP.out.1, fun s hs hs2 => by
          have := (HMO.out s).2 (by have := HHT.out; omega) hs2
          omega⟩
        clear hcv
        go_wp2
        go_quiet (first | (go_at_call 65; exact HC.out _))
        go_wp2
        go_roundw
        case rel => exact ⟨i, hh, hmi, by omega, by omega, rfl, by go_num, HSR.out.drewN _, HPN⟩
        case measure => simp [intOf]; omega
    · obtain rfl : i = j := by omega
      have hlt' : ¬ (i : Int) < (i : Int) := by omega
      have HS2 := HSR
      rw [HX.out] at HS2
      obtain ⟨r, hr⟩ : ∃ r, i = m + r := ⟨i - m, by omega⟩
      have hrV : r ≤ V.length := by rw [HVL.out]; omega
      have HPF : Hid ((∀ v ∈ V.take r, Lx f v x) ∧ ∀ v ∈ V.drop r, Lx f x v) := by
        refine ⟨take_all hrV fun t ht => .inl (HP.out.1 t (by omega)), drop_all fun t ht ht2 => lx_of (by have := HP.out.2 t (by omega) ht2; omega) (HXC.out _ ?_)⟩
        rw [show V.getD t 0 = V[t] by simp [ht2]]
        exact List.getElem_mem ht2
      have HRR := hide hr
      clear hr HP
      go_wp2
      go_loopw [13] (fun vk wr => ∃ k : Nat, a + k + 1 ≤ i ∧ vk = .int .i64 ((a : Int) + k) ∧ Hid (Srow w0 wr B c (lft A V Z x k))) (fun vk _ => i - (intOf vk).toNat)
      case atStart => exact ⟨0, by omega, by simp, HS2⟩
      case round =>
        obtain ⟨k, hk, rfl, HSK⟩ := hrel
        by_cases hlt3 : a + k + 1 < i
        · have hlt3' : (a : Int) + k < (i : Int) - 1 := by omega
          have hkV : k < V.length := by have := HRR.out; omega
          have HST := hide (lft_step A V Z x k hkV)
          rw [← HA.out] at HST
          have hkl : (lft A V Z x k).length = L := by rw [HLL.out, HX.out, lft_len, lft_len]
          obtain ⟨X1, HX1⟩ : ∃ X1, Hid (X1 = lft A V Z x k) := ⟨_, rfl⟩
          rw [← HX1.out] at HSK HST hkl
          have c1 := HSK.out.get (i := a + k) (by omega)
          have c2 := HSK.out.get (i := a + k + 1) (by omega)
          have f1 := HSK.out.fz (i := a + k) (by omega)
          have f2 := HSK.out.fz (i := a + k + 1) (by omega)
          have hsw := HSK.out.swap (i := a + k) (j := a + k + 1) (by omega) (by omega)
          rw [HST.out] at hsw
          obtain ⟨x1, hx1⟩ : ∃ x, X1.getD (a + k) 0 = x := ⟨_, rfl⟩
          obtain ⟨y1, hy1⟩ : ∃ x, X1.getD (a + k + 1) 0 = x := ⟨_, rfl⟩
          rw [hx1] at c1 hsw
          rw [hy1] at c2 hsw
          have HSW := hide hsw.drew
          obtain ⟨u, hu⟩ : ∃ u, a + k = u := ⟨_, rfl⟩
          rw [hu] at c1 c2 f1 f2 HSW
          have hau : (a : Int) + k = (u : Int) := by omega
          have w1 : IntKind.i64.wrap ((u : Int) + 1) = ((u + 1 : Nat) : Int) := by rw [IntKind.wrap_i64]; omega
          obtain ⟨z, hz⟩ : ∃ z, u + 1 = z := ⟨_, rfl⟩
          rw [hz] at c2 f2 HSW w1
          have hzu : (u : Int) + 1 = (z : Int) := by omega
          have n1 : ¬ u = z := by omega
          have n2 : ¬ z = u := by omega
          have huL : (u : Int) < (L : Int) := by omega
          have hzL : (z : Int) < (L : Int) := by omega
          have hui : (u : Int) < (i : Int) - 1 := by omega
          rw [hau]
          clear hx1 hy1 hsw hkl hlt3' hau hzu
          go_wp2
          go_region
          go_wp2
          go_roundw
          case rel => exact ⟨k + 1, by omega, by go_num, HSW⟩
          case measure => simp [intOf]; omega
        · have hlt3' : ¬ (a : Int) + k < (i : Int) - 1 := by omega
          have hkr : k = r := by have := HRR.out; have := HMA.out; omega
          have HF : Hid (Mrg w0 wr B c A (x :: V) Z f) := mrg_lft HSK.out HVS.out (by rw [hkr]; exact HPF.out.1) (by rw [hkr]; exact HPF.out.2)
          clear hkr
          go_wp2
          (try simp only [Exit.inBlock, Exit.then])
          refine bodyPost_ret (results_none rfl _ _ _) rfl ?_
          exact ⟨rfl, HF.out⟩
end Go.Proofs.YtkmefeihkmbngaaDoor

