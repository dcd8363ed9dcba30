import Derived.Test.YtncniahpglgkmaaG15Jhp
import Derived.Test.YtncniahpglgkmaaG05QHrise
namespace Go.Proofs.Ytncniahpglgkmaa
open Go.RowKit Go.Maps
set_option maxRecDepth 20000
set_option linter.unusedVariables false

abbrev Only := H4.Only

/-- The row that is sorted: at block B, n long; nothing else is written. -/
structure Srow (w0 w : World) (B c : Nat) (X : List Int) : Prop where
  own : OI w 0 (.slice (some ⟨B, 0, none⟩) X.length c) X
  only : Only w0 w B

theorem Srow.refl {w : World} {B c : Nat} {X : List Int} (h : OI w 0 (.slice (some ⟨B, 0, none⟩) X.length c) X) : Srow w w B c X := ⟨h, H4.Only.refl _ _⟩

theorem Srow.drewN {w0 w : World} {B c : Nat} {X : List Int} (h : Srow w0 w B c X) (n : Nat) : Srow w0 (w.drewN n) B c X := ⟨h.own.move fun _ _ => rfl, h.only.drewN n⟩
theorem Srow.drew {w0 w : World} {B c : Nat} {X : List Int} (h : Srow w0 w B c X) : Srow w0 w.drew B c X := ⟨h.own.move fun _ _ => rfl, h.only.drew⟩

theorem Srow.get {w0 w : World} {B c : Nat} {X : List Int} (h : Srow w0 w B c X) {i : Nat} (hi : i < X.length) : w.cell? ⟨B, i, none⟩ = some (.int .i64 (X.getD i 0)) := OI.get h.own rfl hi

theorem Srow.fz {w0 w : World} {B c : Nat} {X : List Int} (h : Srow w0 w B c X) {i : Nat} (hi : i < X.length) : w.frozen? ⟨B, i, none⟩ = false := (OI.putg h.own hi 0).2.1

theorem Srow.cap {w0 w : World} {B c : Nat} {X : List Int} (h : Srow w0 w B c X) : X.length ≤ c ∧ c ≤ 9223372036854775807 := by
  obtain ⟨ao, cap, he, h1, h2⟩ := (h.own.sb).open
  simp only [Value.slice.injEq] at he
  obtain ⟨-, -, rfl⟩ := he
  exact ⟨h1, h2⟩

theorem Srow.trans {w0 w1 w2 : World} {B c : Nat} {X Y : List Int} (h : Srow w0 w1 B c X) (k : Srow w1 w2 B c Y) : Srow w0 w2 B c Y := ⟨k.own, h.only.trans k.only⟩

def swp (X : List Int) (i j : Nat) : List Int := (X.set i (X.getD j 0)).set j (X.getD i 0)

theorem swp_len (X : List Int) (i j : Nat) : (swp X i j).length = X.length := by simp [swp]

theorem Srow.swap {w0 w : World} {B c : Nat} {X : List Int} (h : Srow w0 w B c X) {i j : Nat} (hi : i < X.length) (hj : j < X.length) :
    Srow w0 ((w.setCell ⟨B, i, none⟩ (.int .i64 (X.getD j 0))).setCell ⟨B, j, none⟩ (.int .i64 (X.getD i 0))) B c (swp X i j) := by
  have h1 := (OI.putg h.own hi (X.getD j 0)).2.2
  have h2 := (OI.putg h1 (k := j) (by rw [List.length_set]; exact hj) (X.getD i 0)).2.2
  exact ⟨by rw [swp_len]; exact h2, (h.only.set _ _).set _ _⟩

theorem getD_app {α : Type} (A : List α) (x : α) (Z : List α) (d : α) : (A ++ x :: Z).getD A.length d = x := by simp [List.getD]

theorem set_app {α : Type} (A : List α) (x y : α) (Z : List α) : (A ++ x :: Z).set A.length y = A ++ y :: Z := by
  rw [List.set_append_right _ _ (Nat.le_refl _), Nat.sub_self, List.set_cons_zero]

/-- Two places, the row between. -/
theorem swp_two (A M Z : List Int) (x y : Int) (i j : Nat) (hi : i = A.length) (hj : j = A.length + 1 + M.length) : swp (A ++ x :: (M ++ y :: Z)) i j = A ++ y :: (M ++ x :: Z) := by
  subst hi
  have e1 : (A ++ x :: (M ++ y :: Z)).getD j 0 = y := by
    have : A ++ x :: (M ++ y :: Z) = (A ++ x :: M) ++ y :: Z := by simp
    rw [this, show j = (A ++ x :: M).length by simp; omega]
    exact getD_app _ _ _ _
  unfold swp
  rw [e1, getD_app, set_app]
  have : A ++ y :: (M ++ y :: Z) = (A ++ y :: M) ++ y :: Z := by simp
  rw [this, show j = (A ++ y :: M).length by simp; omega, set_app]
  simp

theorem swp_comm (X : List Int) (i j : Nat) (h : i ≠ j) : swp X i j = swp X j i := by
  unfold swp
  rw [List.set_comm _ _ h]

/-- What is asked of the comparison: in every world that the sort passes through. -/
def cmpv (a b : Int) : Int := if a < b then -1 else if b < a then 1 else 0

theorem cmpv_lt (a b : Int) : cmpv a b < 0 ↔ a < b := by
  unfold cmpv
  by_cases h : a < b
  · simp [h]
  · by_cases k : b < a <;> simp [h, k]

def Cmp (w0 : World) (B : Nat) (p : Value) (f : Int → Int) (D : Int → Prop) : Prop :=
  ∀ W, Only w0 W B → ∀ x y, D x → D y → Calls Try.prog 29 #[.int .i64 x, .int .i64 y, p] W fun e W' => e = .returned (.int .i64 (cmpv (f x) (f y))) ∧ ∃ q, W' = W.drewN q

theorem Cmp.on {w0 w1 : World} {B : Nat} {p : Value} {f : Int → Int} {D : Int → Prop} (h : Cmp w0 B p f D) (ho : Only w0 w1 B) : Cmp w1 B p f D := fun W hW x y hx hy => h W (ho.trans hW) x y hx hy

/-- The order that is kept: by f, then as the numbers rise. -/
def Lx (f : Int → Int) (x y : Int) : Prop := f x < f y ∨ f x = f y ∧ x < y

theorem Lx.trans {f : Int → Int} {x y z : Int} (h : Lx f x y) (k : Lx f y z) : Lx f x z := by unfold Lx at *; omega
theorem Lx.asymm {f : Int → Int} {x y : Int} (h : Lx f x y) : ¬ Lx f y x := by unfold Lx at *; omega
end Go.Proofs.Ytncniahpglgkmaa

namespace Go.Proofs.Ytncniahpglgkmaa
open Go.RowKit Go.Maps
set_option maxRecDepth 20000
set_option linter.unusedVariables false

/-- Two ranges of one length change places: so many done. -/
def swk (A U M V Z : List Int) (k : Nat) : List Int := A ++ (V.take k ++ U.drop k) ++ M ++ (U.take k ++ V.drop k) ++ Z

theorem swk_step (A U M V Z : List Int) (k : Nat) (hk : k < U.length) (hv : V.length = U.length) :
    swp (swk A U M V Z k) (A.length + k) (A.length + U.length + M.length + k) = swk A U M V Z (k + 1) := by
  have hkv : k < V.length := by omega
  unfold swk
  rw [List.drop_eq_getElem_cons hk, List.drop_eq_getElem_cons hkv, List.take_succ_eq_append_getElem hk, List.take_succ_eq_append_getElem hkv]
  have e := swp_two (A ++ V.take k) (U.drop (k + 1) ++ M ++ U.take k) (V.drop (k + 1) ++ Z) U[k] V[k] (A.length + k) (A.length + U.length + M.length + k) (by simp; omega) (by simp; omega)
  simp only [List.append_assoc, List.cons_append, List.nil_append] at e ⊢
  exact e

theorem swk_len (A U M V Z : List Int) (k : Nat) (hk : k ≤ U.length) (hv : V.length = U.length) : (swk A U M V Z k).length = A.length + U.length + M.length + V.length + Z.length := by
  simp [swk]; omega

set_option maxHeartbeats 1000000 in
theorem swr_any {w0 w : World} {B c : Nat} (A U M V Z : List Int) (X : List Int) (hX : X = A ++ U ++ M ++ V ++ Z) (h : Srow w0 w B c X) (fv : Value) (hv : V.length = U.length) (hL : X.length ≤ 288)
    (a b n : Nat) (ha : a = A.length) (hb : b = A.length + U.length + M.length) (hn : n = U.length) (T : List Int) (hT : T = A ++ V ++ M ++ U ++ Z) :
    Calls Try.prog 63 #[.slice (some ⟨B, 0, none⟩) X.length c, .int .i64 a, .int .i64 b, .int .i64 n, fv] w fun e w' => e = .returned (.tuple #[]) ∧ Srow w0 w' B c T := by
  have hlen : A.length + U.length + M.length + V.length + Z.length = X.length := by rw [hX]; simp; omega
  have e0 : swk A U M V Z 0 = X := by rw [hX]; simp [swk]
  have H0 : Hid (Srow w0 w B c (swk A U M V Z 0)) := by rw [e0]; exact h
  clear e0
  have HC := h.cap
  obtain ⟨L, HLL⟩ : ∃ L, Hid (L = X.length) := ⟨_, rfl⟩
  rw [← HLL.out] at hlen HC hL ⊢
  have HV := hide hv
  have hn' : n = V.length := by omega
  have HA := hide ha
  have HBB := hide hb
  have HN := hide hn
  have hbn : b + n + Z.length = L := by omega
  have han : a + n + M.length = b := by omega
  have HTT := hide hT
  clear hX h hv ha hb hn hn' hlen HLL hT
  go_enter Try.func63, Try.ntmps63
  go_wp2
  go_loopw [10] (fun i wr => ∃ k : Nat, k ≤ n ∧ i = .int .i64 k ∧ Hid (Srow w0 wr B c (swk A U M V Z k))) (fun i _ => n - (intOf i).toNat)
  case atStart => exact ⟨0, Nat.zero_le _, rfl, H0⟩
  case round =>
    obtain ⟨k, hk, rfl, HS⟩ := hrel
    by_cases hlt : k < n
    · have hlt' : (k : Int) < (n : Int) := by omega
      have hkl := swk_len A U M V Z k (by rw [← HN.out]; exact hk) HV.out
      have hkl2 : (swk A U M V Z k).length = L := by rw [hkl]; have := HA.out; have := HBB.out; have := HN.out; have := HV.out; omega
      have HST := hide (swk_step A U M V Z k (by rw [← HN.out]; exact hlt) HV.out)
      rw [← HBB.out, ← HA.out] at HST
      obtain ⟨X1, HX1⟩ : ∃ X1, Hid (X1 = swk A U M V Z k) := ⟨_, rfl⟩
      rw [← HX1.out] at HS HST hkl2
      have c1 := HS.out.get (i := a + k) (by omega)
      have c2 := HS.out.get (i := b + k) (by omega)
      have f1 := HS.out.fz (i := a + k) (by omega)
      have f2 := HS.out.fz (i := b + k) (by omega)
      have hsw := HS.out.swap (i := a + k) (j := b + k) (by omega) (by omega)
      rw [HST.out] at hsw
      obtain ⟨x, hx⟩ : ∃ x, X1.getD (a + k) 0 = x := ⟨_, rfl⟩
      obtain ⟨y, hy⟩ : ∃ x, X1.getD (b + k) 0 = x := ⟨_, rfl⟩
      rw [hx] at c1 hsw
      rw [hy] at c2 hsw
      have HSW := hide hsw.drew
      have i1 : ((a : Int) + k) = ((a + k : Nat) : Int) := by omega
      have i2 : ((b : Int) + k) = ((b + k : Nat) : Int) := by omega
      have w1 : IntKind.i64.wrap ((a : Int) + k) = ((a + k : Nat) : Int) := by rw [IntKind.wrap_i64]; omega
      have w2 : IntKind.i64.wrap ((b : Int) + k) = ((b + k : Nat) : Int) := by rw [IntKind.wrap_i64]; omega
      obtain ⟨p, hp⟩ : ∃ p, a + k = p := ⟨_, rfl⟩
      obtain ⟨r, hr⟩ : ∃ r, b + k = r := ⟨_, rfl⟩
      rw [hp] at c1 f1 w1 HSW
      rw [hr] at c2 f2 w2 HSW
      have hpr : ¬ p = r := by omega
      have hpr' : ¬ r = p := by omega
      have hpL : (p : Int) < (L : Int) := by omega
      have hrL : (r : Int) < (L : Int) := by omega
      clear hx hy hsw i1 i2 hkl hkl2 hp hr
      go_wp2
      go_region
      go_wp2
      go_roundw
      case rel => exact ⟨k + 1, by omega, by go_num, HSW⟩
      case measure => simp [intOf]; omega
    · obtain rfl : k = n := by omega
      have hlt' : ¬ (k : Int) < (k : Int) := by omega
      have HF : Hid (Srow w0 wr B c T) := by
        have h := HS.out
        unfold swk at h
        rw [HN.out, List.take_of_length_le (Nat.le_of_eq HV.out), List.drop_of_length_le (Nat.le_refl _), List.take_of_length_le (Nat.le_refl _), List.drop_of_length_le (Nat.le_of_eq HV.out), List.append_nil, List.append_nil] at h
        rw [HTT.out]
        exact h
      go_wp2
      (try simp only [Exit.inBlock, Exit.then])
      refine bodyPost_end (results_none rfl _ _ _) rfl ?_
      exact ⟨rfl, HF.out⟩
end Go.Proofs.Ytncniahpglgkmaa

