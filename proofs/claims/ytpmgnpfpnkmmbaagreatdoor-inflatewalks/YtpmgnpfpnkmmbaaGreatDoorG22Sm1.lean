import Derived.Test.YtpmgnpfpnkmmbaaGreatDoorG21Krg
import Derived.Test.YtpmgnpfpnkmmbaaGreatDoorG20Usd
import Derived.Test.YtpmgnpfpnkmmbaaGreatDoorG19QHops
namespace Go.Proofs.YtpmgnpfpnkmmbaaGreatDoor
open Go.RowKit Go.Maps
set_option maxRecDepth 20000
set_option linter.unusedVariables false

/-- A good list of lengths. -/
structure Gd (f n : List Int) (lim : Int) : Prop where
  len : n.length = f.length
  zero : ∀ s, s < f.length → f.getD s 0 = 0 → n.getD s 0 = 0
  ok : LenOk f n lim f.length
  one : (us6 f).length = 1 → ∀ s ∈ us6 f, n.getD s 0 = 1
  all : 2 ≤ (us6 f).length → kr (nn n) (us6 f) = 2 ^ 60

structure Sound (f : List Int) : Prop where
  len : f.length ≤ 288
  ok : bnd f 4294967296 f.length

theorem Sound.nn {f : List Int} (h : Sound f) (i : Nat) : 0 ≤ f.getD i 0 := by
  by_cases c : i < f.length
  · exact (h.ok i c).1
  · rw [List.getD_eq_getElem?_getD, List.getElem?_eq_none (by omega)]; exact Int.le_refl _

theorem Gd.at {f n : List Int} {lim : Int} (h : Gd f n lim) (hs : Sound f) (i : Nat) : 0 ≤ n.getD i 0 ∧ n.getD i 0 ≤ 60 := by
  by_cases c : i < f.length
  · by_cases z : f.getD i 0 = 0
    · rw [h.zero i c z]; omega
    · have := h.ok i (mem_us.2 ⟨c, by have := hs.nn i; omega⟩)
      omega
  · rw [List.getD_eq_getElem?_getD, List.getElem?_eq_none (by rw [h.len]; omega)]
    exact ⟨Int.le_refl _, by decide⟩

theorem Gd.krv {f n : List Int} {lim : Int} (h : Gd f n lim) (hs : Sound f) (h2 : 2 ≤ (us6 f).length) : krV f n lim = 1152921504606846976 := by
  have e : kS f n f.length = 2 ^ 60 := h.all h2
  have := kst_ok hs.nn h.ok (by rw [e]; exact Nat.le_refl _)
  unfold krV
  rw [if_neg (fun q => q h.len), this, e]
  rfl

theorem cs_fl {f n : List Int} (hs : Sound f) (k : Nat) (h : ∀ s ∈ usk f k, 0 ≤ n.getD s 0) : cs f n k = ((fl (fq f) (nn n) (usk f k) : Nat) : Int) := by
  induction k with
  | zero => rfl
  | succ k ih =>
    have ih' := ih fun s hs' => h s (usk_sub hs')
    have hk := hs.nn k
    simp only [cs]
    rw [ih', usk_succ]
    by_cases c : 0 < f.getD k 0
    · have hnk := h k (by rw [usk_succ, if_pos c]; simp)
      rw [if_pos c]
      unfold fl
      rw [List.map_append, List.sum_append]
      simp only [List.map_cons, List.map_nil, List.sum_cons, List.sum_nil, Nat.add_zero]
      rw [Int.natCast_add, Int.natCast_mul]
      have e1 : ((fq f k : Nat) : Int) = f.getD k 0 := by unfold fq; omega
      have e2 : ((nn n k : Nat) : Int) = n.getD k 0 := by unfold Go.Proofs.YtpmgnpfpnkmmbaaGreatDoor.nn; omega
      rw [e1, e2]
    · rw [if_neg c, List.append_nil]
      have e0 : f.getD k 0 = 0 := by omega
      rw [e0, Int.zero_mul, Int.add_zero]

theorem cost_at {f n : List Int} {lim : Int} (hs : Sound f) (ho : LenOk f n lim f.length) (i : Nat) (hi : i < f.length) : 0 ≤ f.getD i 0 * n.getD i 0 ∧ f.getD i 0 * n.getD i 0 ≤ 1236950581248 := by
  have h1 := hs.ok i hi
  by_cases c : f.getD i 0 = 0
  · rw [c, Int.zero_mul]; omega
  · have h2 := ho i (mem_us.2 ⟨hi, by omega⟩)
    refine ⟨Int.mul_nonneg h1.1 (by omega), ?_⟩
    have := Int.mul_le_mul h1.2 h2.2.2 (show 0 ≤ n.getD i 0 by omega) (by omega)
    omega

theorem sum_map_le {f g : Nat → Nat} {l : List Nat} (h : ∀ s ∈ l, f s ≤ g s) : (l.map f).sum ≤ (l.map g).sum := by
  induction l with
  | nil => exact Nat.le_refl _
  | cons a r ih =>
    have h1 := ih fun s hs => h s (List.mem_cons_of_mem _ hs)
    have h2 := h a (by simp)
    simp only [List.map_cons, List.sum_cons]
    omega

theorem fb61 : 1236950581248 < fb 61 := by decide +kernel

theorem kr_pos {len : Nat → Nat} {l : List Nat} (h : l ≠ []) : 0 < kr len l := by
  cases l with
  | nil => exact absurd rfl h
  | cons a r =>
    have := Nat.two_pow_pos (60 - len a)
    simp only [kr, List.map_cons, List.sum_cons]
    omega

theorem kr_one {len : Nat → Nat} {l : List Nat} (hk : kr len l = 2 ^ 60) (h2 : 2 ≤ l.length) {s : Nat} (hs : s ∈ l) : 1 ≤ len s := by
  apply Classical.byContradiction
  intro c
  obtain ⟨a, b, rfl⟩ := List.append_of_mem hs
  have e : kr len (a ++ s :: b) = 2 ^ (60 - len s) + kr len (a ++ b) := by
    have := perm_sum (fun s => 2 ^ (60 - len s)) (List.perm_middle (a := s) (l₁ := a) (l₂ := b))
    unfold kr
    rw [this]
    simp
  have hne : a ++ b ≠ [] := fun e => by
    have : (a ++ b).length = 0 := by rw [e]; rfl
    simp at h2 this
    rw [this.1, this.2] at h2
    simp at h2
  have hp := kr_pos (len := len) hne
  have h0 : len s = 0 := by omega
  rw [e, h0, Nat.sub_zero] at hk
  omega

theorem dpt_get {f : List Int} {s : Nat} (h : s < f.length) : (dpt f).getD s 0 = (dp f s : Int) := by
  unfold dpt
  rw [List.getD_eq_getElem?_getD, List.getElem?_map, List.getElem?_range h]
  rfl

theorem kr_congr {a b : Nat → Nat} {l : List Nat} (h : ∀ s ∈ l, a s = b s) : kr a l = kr b l := map_sum_congr fun s hs => by rw [h s hs]
theorem fl_congr {f a b : Nat → Nat} {l : List Nat} (h : ∀ s ∈ l, a s = b s) : fl f a l = fl f b l := map_sum_congr fun s hs => by rw [h s hs]

theorem nn_dpt {f : List Int} {s : Nat} (h : s ∈ us6 f) : nn (dpt f) s = dp f s := by
  unfold nn
  rw [dpt_get (mem_us.1 h).1]
  rfl

theorem dp_facts {f : List Int} (hs : Sound f) (h2 : 2 ≤ (us6 f).length) : kr (dp f) (us6 f) = 2 ^ 60 ∧ (∀ s ∈ us6 f, dp f s ≤ 59) ∧ ∀ N o, (∀ s ∈ us6 f, o s ≤ N) → ((us6 f).map fun s => 2 ^ (N - o s)).sum ≤ 2 ^ N → fl (fq f) (dp f) (us6 f) ≤ fl (fq f) o (us6 f) := by
  have hd := hrun_done ((us6 f).length - 1) (leafs (fq f) (us6 f)) (fun _ => 0) (by rw [leafs_len]; omega)
  obtain ⟨a, b, _, d⟩ := depths_good (us_nodup f) (fun s h => (fq_le hs.ok h).1) (Nat.lt_of_le_of_lt (tot_le hs.ok hs.len) fb61) hd
  have e : ∀ s, dp f s = hrun ((us6 f).length - 1) (leafs (fq f) (us6 f)) (fun _ => 0) s := fun s => by unfold dp; rw [if_neg (by omega)]
  have e' : dp f = hrun ((us6 f).length - 1) (leafs (fq f) (us6 f)) (fun _ => 0) := funext e
  rw [e']
  exact ⟨a, b, d⟩

theorem gd_dpt {f : List Int} (hs : Sound f) : Gd f (dpt f) 60 := by
  have hone : (us6 f).length = 1 → ∀ s ∈ us6 f, (dpt f).getD s 0 = 1 := fun h s hm => by
    rw [dpt_get (mem_us.1 hm).1]
    unfold dp
    rw [if_pos h, if_pos hm]
    rfl
  refine ⟨dpt_len f, fun s h h0 => ?_, fun s hm => ?_, hone, fun h2 => ?_⟩
  · rw [dpt_get h, dp_out (fun hm => by have := (mem_us.1 hm).2; omega)]; rfl
  · have hm' : s ∈ us6 f := hm
    have hpos := List.length_pos_of_mem hm'
    by_cases h1 : (us6 f).length = 1
    · rw [hone h1 s hm]; omega
    · obtain ⟨a, b, _⟩ := dp_facts hs (by omega)
      rw [dpt_get (mem_us.1 hm').1]
      have h3 := kr_one a (by omega) hm'
      have h4 := b s hm'
      omega
  · rw [kr_congr (fun s h => nn_dpt h)]
    exact (dp_facts hs h2).1

/-- Nothing within Kraft's rule costs less. -/
theorem dp_best {f o : List Int} {lim : Int} (hs : Sound f) (ho : LenOk f o lim f.length) (hk : kr (nn o) (us6 f) ≤ 2 ^ 60) : fl (fq f) (nn (dpt f)) (us6 f) ≤ fl (fq f) (nn o) (us6 f) := by
  rw [fl_congr (fun s h => nn_dpt h)]
  by_cases h2 : 2 ≤ (us6 f).length
  · exact (dp_facts hs h2).2.2 60 (nn o) (fun s h => by have := ho s h; unfold nn; omega) hk
  · refine sum_map_le fun s h => ?_
    have hpos := List.length_pos_of_mem h
    have e : dp f s = 1 := by unfold dp; rw [if_pos (by omega), if_pos h]
    have := ho s h
    show fq f s * dp f s ≤ _
    rw [e]
    exact Nat.mul_le_mul_left _ (by unfold nn; omega)
end Go.Proofs.YtpmgnpfpnkmmbaaGreatDoor

namespace Go.Proofs.YtpmgnpfpnkmmbaaGreatDoor
open Go.RowKit Go.Maps
set_option maxRecDepth 20000
set_option linter.unusedVariables false

abbrev Only := H4.Only

/-- The row that is sorted: at block B, n long; nothing else is written. -/
structure Srow (w0 w : World) (B c : Nat) (X : List Int) : Prop where
  own : OI w 0 (.slice (some ⟨B, 0, none⟩) X.length c) X
  only : Only w0 w B

theorem Srow.refl {w : World} {B c : Nat} {X : List Int} (h : OI w 0 (.slice (some ⟨B, 0, none⟩) X.length c) X) : Srow w w B c X := ⟨h, H4.Only.refl _ _⟩

theorem Srow.drewN {w0 w : World} {B c : Nat} {X : List Int} (h : Srow w0 w B c X) (n : Nat) : Srow w0 (w.drewN n) B c X := ⟨h.own.move fun _ _ => rfl, h.only.drewN n⟩
theorem Srow.drew {w0 w : World} {B c : Nat} {X : List Int} (h : Srow w0 w B c X) : Srow w0 w.drew B c X := ⟨h.own.move fun _ _ => rfl, h.only.drew⟩

theorem Srow.get {w0 w : World} {B c : Nat} {X : List Int} (h : Srow w0 w B c X) {i : Nat} (hi : i < X.length) : w.cell? ⟨B, i, none⟩ = some (.int .i64 (X.getD i 0)) := OI.get h.own rfl hi

theorem Srow.fz {w0 w : World} {B c : Nat} {X : List Int} (h : Srow w0 w B c X) {i : Nat} (hi : i < X.length) : w.frozen? ⟨B, i, none⟩ = false := (OI.putg h.own hi 0).2.1

theorem Srow.cap {w0 w : World} {B c : Nat} {X : List Int} (h : Srow w0 w B c X) : X.length ≤ c ∧ c ≤ 9223372036854775807 := by
  obtain ⟨ao, cap, he, h1, h2⟩ := (h.own.sb).open
  simp only [Value.slice.injEq] at he
  obtain ⟨-, -, rfl⟩ := he
  exact ⟨h1, h2⟩

theorem Srow.trans {w0 w1 w2 : World} {B c : Nat} {X Y : List Int} (h : Srow w0 w1 B c X) (k : Srow w1 w2 B c Y) : Srow w0 w2 B c Y := ⟨k.own, h.only.trans k.only⟩

def swp (X : List Int) (i j : Nat) : List Int := (X.set i (X.getD j 0)).set j (X.getD i 0)

theorem swp_len (X : List Int) (i j : Nat) : (swp X i j).length = X.length := by simp [swp]

theorem Srow.swap {w0 w : World} {B c : Nat} {X : List Int} (h : Srow w0 w B c X) {i j : Nat} (hi : i < X.length) (hj : j < X.length) :
    Srow w0 ((w.setCell ⟨B, i, none⟩ (.int .i64 (X.getD j 0))).setCell ⟨B, j, none⟩ (.int .i64 (X.getD i 0))) B c (swp X i j) := by
  have h1 := (OI.putg h.own hi (X.getD j 0)).2.2
  have h2 := (OI.putg h1 (k := j) (by rw [List.length_set]; exact hj) (X.getD i 0)).2.2
  exact ⟨by rw [swp_len]; exact h2, (h.only.set _ _).set _ _⟩

theorem getD_app {α : Type} (A : List α) (x : α) (Z : List α) (d : α) : (A ++ x :: Z).getD A.length d = x := by simp [List.getD]

theorem set_app {α : Type} (A : List α) (x y : α) (Z : List α) : (A ++ x :: Z).set A.length y = A ++ y :: Z := by
  rw [List.set_append_right _ _ (Nat.le_refl _), Nat.sub_self, List.set_cons_zero]

/-- Two places, the row between. -/
theorem swp_two (A M Z : List Int) (x y : Int) (i j : Nat) (hi : i = A.length) (hj : j = A.length + 1 + M.length) : swp (A ++ x :: (M ++ y :: Z)) i j = A ++ y :: (M ++ x :: Z) := by
  subst hi
  have e1 : (A ++ x :: (M ++ y :: Z)).getD j 0 = y := by
    have : A ++ x :: (M ++ y :: Z) = (A ++ x :: M) ++ y :: Z := by simp
    rw [this, show j = (A ++ x :: M).length by simp; omega]
    exact getD_app _ _ _ _
  unfold swp
  rw [e1, getD_app, set_app]
  have : A ++ y :: (M ++ y :: Z) = (A ++ y :: M) ++ y :: Z := by simp
  rw [this, show j = (A ++ y :: M).length by simp; omega, set_app]
  simp

theorem swp_comm (X : List Int) (i j : Nat) (h : i ≠ j) : swp X i j = swp X j i := by
  unfold swp
  rw [List.set_comm _ _ h]

/-- What is asked of the comparison: in every world that the sort passes through. -/
def cmpv (a b : Int) : Int := if a < b then -1 else if b < a then 1 else 0

theorem cmpv_lt (a b : Int) : cmpv a b < 0 ↔ a < b := by
  unfold cmpv
  by_cases h : a < b
  · simp [h]
  · by_cases k : b < a <;> simp [h, k]

/-- The order that is kept: by f, then as the numbers rise. -/
def Lx (f : Int → Int) (x y : Int) : Prop := f x < f y ∨ f x = f y ∧ x < y

theorem Lx.trans {f : Int → Int} {x y z : Int} (h : Lx f x y) (k : Lx f y z) : Lx f x z := by unfold Lx at *; omega
theorem Lx.asymm {f : Int → Int} {x y : Int} (h : Lx f x y) : ¬ Lx f y x := by unfold Lx at *; omega
end Go.Proofs.YtpmgnpfpnkmmbaaGreatDoor

namespace Go.Proofs.YtpmgnpfpnkmmbaaGreatDoor
open Go.RowKit Go.Maps
set_option maxRecDepth 20000
set_option linter.unusedVariables false

/-- Two ranges of one length change places: so many done. -/
def swk (A U M V Z : List Int) (k : Nat) : List Int := A ++ (V.take k ++ U.drop k) ++ M ++ (U.take k ++ V.drop k) ++ Z

theorem swk_step (A U M V Z : List Int) (k : Nat) (hk : k < U.length) (hv : V.length = U.length) :
    swp (swk A U M V Z k) (A.length + k) (A.length + U.length + M.length + k) = swk A U M V Z (k + 1) := by
  have hkv : k < V.length := by omega
  unfold swk
  rw [List.drop_eq_getElem_cons hk, List.drop_eq_getElem_cons hkv, List.take_succ_eq_append_getElem hk, List.take_succ_eq_append_getElem hkv]
  have e := swp_two (A ++ V.take k) (U.drop (k + 1) ++ M ++ U.take k) (V.drop (k + 1) ++ Z) U[k] V[k] (A.length + k) (A.length + U.length + M.length + k) (by simp; omega) (by simp; omega)
  simp only [List.append_assoc, List.cons_append, List.nil_append] at e ⊢
  exact e

theorem swk_len (A U M V Z : List Int) (k : Nat) (hk : k ≤ U.length) (hv : V.length = U.length) : (swk A U M V Z k).length = A.length + U.length + M.length + V.length + Z.length := by
  simp [swk]; omega

end Go.Proofs.YtpmgnpfpnkmmbaaGreatDoor

namespace Go.Proofs.YtpmgnpfpnkmmbaaGreatDoor
open Go.RowKit Go.Maps
set_option maxRecDepth 20000
set_option linter.unusedVariables false

/-- The rotation under way: i of the left, j of the right are still to change. -/
def Rst (T : List Int) (m i j : Nat) (X : List Int) : Prop :=
  ∃ P L R Q : List Int, X = P ++ L ++ R ++ Q ∧ T = P ++ R ++ L ++ Q ∧ P.length + i = m ∧ L.length = i ∧ R.length = j

theorem rst_left {T X : List Int} {m i j : Nat} (h : Rst T m i j X) (hij : j < i) : ∃ A U M V Z X' : List Int, X = A ++ U ++ M ++ V ++ Z ∧ V.length = U.length ∧ m - i = A.length ∧ m = A.length + U.length + M.length ∧ j = U.length ∧ X' = A ++ V ++ M ++ U ++ Z ∧ Rst T m (i - j) j X' := by
  obtain ⟨P, L, R, Q, rfl, rfl, h1, h2, h3⟩ := h
  refine ⟨P, L.take j, L.drop j, R, Q, _, by simp, by simp; omega, by omega, by simp; omega, by simp; omega, rfl, P ++ R, L.drop j, L.take j, Q, by simp, ?_, by simp; omega, by simp; omega, by simp; omega⟩
  have e : L = L.take j ++ L.drop j := (List.take_append_drop j L).symm
  conv => lhs; rw [e]
  simp

theorem rst_right {T X : List Int} {m i j : Nat} (h : Rst T m i j X) (hij : i < j) : ∃ A U M V Z X' : List Int, X = A ++ U ++ M ++ V ++ Z ∧ V.length = U.length ∧ m - i = A.length ∧ m + j - i = A.length + U.length + M.length ∧ i = U.length ∧ X' = A ++ V ++ M ++ U ++ Z ∧ Rst T m i (j - i) X' := by
  obtain ⟨P, L, R, Q, rfl, rfl, h1, h2, h3⟩ := h
  refine ⟨P, L, R.take (j - i), R.drop (j - i), Q, _, by simp, by simp; omega, by omega, by simp; omega, by omega, rfl, P, R.drop (j - i), R.take (j - i), L ++ Q, by simp, ?_, by omega, by simp; omega, by simp; omega⟩
  have e : R = R.take (j - i) ++ R.drop (j - i) := (List.take_append_drop (j - i) R).symm
  conv => lhs; rw [e]
  simp

theorem rst_last {T X : List Int} {m i : Nat} (h : Rst T m i i X) : ∃ A U M V Z : List Int, X = A ++ U ++ M ++ V ++ Z ∧ V.length = U.length ∧ m - i = A.length ∧ m = A.length + U.length + M.length ∧ i = U.length ∧ T = A ++ V ++ M ++ U ++ Z := by
  obtain ⟨P, L, R, Q, rfl, rfl, h1, h2, h3⟩ := h
  exact ⟨P, L, [], R, Q, by simp, by omega, by omega, by simp; omega, by omega, by simp⟩

theorem rst_len {T X : List Int} {m i j : Nat} (h : Rst T m i j X) : X.length = T.length ∧ i ≤ m ∧ m + j ≤ X.length := by
  obtain ⟨P, L, R, Q, rfl, rfl, h1, h2, h3⟩ := h
  refine ⟨by simp; omega, by omega, by simp; omega⟩

end Go.Proofs.YtpmgnpfpnkmmbaaGreatDoor

namespace Go.Proofs.YtpmgnpfpnkmmbaaGreatDoor
open Go.RowKit Go.Maps
set_option maxRecDepth 20000
set_option linter.unusedVariables false

/-- Merged: between A and Z stands what stood there, in order. -/
def Mrg (w0 w' : World) (B c : Nat) (A C Z : List Int) (f : Int → Int) : Prop := ∃ Y T : List Int, T = A ++ (Y ++ Z) ∧ Y.Perm C ∧ Y.Pairwise (Lx f) ∧ Srow w0 w' B c T

theorem ins_sorted {f : Int → Int} {U1 U2 : List Int} {y : Int} (h : (U1 ++ U2).Pairwise (Lx f)) (h1 : ∀ u ∈ U1, Lx f u y) (h2 : ∀ u ∈ U2, Lx f y u) : (U1 ++ y :: U2).Pairwise (Lx f) := by
  rw [List.pairwise_append] at h ⊢
  refine ⟨h.1, List.pairwise_cons.2 ⟨h2, h.2.1⟩, fun a ha b hb => ?_⟩
  rcases List.mem_cons.1 hb with rfl | hb
  · exact h1 a ha
  · exact h.2.2 a ha b hb

theorem lx_of {f : Int → Int} {x y : Int} (h : ¬ f y < f x) (hc : f x = f y → x < y) : Lx f x y := by
  unfold Lx
  by_cases e : f x = f y
  · exact .inr ⟨e, hc e⟩
  · exact .inl (by omega)

/-- Sorted: f does not fall. -/
theorem mono_of {f : Int → Int} {V : List Int} (h : V.Pairwise (Lx f)) {s t : Nat} (hst : s ≤ t) (ht : t < V.length) : f (V.getD s 0) ≤ f (V.getD t 0) := by
  by_cases e : s = t
  · subst e; exact Int.le_refl _
  · have := List.pairwise_iff_getElem.1 h s t (by omega) ht (by omega)
    rw [show V.getD s 0 = V[s]'(by omega) by simp [show s < V.length by omega], show V.getD t 0 = V[t] by simp [ht]]
    unfold Lx at this
    omega

theorem take_all {V : List Int} {P : Int → Prop} {k : Nat} (hk : k ≤ V.length) (h : ∀ t, t < k → P (V.getD t 0)) : ∀ v ∈ V.take k, P v := by
  intro v hv
  obtain ⟨i, hi, rfl⟩ := List.getElem_of_mem hv
  have hi2 : i < k := by rw [List.length_take] at hi; omega
  have := h i hi2
  rw [List.getElem_take]
  rwa [show V.getD i 0 = V[i]'(by omega) by simp [show i < V.length by omega]] at this

theorem drop_all {V : List Int} {P : Int → Prop} {k : Nat} (h : ∀ t, k ≤ t → t < V.length → P (V.getD t 0)) : ∀ v ∈ V.drop k, P v := by
  intro v hv
  obtain ⟨i, hi, rfl⟩ := List.getElem_of_mem hv
  rw [List.length_drop] at hi
  have := h (k + i) (by omega) (by omega)
  rw [List.getElem_drop]
  rwa [show V.getD (k + i) 0 = V[k + i]'(by omega) by simp [show k + i < V.length by omega]] at this

theorem half_i64 {s : Nat} (h : s ≤ 1000) : s / 2 ≤ s := Nat.div_le_self _ _

/-- The one on the left has found its place. -/
def lft (A V Z : List Int) (x : Int) (r : Nat) : List Int := A ++ (V.take r ++ x :: (V.drop r ++ Z))

theorem lft_len (A V Z : List Int) (x : Int) (r : Nat) : (lft A V Z x r).length = A.length + 1 + V.length + Z.length := by
  simp [lft]; omega

theorem lft_step (A V Z : List Int) (x : Int) (r : Nat) (hr : r < V.length) : swp (lft A V Z x r) (A.length + r) (A.length + r + 1) = lft A V Z x (r + 1) := by
  unfold lft
  rw [List.drop_eq_getElem_cons hr, List.take_succ_eq_append_getElem hr]
  have e := swp_two (A ++ V.take r) [] (V.drop (r + 1) ++ Z) x V[r] (A.length + r) (A.length + r + 1) (by simp; omega) (by simp; omega)
  simp only [List.append_assoc, List.cons_append, List.nil_append] at e ⊢
  exact e

theorem lft_get0 (A V Z : List Int) (x : Int) : (lft A V Z x 0).getD A.length 0 = x := by
  unfold lft
  exact getD_app A x _ 0

theorem lft_get (A V Z : List Int) (x : Int) {t : Nat} (ht : t < V.length) : (lft A V Z x 0).getD (A.length + 1 + t) 0 = V.getD t 0 := by
  unfold lft
  rw [List.getD_eq_getElem?_getD, List.getElem?_append_right (by omega), show A.length + 1 + t - A.length = t + 1 by omega]
  simp only [List.take_zero, List.nil_append, List.drop_zero, List.getElem?_cons_succ]
  rw [List.getElem?_append_left ht, ← List.getD_eq_getElem?_getD]

/-- Likewise the one on the right. -/
def rgt (A U Z : List Int) (y : Int) (r : Nat) : List Int := A ++ (U.take r ++ y :: (U.drop r ++ Z))

theorem rgt_step (A U Z : List Int) (y : Int) (r : Nat) (hr : r < U.length) : swp (lft A U Z y (r + 1)) (A.length + r + 1) (A.length + r) = lft A U Z y r := by
  rw [swp_comm _ _ _ (by omega)]
  unfold lft
  rw [List.drop_eq_getElem_cons hr, List.take_succ_eq_append_getElem hr]
  have e := swp_two (A ++ U.take r) [] (U.drop (r + 1) ++ Z) U[r] y (A.length + r) (A.length + r + 1) (by simp; omega) (by simp; omega)
  simp only [List.append_assoc, List.cons_append, List.nil_append] at e ⊢
  exact e

theorem rgt_get (A U Z : List Int) (y : Int) : (lft A U Z y U.length).getD (A.length + U.length) 0 = y ∧ ∀ t, t < U.length → (lft A U Z y U.length).getD (A.length + t) 0 = U.getD t 0 := by
  unfold lft
  rw [List.take_of_length_le (Nat.le_refl _)]
  refine ⟨?_, fun t ht => ?_⟩
  · have := getD_app (A ++ U) y (U.drop U.length ++ Z) 0
    rw [List.length_append] at this
    rw [← this]
    simp
  · rw [List.getD_eq_getElem?_getD, List.getElem?_append_right (by omega), Nat.add_sub_cancel_left, List.getElem?_append_left ht, ← List.getD_eq_getElem?_getD]

theorem lft_mem {A V Z : List Int} {x : Int} {r : Nat} {y : Int} : y ∈ lft A V Z x r ↔ y ∈ A ∨ y = x ∨ y ∈ V ∨ y ∈ Z := by
  unfold lft
  simp only [List.mem_append, List.mem_cons]
  have : y ∈ V ↔ y ∈ V.take r ∨ y ∈ V.drop r := by rw [← List.mem_append, List.take_append_drop]
  rw [this]
  constructor
  · rintro (h | h | h | h | h)
    · exact .inl h
    · exact .inr (.inr (.inl (.inl h)))
    · exact .inr (.inl h)
    · exact .inr (.inr (.inl (.inr h)))
    · exact .inr (.inr (.inr h))
  · rintro (h | h | (h | h) | h)
    · exact .inl h
    · exact .inr (.inr (.inl h))
    · exact .inr (.inl h)
    · exact .inr (.inr (.inr (.inl h)))
    · exact .inr (.inr (.inr (.inr h)))

theorem mrg_lft {w0 w : World} {B c : Nat} {A V Z : List Int} {x : Int} {k : Nat} {f : Int → Int} (h : Srow w0 w B c (lft A V Z x k)) (hs : V.Pairwise (Lx f)) (h1 : ∀ v ∈ V.take k, Lx f v x) (h2 : ∀ v ∈ V.drop k, Lx f x v) : Mrg w0 w B c A (x :: V) Z f := by
  refine ⟨V.take k ++ x :: V.drop k, _, by simp [lft], ?_, ins_sorted (by rw [List.take_append_drop]; exact hs) h1 h2, h⟩
  have := List.perm_middle (a := x) (l₁ := V.take k) (l₂ := V.drop k)
  rwa [List.take_append_drop] at this
end Go.Proofs.YtpmgnpfpnkmmbaaGreatDoor

namespace Go.Proofs.YtpmgnpfpnkmmbaaGreatDoor
open Go.RowKit Go.Maps
set_option maxRecDepth 20000
set_option linter.unusedVariables false

end Go.Proofs.YtpmgnpfpnkmmbaaGreatDoor

