import Derived.Test.YtgengoffkoonfabUsd
import Derived.Test.YtgengoffkoonfabQHrep
namespace Go.Proofs.Ytgengoffkoonfab
open Go.RowKit Go.Maps
set_option maxRecDepth 20000
set_option linter.unusedVariables false

abbrev Only := H4.Only

/-- The row that is sorted: at block B, n long; nothing else is written. -/
structure Srow (w0 w : World) (B c : Nat) (X : List Int) : Prop where
  own : OI w 0 (.slice (some ⟨B, 0, none⟩) X.length c) X
  only : Only w0 w B

theorem Srow.refl {w : World} {B c : Nat} {X : List Int} (h : OI w 0 (.slice (some ⟨B, 0, none⟩) X.length c) X) : Srow w w B c X := ⟨h, H4.Only.refl _ _⟩

theorem Srow.drewN {w0 w : World} {B c : Nat} {X : List Int} (h : Srow w0 w B c X) (n : Nat) : Srow w0 (w.drewN n) B c X := ⟨h.own.move fun _ _ => rfl, h.only.drewN n⟩
theorem Srow.drew {w0 w : World} {B c : Nat} {X : List Int} (h : Srow w0 w B c X) : Srow w0 w.drew B c X := ⟨h.own.move fun _ _ => rfl, h.only.drew⟩

theorem Srow.get {w0 w : World} {B c : Nat} {X : List Int} (h : Srow w0 w B c X) {i : Nat} (hi : i < X.length) : w.cell? ⟨B, i, none⟩ = some (.int .i64 (X.getD i 0)) := OI.get h.own rfl hi

theorem Srow.fz {w0 w : World} {B c : Nat} {X : List Int} (h : Srow w0 w B c X) {i : Nat} (hi : i < X.length) : w.frozen? ⟨B, i, none⟩ = false := (OI.putg h.own hi 0).2.1

theorem Srow.cap {w0 w : World} {B c : Nat} {X : List Int} (h : Srow w0 w B c X) : X.length ≤ c ∧ c ≤ 9223372036854775807 := by
  obtain ⟨ao, cap, he, h1, h2⟩ := (h.own.sb).open
  simp only [Value.slice.injEq] at he
  obtain ⟨-, -, rfl⟩ := he
  exact ⟨h1, h2⟩

theorem Srow.trans {w0 w1 w2 : World} {B c : Nat} {X Y : List Int} (h : Srow w0 w1 B c X) (k : Srow w1 w2 B c Y) : Srow w0 w2 B c Y := ⟨k.own, h.only.trans k.only⟩

def swp (X : List Int) (i j : Nat) : List Int := (X.set i (X.getD j 0)).set j (X.getD i 0)

theorem swp_len (X : List Int) (i j : Nat) : (swp X i j).length = X.length := by simp [swp]

theorem Srow.swap {w0 w : World} {B c : Nat} {X : List Int} (h : Srow w0 w B c X) {i j : Nat} (hi : i < X.length) (hj : j < X.length) :
    Srow w0 ((w.setCell ⟨B, i, none⟩ (.int .i64 (X.getD j 0))).setCell ⟨B, j, none⟩ (.int .i64 (X.getD i 0))) B c (swp X i j) := by
  have h1 := (OI.putg h.own hi (X.getD j 0)).2.2
  have h2 := (OI.putg h1 (k := j) (by rw [List.length_set]; exact hj) (X.getD i 0)).2.2
  exact ⟨by rw [swp_len]; exact h2, (h.only.set _ _).set _ _⟩

theorem getD_app {α : Type} (A : List α) (x : α) (Z : List α) (d : α) : (A ++ x :: Z).getD A.length d = x := by simp [List.getD]

theorem set_app {α : Type} (A : List α) (x y : α) (Z : List α) : (A ++ x :: Z).set A.length y = A ++ y :: Z := by
  rw [List.set_append_right _ _ (Nat.le_refl _), Nat.sub_self, List.set_cons_zero]

/-- Two places, the row between. -/
theorem swp_two (A M Z : List Int) (x y : Int) (i j : Nat) (hi : i = A.length) (hj : j = A.length + 1 + M.length) : swp (A ++ x :: (M ++ y :: Z)) i j = A ++ y :: (M ++ x :: Z) := by
  subst hi
  have e1 : (A ++ x :: (M ++ y :: Z)).getD j 0 = y := by
    have : A ++ x :: (M ++ y :: Z) = (A ++ x :: M) ++ y :: Z := by simp
    rw [this, show j = (A ++ x :: M).length by simp; omega]
    exact getD_app _ _ _ _
  unfold swp
  rw [e1, getD_app, set_app]
  have : A ++ y :: (M ++ y :: Z) = (A ++ y :: M) ++ y :: Z := by simp
  rw [this, show j = (A ++ y :: M).length by simp; omega, set_app]
  simp

theorem swp_comm (X : List Int) (i j : Nat) (h : i ≠ j) : swp X i j = swp X j i := by
  unfold swp
  rw [List.set_comm _ _ h]

/-- What is asked of the comparison: in every world that the sort passes through. -/
def cmpv (a b : Int) : Int := if a < b then -1 else if b < a then 1 else 0

theorem cmpv_lt (a b : Int) : cmpv a b < 0 ↔ a < b := by
  unfold cmpv
  by_cases h : a < b
  · simp [h]
  · by_cases k : b < a <;> simp [h, k]

def Cmp (w0 : World) (B : Nat) (p : Value) (f : Int → Int) (D : Int → Prop) : Prop :=
  ∀ W, Only w0 W B → ∀ x y, D x → D y → Calls Try.prog 43 #[.int .i64 x, .int .i64 y, p] W fun e W' => e = .returned (.int .i64 (cmpv (f x) (f y))) ∧ ∃ q, W' = W.drewN q

theorem Cmp.on {w0 w1 : World} {B : Nat} {p : Value} {f : Int → Int} {D : Int → Prop} (h : Cmp w0 B p f D) (ho : Only w0 w1 B) : Cmp w1 B p f D := fun W hW x y hx hy => h W (ho.trans hW) x y hx hy

/-- The order that is kept: by f, then as the numbers rise. -/
def Lx (f : Int → Int) (x y : Int) : Prop := f x < f y ∨ f x = f y ∧ x < y

theorem Lx.trans {f : Int → Int} {x y z : Int} (h : Lx f x y) (k : Lx f y z) : Lx f x z := by unfold Lx at *; omega
theorem Lx.asymm {f : Int → Int} {x y : Int} (h : Lx f x y) : ¬ Lx f y x := by unfold Lx at *; omega
end Go.Proofs.Ytgengoffkoonfab
