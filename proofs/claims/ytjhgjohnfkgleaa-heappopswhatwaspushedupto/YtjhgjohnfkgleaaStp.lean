import Derived.Test.YtjhgjohnfkgleaaHerd
namespace Go.Proofs.Ytjhgjohnfkgleaa
open Go.RowKit Go.Maps
set_option maxRecDepth 20000

structure Op4 where
  kind : Int
  key : Int
  val : Int
  two : Bool

def Op4.cells (o : Op4) : Array Value := #[.int .i64 o.kind, .int .i64 o.key, .int .i64 o.val, .bool o.two]

def stR (o : Op4) (R : List (It Int)) (n : Nat) : List (It Int) := if o.kind = 1 then R ++ [It.mk o.key (n : Int) o.val] else if o.kind = 2 then rest R else R
def stN (o : Op4) (n : Nat) : Nat := if o.kind = 1 then n + 1 else n

theorem Herd.box {W w : World} {xs : List ((Nat → Nat) × Thing)} (h : Herd W w xs) (o : Obj) : ∃ B, Herd W (w.alloc o) (xs ++ [(B, tb w.heap.size o)]) := by
  refine ⟨fun k => if k = w.heap.size then 1 else 0, h.push ((Below.refl _ _).alloc (Nat.le_refl _) _) ⟨heap_alloc_new w o, by simp, fun k hk => ?_⟩ fun k hk => ?_⟩
  · have := (one_K k _).1 hk
    rw [size_alloc']; omega
  · have := (one_K k _).1 hk
    omega

theorem Herd.at_tb {W w : World} {xs : List ((Nat → Nat) × Thing)} (h : Herd W w xs) (i : Nat) {B : Nat → Nat} {g : Nat} {o : Obj} (hi : xs[i]? = some (B, tb g o)) : w.heap[g]? = some o := by
  have : (tb g o).P w B := h.rep i _ hi
  exact this.1

theorem lt_of_get {α : Type} {xs : List α} {i : Nat} {x : α} (h : xs[i]? = some x) : i < xs.length := (List.getElem?_eq_some_iff.1 h).1

theorem get_app {α : Type} {xs ys : List α} {i : Nat} {x : α} (h : xs[i]? = some x) : (xs ++ ys)[i]? = some x := by rw [List.getElem?_append_left (lt_of_get h)]; exact h

theorem set_app {α : Type} {xs ys : List α} {i : Nat} {x y : α} (h : xs[i]? = some x) : (xs ++ ys).set i y = xs.set i y ++ ys := List.set_append_left _ _ (lt_of_get h)

theorem get_set_ne {α : Type} {xs : List α} {i j : Nat} {x y : α} (h : xs[j]? = some x) (hij : i ≠ j) : (xs.set i y)[j]? = some x := by rw [List.getElem?_set_ne hij]; exact h

theorem set_same {α : Type} {xs : List α} {i : Nat} {x : α} (h : xs[i]? = some x) : xs.set i x = xs := by
  apply List.ext_getElem?
  intro k
  by_cases e : i = k
  · subst e; rw [List.getElem?_set_self (lt_of_get h), h]
  · rw [List.getElem?_set_ne e]

theorem get_last {α : Type} (xs : List α) (x : α) : (xs ++ [x])[xs.length]? = some x := by simp

end Go.Proofs.Ytjhgjohnfkgleaa
