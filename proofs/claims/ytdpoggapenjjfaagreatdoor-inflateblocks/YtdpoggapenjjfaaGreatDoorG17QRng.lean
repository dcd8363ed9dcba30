import Derived.Test.YtdpoggapenjjfaaGreatDoorRows
import Derived.Test.YtdpoggapenjjfaaGreatDoorG16QBase
import Derived.BigRegion
import Derived.RangeFuncNested
import Derived.RangeFuncBound
import Derived.RangeFuncCalls
import Derived.RangeFuncLeaves
import Derived.RangeFuncBox
namespace Go.Proofs.YtdpoggapenjjfaaGreatDoor.H4

structure It (V : Type) where
  key : Int
  turn : Int
  val : V

instance {V : Type} [Inhabited V] : Inhabited (It V) := ⟨⟨0, 0, default⟩⟩

variable {V : Type}

def Lt (a b : It V) : Prop := a.key < b.key ∨ a.key = b.key ∧ a.turn < b.turn

instance (a b : It V) : Decidable (Lt a b) := by unfold Lt; infer_instance

theorem Lt.asymm {a b : It V} (h : Lt a b) : ¬ Lt b a := by unfold Lt at *; omega

theorem Lt.ntrans {a b c : It V} (h : ¬ Lt a b) (k : ¬ Lt b c) : ¬ Lt a c := by unfold Lt at *; omega

variable [Inhabited V]

def pt (xs : List (It V)) (i : Nat) : It V := xs.getD i default

theorem pt_eq {xs : List (It V)} {i : Nat} (h : i < xs.length) : pt xs i = xs[i] := by simp [pt, h]

def swp (xs : List (It V)) (i j : Nat) : List (It V) := (xs.set i (pt xs j)).set j (pt xs i)

@[simp] theorem length_swp (xs : List (It V)) (i j : Nat) : (swp xs i j).length = xs.length := by simp [swp]

def Tree (xs : List (It V)) : Prop := ∀ i, 0 < i → i < xs.length → ¬ Lt (pt xs i) (pt xs ((i - 1) / 2))

def fstTo (R : List (It V)) : Nat → Nat
  | 0 => 0
  | k + 1 => if (pt R k).key < (pt R (fstTo R k)).key then k else fstTo R k

def Asc (R : List (It V)) : Prop := ∀ i j, i < j → j < R.length → (pt R i).turn < (pt R j).turn

structure Holds (xs R : List (It V)) (n : Int) : Prop where
  tree : Tree xs
  perm : xs.Perm R
  asc : Asc R
  low : ∀ i, i < R.length → (pt R i).turn < n

theorem Holds.len {xs R : List (It V)} {n : Int} (h : Holds xs R n) : xs.length = R.length := h.perm.length_eq

theorem Asc.snoc {R : List (It V)} {n : Int} (h : Asc R) (hl : ∀ i, i < R.length → (pt R i).turn < n) (x : It V) (hx : x.turn = n) : Asc (R ++ [x]) ∧ ∀ i, i < (R ++ [x]).length → (pt (R ++ [x]) i).turn < n + 1 := by
  have e1 : ∀ i, i < R.length → pt (R ++ [x]) i = pt R i := fun i hi => by unfold pt; rw [List.getD, List.getD, List.getElem?_append_left hi]
  have e2 : pt (R ++ [x]) R.length = x := by unfold pt; simp [List.getD]
  refine ⟨fun i j hij hj => ?_, fun i hi => ?_⟩
  · rw [List.length_append, List.length_singleton] at hj
    by_cases ej : j = R.length
    · rw [ej, e2, e1 i (by omega), hx]
      exact hl i (by omega)
    · rw [e1 j (by omega), e1 i (by omega)]
      exact h i j hij (by omega)
  · rw [List.length_append, List.length_singleton] at hi
    by_cases ei : i = R.length
    · rw [ei, e2, hx]; omega
    · rw [e1 i (by omega)]
      have := hl i (by omega)
      omega

theorem Holds.push {xs R : List (It V)} {n : Int} (h : Holds xs R n) (x : It V) (hx : x.turn = n) {ys : List (It V)} (ht : Tree ys) (hp : ys.Perm (xs ++ [x])) : Holds ys (R ++ [x]) (n + 1) := by
  obtain ⟨a, b⟩ := h.asc.snoc h.low x hx
  exact ⟨ht, hp.trans (h.perm.append_right _), a, b⟩

end Go.Proofs.YtdpoggapenjjfaaGreatDoor.H4

namespace Go.Proofs.YtdpoggapenjjfaaGreatDoor.H4
open Go.RowKit Go.Maps
set_option maxRecDepth 20000

end Go.Proofs.YtdpoggapenjjfaaGreatDoor.H4

namespace Go.Proofs.YtdpoggapenjjfaaGreatDoor.H4
open Go.RowKit Go.Maps
set_option maxRecDepth 20000

structure Only (w w' : World) (b : Nat) : Prop where
  os : w'.os = w.os
  tape : w'.tape = w.tape
  output : w'.output = w.output
  size : w'.heap.size = w.heap.size
  block : ∀ k, k ≠ b → w'.heap[k]? = w.heap[k]?

theorem Only.refl (w : World) (b : Nat) : Only w w b := ⟨rfl, rfl, rfl, rfl, fun _ _ => rfl⟩
theorem Only.trans {a b c : World} {k : Nat} (h : Only a b k) (h' : Only b c k) : Only a c k := ⟨h'.os.trans h.os, h'.tape.trans h.tape, h'.output.trans h.output, h'.size.trans h.size, fun i hi => (h'.block i hi).trans (h.block i hi)⟩
theorem Only.drewN {a b : World} {k : Nat} (h : Only a b k) (n : Nat) : Only a (b.drewN n) k := ⟨h.os, h.tape, h.output, h.size, h.block⟩
theorem Only.drew {a b : World} {k : Nat} (h : Only a b k) : Only a b.drew k := ⟨h.os, h.tape, h.output, h.size, h.block⟩
theorem Only.set {a b : World} {k : Nat} (h : Only a b k) (o : Nat) (u : Value) : Only a (b.setCell ⟨k, o, none⟩ u) k :=
  ⟨h.os, h.tape, h.output, (size_setCell _ _ _).trans h.size, fun i hi => (setCell_others _ _ _ _ i hi).trans (h.block i hi)⟩

theorem heap_setCell_at {w : World} {g k : Nat} {cur : Array Value} {t : TypeId} (u : Value) (h : w.heap[g]? = some (.cells cur t (0, 0))) : (w.setCell ⟨g, k, none⟩ u).heap[g]? = some (.cells (cur.setIfInBounds k u) t (0, 0)) := by
  simp [World.setCell, Array.getElem?_modify, h]

end Go.Proofs.YtdpoggapenjjfaaGreatDoor.H4

namespace Go.Proofs.YtdpoggapenjjfaaGreatDoor.H4
open Go.RowKit Go.Maps
set_option maxRecDepth 20000

end Go.Proofs.YtdpoggapenjjfaaGreatDoor.H4

namespace Go.Proofs.YtdpoggapenjjfaaGreatDoor.H4
open Go.RowKit Go.Maps
set_option maxRecDepth 20000

structure Kid (ys : List (It Int)) (a c f : Nat) : Prop where
  lo : 2 * a + 1 ≤ c
  hi : c ≤ 2 * a + 3
  lt : f < ys.length
  is : f = a ∨ 0 < f ∧ (f - 1) / 2 = a ∧ Lt (pt ys f) (pt ys a)
  least : ∀ i, 0 < i → i < ys.length → (i - 1) / 2 = a → i < c → ¬ Lt (pt ys i) (pt ys f)

theorem Kid.take {ys : List (It Int)} {a c f : Nat} (h : Kid ys a c f) (hc : c < ys.length) (hh : c ≤ 2 * a + 2) (hl : Lt (pt ys c) (pt ys f)) : Kid ys a (c + 1) c := by
  have hlo := h.lo
  refine ⟨by omega, by omega, hc, .inr ⟨by omega, by omega, ?_⟩, fun i h0 h1 h2 h3 => ?_⟩
  · rcases h.is with rfl | ⟨_, _, h4⟩
    · exact hl
    · unfold Lt at *; omega
  · by_cases e : i = c
    · subst e; exact fun q => q.asymm q
    · exact Lt.ntrans (h.least i h0 h1 h2 (by omega)) hl.asymm

end Go.Proofs.YtdpoggapenjjfaaGreatDoor.H4

namespace Go.Proofs.YtdpoggapenjjfaaGreatDoor.H4
open Go.RowKit Go.Maps
set_option maxRecDepth 20000

structure Only2 (w w' : World) (g b : Nat) : Prop where
  os : w'.os = w.os
  tape : w'.tape = w.tape
  output : w'.output = w.output
  size : w'.heap.size = w.heap.size
  block : ∀ k, k ≠ b → k ≠ g → w'.heap[k]? = w.heap[k]?

theorem Only2.of {w w' : World} {g b : Nat} (h : Only w w' b) : Only2 w w' g b := ⟨h.os, h.tape, h.output, h.size, fun k hk _ => h.block k hk⟩
theorem Only2.then {w w' w'' : World} {g b : Nat} (h : Only2 w w' g b) (k : Only w' w'' b) : Only2 w w'' g b := ⟨k.os.trans h.os, k.tape.trans h.tape, k.output.trans h.output, k.size.trans h.size, fun i hi hg => (k.block i hi).trans (h.block i hi hg)⟩
theorem Only2.set {a w : World} {g b : Nat} (h : Only2 a w g b) (o : Nat) (u : Value) : Only2 a (w.setCell ⟨g, o, none⟩ u) g b :=
  ⟨h.os, h.tape, h.output, (size_setCell _ _ _).trans h.size, fun i hi hg => (setCell_others _ _ _ _ i hg).trans (h.block i hi hg)⟩

end Go.Proofs.YtdpoggapenjjfaaGreatDoor.H4

namespace Go.Proofs.YtdpoggapenjjfaaGreatDoor.H4
open Go.RowKit
variable {F : Fence} {n : Nat} {P : Program}

structure Rec (l : Nat) (I : Obj → World → Prop) : Prop where
  get : ∀ o W, I o W → W.heap[l]? = some o
  put : ∀ o o' W, I o W → I o' (W.putObj l o')

end Go.Proofs.YtdpoggapenjjfaaGreatDoor.H4

