import Derived.Test.YtncniahpglgkmaaG04QHx
namespace Go.Proofs.Ytncniahpglgkmaa.H4
open Go.RowKit Go.Maps
set_option maxRecDepth 20000

def cellsI (x : It Int) : List Value := [.int .i64 x.key, .int .i64 x.turn, .int .i64 x.val]

def flatI (xs : List (It Int)) : List Value := xs.flatMap cellsI

theorem flatI_length (xs : List (It Int)) : (flatI xs).length = xs.length * 3 := by
  induction xs with
  | nil => rfl
  | cons a r ih => unfold flatI at ih ⊢; rw [List.flatMap_cons, List.length_append, ih]; simp [cellsI]; omega

theorem flatI_snoc (xs : List (It Int)) (x : It Int) : flatI (xs ++ [x]) = flatI xs ++ cellsI x := by simp [flatI]

theorem flatI_get : ∀ {xs : List (It Int)} {i : Nat} {x : It Int}, xs[i]? = some x → ∀ j, j < 3 → (flatI xs)[i * 3 + j]? = (cellsI x)[j]?
  | a :: r, 0, x, h, j, hj => by
    simp only [List.getElem?_cons_zero, Option.some.injEq] at h
    subst h
    unfold flatI
    rw [List.flatMap_cons, List.getElem?_append_left (by simp [cellsI]; omega)]
    simp
  | a :: r, i + 1, x, h, j, hj => by
    simp only [List.getElem?_cons_succ] at h
    have ih := flatI_get (xs := r) h j hj
    unfold flatI at ih ⊢
    rw [List.flatMap_cons, List.getElem?_append_right (by simp [cellsI]; omega)]
    rw [show (i + 1) * 3 + j - (cellsI a).length = i * 3 + j by simp [cellsI]; omega]
    exact ih

theorem flatI_set : ∀ (xs : List (It Int)) (i : Nat) (x : It Int), i < xs.length → flatI (xs.set i x) = (((flatI xs).set (i * 3) (.int .i64 x.key)).set (i * 3 + 1) (.int .i64 x.turn)).set (i * 3 + 2) (.int .i64 x.val)
  | a :: r, 0, x, _ => by simp [flatI, cellsI]
  | a :: r, i + 1, x, h => by
    have ih := flatI_set r i x (by simpa using h)
    unfold flatI at ih ⊢
    rw [List.set_cons_succ, List.flatMap_cons, ih, List.flatMap_cons]
    have e : (i + 1) * 3 = i * 3 + 3 := by omega
    rw [e]
    simp [cellsI]

theorem flatI_take (xs : List (It Int)) (n : Nat) : (flatI xs).take (n * 3) = flatI (xs.take n) := by
  induction xs generalizing n with
  | nil => simp [flatI]
  | cons a r ih =>
    cases n with
    | zero => simp [flatI]
    | succ n =>
      have h := ih n
      unfold flatI at h ⊢
      rw [List.take_succ_cons, List.flatMap_cons, List.flatMap_cons, List.take_append]
      have e : (n + 1) * 3 - (cellsI a).length = n * 3 := by simp [cellsI]; omega
      rw [e, h, List.take_of_length_le (by simp [cellsI]; omega)]

theorem cellOf {w : World} {g k : Nat} {cur : Array Value} {t : TypeId} {fz : Nat × Nat} {u : Value} (h : w.heap[g]? = some (.cells cur t fz)) (hk : cur[k]? = some u) : w.cell? ⟨g, k, none⟩ = some u := by
  unfold World.cell?
  simp only [h]
  exact hk

theorem frozenOf {w : World} {g k : Nat} {cur : Array Value} {t : TypeId} (h : w.heap[g]? = some (.cells cur t (0, 0))) : w.frozen? ⟨g, k, none⟩ = false := by
  unfold World.frozen?
  simp [h]

/-- Only the row is written. -/
structure Only (w w' : World) (b : Nat) : Prop where
  os : w'.os = w.os
  tape : w'.tape = w.tape
  output : w'.output = w.output
  size : w'.heap.size = w.heap.size
  block : ∀ k, k ≠ b → w'.heap[k]? = w.heap[k]?

theorem Only.refl (w : World) (b : Nat) : Only w w b := ⟨rfl, rfl, rfl, rfl, fun _ _ => rfl⟩
theorem Only.trans {a b c : World} {k : Nat} (h : Only a b k) (h' : Only b c k) : Only a c k := ⟨h'.os.trans h.os, h'.tape.trans h.tape, h'.output.trans h.output, h'.size.trans h.size, fun i hi => (h'.block i hi).trans (h.block i hi)⟩
theorem Only.drewN {a b : World} {k : Nat} (h : Only a b k) (n : Nat) : Only a (b.drewN n) k := ⟨h.os, h.tape, h.output, h.size, h.block⟩
theorem Only.drew {a b : World} {k : Nat} (h : Only a b k) : Only a b.drew k := ⟨h.os, h.tape, h.output, h.size, h.block⟩
theorem Only.set {a b : World} {k : Nat} (h : Only a b k) (o : Nat) (u : Value) : Only a (b.setCell ⟨k, o, none⟩ u) k :=
  ⟨h.os, h.tape, h.output, (size_setCell _ _ _).trans h.size, fun i hi => (setCell_others _ _ _ _ i hi).trans (h.block i hi)⟩

theorem heap_setCell_at {w : World} {g k : Nat} {cur : Array Value} {t : TypeId} (u : Value) (h : w.heap[g]? = some (.cells cur t (0, 0))) : (w.setCell ⟨g, k, none⟩ u).heap[g]? = some (.cells (cur.setIfInBounds k u) t (0, 0)) := by
  simp [World.setCell, Array.getElem?_modify, h]

end Go.Proofs.Ytncniahpglgkmaa.H4

namespace Go.Proofs.Ytncniahpglgkmaa.H4
open Go.RowKit Go.Maps
set_option maxRecDepth 20000

end Go.Proofs.Ytncniahpglgkmaa.H4

