import Derived.Test.YtgengoffkoonfabQHx
namespace Go.Proofs.Ytgengoffkoonfab.H4
open Go.RowKit Go.Maps
set_option maxRecDepth 20000

def cellsI (x : It Int) : List Value := [.int .i64 x.key, .int .i64 x.turn, .int .i64 x.val]

def flatI (xs : List (It Int)) : List Value := xs.flatMap cellsI

theorem flatI_length (xs : List (It Int)) : (flatI xs).length = xs.length * 3 := by
  induction xs with
  | nil => rfl
  | cons a r ih => unfold flatI at ih ⊢; rw [List.flatMap_cons, List.length_append, ih]; simp [cellsI]; omega

theorem flatI_snoc (xs : List (It Int)) (x : It Int) : flatI (xs ++ [x]) = flatI xs ++ cellsI x := by simp [flatI]

theorem flatI_get : ∀ {xs : List (It Int)} {i : Nat} {x : It Int}, xs[i]? = some x → ∀ j, j < 3 → (flatI xs)[i * 3 + j]? = (cellsI x)[j]?
  | a :: r, 0, x, h, j, hj => by
    simp only [List.getElem?_cons_zero, Option.some.injEq] at h
    subst h
    unfold flatI
    rw [List.flatMap_cons, List.getElem?_append_left (by simp [cellsI]; omega)]
    simp
  | a :: r, i + 1, x, h, j, hj => by
    simp only [List.getElem?_cons_succ] at h
    have ih := flatI_get (xs := r) h j hj
    unfold flatI at ih ⊢
    rw [List.flatMap_cons, List.getElem?_append_right (by simp [cellsI]; omega)]
    rw [show (i + 1) * 3 + j - (cellsI a).length = i * 3 + j by simp [cellsI]; omega]
    exact ih

theorem flatI_set : ∀ (xs : List (It Int)) (i : Nat) (x : It Int), i < xs.length → flatI (xs.set i x) = (((flatI xs).set (i * 3) (.int .i64 x.key)).set (i * 3 + 1) (.int .i64 x.turn)).set (i * 3 + 2) (.int .i64 x.val)
  | a :: r, 0, x, _ => by simp [flatI, cellsI]
  | a :: r, i + 1, x, h => by
    have ih := flatI_set r i x (by simpa using h)
    unfold flatI at ih ⊢
    rw [List.set_cons_succ, List.flatMap_cons, ih, List.flatMap_cons]
    have e : (i + 1) * 3 = i * 3 + 3 := by omega
    rw [e]
    simp [cellsI]

theorem flatI_take (xs : List (It Int)) (n : Nat) : (flatI xs).take (n * 3) = flatI (xs.take n) := by
  induction xs generalizing n with
  | nil => simp [flatI]
  | cons a r ih =>
    cases n with
    | zero => simp [flatI]
    | succ n =>
      have h := ih n
      unfold flatI at h ⊢
      rw [List.take_succ_cons, List.flatMap_cons, List.flatMap_cons, List.take_append]
      have e : (n + 1) * 3 - (cellsI a).length = n * 3 := by simp [cellsI]; omega
      rw [e, h, List.take_of_length_le (by simp [cellsI]; omega)]

/-- A heap of the program that has a row, at block g; its row at block b. -/
structure At (w : World) (g b cap : Nat) (xs : List (It Int)) (n : Int) : Prop where
  head : w.heap[g]? = some (.cells #[.slice (some ⟨b, 0, none⟩) xs.length cap, .int .i64 n] 123 (0, 0))
  row : ∃ cur, w.heap[b]? = some (.cells cur 125 (0, 0)) ∧ cur.size = cap * 3 ∧ cur.toList.take (xs.length * 3) = flatI xs
  le : xs.length ≤ cap
  cap : cap ≤ maxLen
  ne : g ≠ b

theorem At.move {w w' : World} {g b cap : Nat} {xs : List (It Int)} {n : Int} (h : At w g b cap xs n) (h1 : w'.heap[g]? = w.heap[g]?) (h2 : w'.heap[b]? = w.heap[b]?) : At w' g b cap xs n := by
  obtain ⟨cur, a, c, d⟩ := h.row
  exact ⟨h1.trans h.head, ⟨cur, h2.trans a, c, d⟩, h.le, h.cap, h.ne⟩

theorem At.drew {w : World} {g b cap : Nat} {xs : List (It Int)} {n : Int} (h : At w g b cap xs n) : At w.drew g b cap xs n := h.move rfl rfl

theorem At.drewN {w : World} {g b cap : Nat} {xs : List (It Int)} {n : Int} (h : At w g b cap xs n) (k : Nat) : At (w.drewN k) g b cap xs n := h.move rfl rfl

theorem cellOf {w : World} {g k : Nat} {cur : Array Value} {t : TypeId} {fz : Nat × Nat} {u : Value} (h : w.heap[g]? = some (.cells cur t fz)) (hk : cur[k]? = some u) : w.cell? ⟨g, k, none⟩ = some u := by
  unfold World.cell?
  simp only [h]
  exact hk

theorem frozenOf {w : World} {g k : Nat} {cur : Array Value} {t : TypeId} (h : w.heap[g]? = some (.cells cur t (0, 0))) : w.frozen? ⟨g, k, none⟩ = false := by
  unfold World.frozen?
  simp [h]

theorem At.h0 {w : World} {g b cap : Nat} {xs : List (It Int)} {n : Int} (h : At w g b cap xs n) : w.cell? ⟨g, 0, none⟩ = some (.slice (some ⟨b, 0, none⟩) xs.length cap) := cellOf h.head rfl

theorem At.h1 {w : World} {g b cap : Nat} {xs : List (It Int)} {n : Int} (h : At w g b cap xs n) : w.cell? ⟨g, 1, none⟩ = some (.int .i64 n) := cellOf h.head rfl

theorem At.fr {w : World} {g b cap : Nat} {xs : List (It Int)} {n : Int} (h : At w g b cap xs n) (o : Nat) : w.frozen? ⟨b, o, none⟩ = false := by
  obtain ⟨cur, a, _, _⟩ := h.row
  exact frozenOf a

theorem At.cells {w : World} {g b cap : Nat} {xs : List (It Int)} {n : Int} (h : At w g b cap xs n) {i : Nat} (hi : i < xs.length) : w.cell? ⟨b, i * 3, none⟩ = some (.int .i64 (pt xs i).key) ∧ w.cell? ⟨b, i * 3 + 1, none⟩ = some (.int .i64 (pt xs i).turn) ∧ w.cell? ⟨b, i * 3 + 2, none⟩ = some (.int .i64 (pt xs i).val) := by
  obtain ⟨cur, a, c, d⟩ := h.row
  have q : ∀ j, j < 3 → ∀ u, (cellsI (pt xs i))[j]? = some u → w.cell? ⟨b, i * 3 + j, none⟩ = some u := fun j hj u hu => by
    refine cellOf a ?_
    have e := flatI_get (pt_get hi) j hj
    rw [← d, List.getElem?_take, if_pos (by omega)] at e
    rw [← hu, ← e]
    simp
  exact ⟨q 0 (by omega) _ rfl, q 1 (by omega) _ rfl, q 2 (by omega) _ rfl⟩

/-- Only the row is written. -/
structure Only (w w' : World) (b : Nat) : Prop where
  os : w'.os = w.os
  tape : w'.tape = w.tape
  output : w'.output = w.output
  size : w'.heap.size = w.heap.size
  block : ∀ k, k ≠ b → w'.heap[k]? = w.heap[k]?

theorem Only.refl (w : World) (b : Nat) : Only w w b := ⟨rfl, rfl, rfl, rfl, fun _ _ => rfl⟩
theorem Only.trans {a b c : World} {k : Nat} (h : Only a b k) (h' : Only b c k) : Only a c k := ⟨h'.os.trans h.os, h'.tape.trans h.tape, h'.output.trans h.output, h'.size.trans h.size, fun i hi => (h'.block i hi).trans (h.block i hi)⟩
theorem Only.drewN {a b : World} {k : Nat} (h : Only a b k) (n : Nat) : Only a (b.drewN n) k := ⟨h.os, h.tape, h.output, h.size, h.block⟩
theorem Only.drew {a b : World} {k : Nat} (h : Only a b k) : Only a b.drew k := ⟨h.os, h.tape, h.output, h.size, h.block⟩
theorem Only.set {a b : World} {k : Nat} (h : Only a b k) (o : Nat) (u : Value) : Only a (b.setCell ⟨k, o, none⟩ u) k :=
  ⟨h.os, h.tape, h.output, (size_setCell _ _ _).trans h.size, fun i hi => (setCell_others _ _ _ _ i hi).trans (h.block i hi)⟩

theorem heap_setCell_at {w : World} {g k : Nat} {cur : Array Value} {t : TypeId} (u : Value) (h : w.heap[g]? = some (.cells cur t (0, 0))) : (w.setCell ⟨g, k, none⟩ u).heap[g]? = some (.cells (cur.setIfInBounds k u) t (0, 0)) := by
  simp [World.setCell, Array.getElem?_modify, h]

/-- An item is written in its place. -/
theorem At.put {w : World} {g b cap : Nat} {xs : List (It Int)} {n : Int} (h : At w g b cap xs n) {i : Nat} (hi : i < xs.length) (x : It Int) :
    At (((w.setCell ⟨b, i * 3, none⟩ (.int .i64 x.key)).setCell ⟨b, i * 3 + 1, none⟩ (.int .i64 x.turn)).setCell ⟨b, i * 3 + 2, none⟩ (.int .i64 x.val)) g b cap (xs.set i x) n := by
  obtain ⟨cur, a, c, d⟩ := h.row
  refine ⟨?_, ⟨_, heap_setCell_at _ (heap_setCell_at _ (heap_setCell_at _ a)), by simp [c], ?_⟩, by simpa using h.le, h.cap, h.ne⟩
  · rw [setCell_others _ _ _ _ _ h.ne, setCell_others _ _ _ _ _ h.ne, setCell_others _ _ _ _ _ h.ne, List.length_set]
    exact h.head
  · simp only [Array.toList_setIfInBounds, List.length_set, List.take_set]
    rw [d, flatI_set _ _ _ hi]

theorem ahead_at {w : World} {g b cap : Nat} {xs : List (It Int)} {n : Int} (h : At w g b cap xs n) {i j : Nat} (hi : i < xs.length) (hj : j < xs.length) :
    Calls Try.prog 83 #[.pointer (some ⟨g, 0, none⟩), .int .i64 i, .int .i64 j] w fun e w' => e = .returned (.bool (decide (Lt (pt xs i) (pt xs j)))) ∧ ∃ n, w' = w.drewN n :=
  ahead_raw w g b cap i j xs.length _ _ _ _ hi hj h.h0 (h.cells hi).1 (h.cells hi).2.1 (h.cells hj).1 (h.cells hj).2.1

theorem swap_at {w : World} {g b cap : Nat} {xs : List (It Int)} {n : Int} (h : At w g b cap xs n) {i j : Nat} (hi : i < xs.length) (hj : j < xs.length) (hij : i ≠ j) :
    Calls Try.prog 84 #[.pointer (some ⟨g, 0, none⟩), .int .i64 i, .int .i64 j] w fun e w' => e = .returned (.tuple #[]) ∧ At w' g b cap (swp xs i j) n ∧ Only w w' b := by
  refine (swap_raw w g b cap i j xs.length _ _ _ _ _ _ hi hj h.h0 (h.cells hi).1 (h.cells hi).2.1 (h.cells hi).2.2 (h.cells hj).1 (h.cells hj).2.1 (h.cells hj).2.2 h.fr hij).mono ?_
  rintro e w' ⟨rfl, rfl⟩
  refine ⟨rfl, ?_, ((((((((Only.refl w b).set _ _).set _ _).set _ _).set _ _).set _ _).set _ _).drew)⟩
  have h1 := h.put hi (pt xs j)
  have h2 := h1.put (i := j) (by simpa using hj) (pt xs i)
  exact h2.drew

end Go.Proofs.Ytgengoffkoonfab.H4
