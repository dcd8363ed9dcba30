import Derived.Test.YtijmmfimkibgbaaGCgt
namespace Go.Proofs.Ytijmmfimkibgbaa
open Go.RowKit Go.Maps
set_option maxRecDepth 20000
set_option linter.unusedVariables false
set_option linter.unusedSimpArgs false

theorem set7 {w : World} {c : Nat} {a0 a1 a2 a3 a4 a5 a6 : Value} {t : TypeId} (h : w.heap[c]? = some (.cells #[a0, a1, a2, a3, a4, a5, a6] t (0, 0))) :
    (∀ u, (w.setCell ⟨c, 0, none⟩ u).heap[c]? = some (.cells #[u, a1, a2, a3, a4, a5, a6] t (0, 0))) ∧ (∀ u, (w.setCell ⟨c, 1, none⟩ u).heap[c]? = some (.cells #[a0, u, a2, a3, a4, a5, a6] t (0, 0))) ∧ (∀ u, (w.setCell ⟨c, 2, none⟩ u).heap[c]? = some (.cells #[a0, a1, u, a3, a4, a5, a6] t (0, 0))) ∧ (∀ u, (w.setCell ⟨c, 3, none⟩ u).heap[c]? = some (.cells #[a0, a1, a2, u, a4, a5, a6] t (0, 0))) ∧ (∀ u, (w.setCell ⟨c, 4, none⟩ u).heap[c]? = some (.cells #[a0, a1, a2, a3, u, a5, a6] t (0, 0))) ∧ (∀ u, (w.setCell ⟨c, 5, none⟩ u).heap[c]? = some (.cells #[a0, a1, a2, a3, a4, u, a6] t (0, 0))) ∧ (∀ u, (w.setCell ⟨c, 6, none⟩ u).heap[c]? = some (.cells #[a0, a1, a2, a3, a4, a5, u] t (0, 0))) := by
  refine ⟨?_, ?_, ?_, ?_, ?_, ?_, ?_⟩ <;> intro u <;> rw [heap_setCell_at u h] <;> rfl

theorem put7 {w : World} {c : Nat} {a0 a1 a2 a3 a4 a5 a6 x0 x1 x2 x3 x4 x5 x6 : Value} {t : TypeId} (h : w.heap[c]? = some (.cells #[a0, a1, a2, a3, a4, a5, a6] t (0, 0))) :
    (((((((w.setCell ⟨c, 0, none⟩ x0).setCell ⟨c, 1, none⟩ x1).setCell ⟨c, 2, none⟩ x2).setCell ⟨c, 3, none⟩ x3).setCell ⟨c, 4, none⟩ x4).setCell ⟨c, 5, none⟩ x5).setCell ⟨c, 6, none⟩ x6).heap[c]? = some (.cells #[x0, x1, x2, x3, x4, x5, x6] t (0, 0)) := by
  have h0 := (set7 h).1 x0
  have h1 := (set7 h0).2.1 x1
  have h2 := (set7 h1).2.2.1 x2
  have h3 := (set7 h2).2.2.2.1 x3
  have h4 := (set7 h3).2.2.2.2.1 x4
  have h5 := (set7 h4).2.2.2.2.2.1 x5
  have h6 := (set7 h5).2.2.2.2.2.2 x6
  exact h6

theorem put7_below {w w0 : World} {c B : Nat} {x0 x1 x2 x3 x4 x5 x6 : Value} (h : Below B w0 w) (hB : B ≤ c) : Below B w0 (((((((w.setCell ⟨c, 0, none⟩ x0).setCell ⟨c, 1, none⟩ x1).setCell ⟨c, 2, none⟩ x2).setCell ⟨c, 3, none⟩ x3).setCell ⟨c, 4, none⟩ x4).setCell ⟨c, 5, none⟩ x5).setCell ⟨c, 6, none⟩ x6) :=
  (((((((h.setCell (p := ⟨c, 0, none⟩) hB _).setCell (p := ⟨c, 1, none⟩) hB _).setCell (p := ⟨c, 2, none⟩) hB _).setCell (p := ⟨c, 3, none⟩) hB _).setCell (p := ⟨c, 4, none⟩) hB _).setCell (p := ⟨c, 5, none⟩) hB _).setCell (p := ⟨c, 6, none⟩) hB _)

theorem set10 {w : World} {c : Nat} {a0 a1 a2 a3 a4 a5 a6 a7 a8 a9 : Value} {t : TypeId} (h : w.heap[c]? = some (.cells #[a0, a1, a2, a3, a4, a5, a6, a7, a8, a9] t (0, 0))) :
    (∀ u, (w.setCell ⟨c, 0, none⟩ u).heap[c]? = some (.cells #[u, a1, a2, a3, a4, a5, a6, a7, a8, a9] t (0, 0))) ∧ (∀ u, (w.setCell ⟨c, 1, none⟩ u).heap[c]? = some (.cells #[a0, u, a2, a3, a4, a5, a6, a7, a8, a9] t (0, 0))) ∧ (∀ u, (w.setCell ⟨c, 2, none⟩ u).heap[c]? = some (.cells #[a0, a1, u, a3, a4, a5, a6, a7, a8, a9] t (0, 0))) ∧ (∀ u, (w.setCell ⟨c, 3, none⟩ u).heap[c]? = some (.cells #[a0, a1, a2, u, a4, a5, a6, a7, a8, a9] t (0, 0))) ∧ (∀ u, (w.setCell ⟨c, 4, none⟩ u).heap[c]? = some (.cells #[a0, a1, a2, a3, u, a5, a6, a7, a8, a9] t (0, 0))) ∧ (∀ u, (w.setCell ⟨c, 5, none⟩ u).heap[c]? = some (.cells #[a0, a1, a2, a3, a4, u, a6, a7, a8, a9] t (0, 0))) ∧ (∀ u, (w.setCell ⟨c, 6, none⟩ u).heap[c]? = some (.cells #[a0, a1, a2, a3, a4, a5, u, a7, a8, a9] t (0, 0))) ∧ (∀ u, (w.setCell ⟨c, 7, none⟩ u).heap[c]? = some (.cells #[a0, a1, a2, a3, a4, a5, a6, u, a8, a9] t (0, 0))) ∧ (∀ u, (w.setCell ⟨c, 8, none⟩ u).heap[c]? = some (.cells #[a0, a1, a2, a3, a4, a5, a6, a7, u, a9] t (0, 0))) ∧ (∀ u, (w.setCell ⟨c, 9, none⟩ u).heap[c]? = some (.cells #[a0, a1, a2, a3, a4, a5, a6, a7, a8, u] t (0, 0))) := by
  refine ⟨?_, ?_, ?_, ?_, ?_, ?_, ?_, ?_, ?_, ?_⟩ <;> intro u <;> rw [heap_setCell_at u h] <;> rfl

theorem put10 {w : World} {c : Nat} {a0 a1 a2 a3 a4 a5 a6 a7 a8 a9 x0 x1 x2 x3 x4 x5 x6 x7 x8 x9 : Value} {t : TypeId} (h : w.heap[c]? = some (.cells #[a0, a1, a2, a3, a4, a5, a6, a7, a8, a9] t (0, 0))) :
    ((((((((((w.setCell ⟨c, 0, none⟩ x0).setCell ⟨c, 1, none⟩ x1).setCell ⟨c, 2, none⟩ x2).setCell ⟨c, 3, none⟩ x3).setCell ⟨c, 4, none⟩ x4).setCell ⟨c, 5, none⟩ x5).setCell ⟨c, 6, none⟩ x6).setCell ⟨c, 7, none⟩ x7).setCell ⟨c, 8, none⟩ x8).setCell ⟨c, 9, none⟩ x9).heap[c]? = some (.cells #[x0, x1, x2, x3, x4, x5, x6, x7, x8, x9] t (0, 0)) := by
  have h0 := (set10 h).1 x0
  have h1 := (set10 h0).2.1 x1
  have h2 := (set10 h1).2.2.1 x2
  have h3 := (set10 h2).2.2.2.1 x3
  have h4 := (set10 h3).2.2.2.2.1 x4
  have h5 := (set10 h4).2.2.2.2.2.1 x5
  have h6 := (set10 h5).2.2.2.2.2.2.1 x6
  have h7 := (set10 h6).2.2.2.2.2.2.2.1 x7
  have h8 := (set10 h7).2.2.2.2.2.2.2.2.1 x8
  have h9 := (set10 h8).2.2.2.2.2.2.2.2.2 x9
  exact h9

theorem put10_below {w w0 : World} {c B : Nat} {x0 x1 x2 x3 x4 x5 x6 x7 x8 x9 : Value} (h : Below B w0 w) (hB : B ≤ c) : Below B w0 ((((((((((w.setCell ⟨c, 0, none⟩ x0).setCell ⟨c, 1, none⟩ x1).setCell ⟨c, 2, none⟩ x2).setCell ⟨c, 3, none⟩ x3).setCell ⟨c, 4, none⟩ x4).setCell ⟨c, 5, none⟩ x5).setCell ⟨c, 6, none⟩ x6).setCell ⟨c, 7, none⟩ x7).setCell ⟨c, 8, none⟩ x8).setCell ⟨c, 9, none⟩ x9) :=
  ((((((((((h.setCell (p := ⟨c, 0, none⟩) hB _).setCell (p := ⟨c, 1, none⟩) hB _).setCell (p := ⟨c, 2, none⟩) hB _).setCell (p := ⟨c, 3, none⟩) hB _).setCell (p := ⟨c, 4, none⟩) hB _).setCell (p := ⟨c, 5, none⟩) hB _).setCell (p := ⟨c, 6, none⟩) hB _).setCell (p := ⟨c, 7, none⟩) hB _).setCell (p := ⟨c, 8, none⟩) hB _).setCell (p := ⟨c, 9, none⟩) hB _)

theorem set16 {w : World} {c : Nat} {a0 a1 a2 a3 a4 a5 a6 a7 a8 a9 a10 a11 a12 a13 a14 a15 : Value} {t : TypeId} (h : w.heap[c]? = some (.cells #[a0, a1, a2, a3, a4, a5, a6, a7, a8, a9, a10, a11, a12, a13, a14, a15] t (0, 0))) :
    (∀ u, (w.setCell ⟨c, 0, none⟩ u).heap[c]? = some (.cells #[u, a1, a2, a3, a4, a5, a6, a7, a8, a9, a10, a11, a12, a13, a14, a15] t (0, 0))) ∧ (∀ u, (w.setCell ⟨c, 1, none⟩ u).heap[c]? = some (.cells #[a0, u, a2, a3, a4, a5, a6, a7, a8, a9, a10, a11, a12, a13, a14, a15] t (0, 0))) ∧ (∀ u, (w.setCell ⟨c, 2, none⟩ u).heap[c]? = some (.cells #[a0, a1, u, a3, a4, a5, a6, a7, a8, a9, a10, a11, a12, a13, a14, a15] t (0, 0))) ∧ (∀ u, (w.setCell ⟨c, 3, none⟩ u).heap[c]? = some (.cells #[a0, a1, a2, u, a4, a5, a6, a7, a8, a9, a10, a11, a12, a13, a14, a15] t (0, 0))) ∧ (∀ u, (w.setCell ⟨c, 4, none⟩ u).heap[c]? = some (.cells #[a0, a1, a2, a3, u, a5, a6, a7, a8, a9, a10, a11, a12, a13, a14, a15] t (0, 0))) ∧ (∀ u, (w.setCell ⟨c, 5, none⟩ u).heap[c]? = some (.cells #[a0, a1, a2, a3, a4, u, a6, a7, a8, a9, a10, a11, a12, a13, a14, a15] t (0, 0))) ∧ (∀ u, (w.setCell ⟨c, 6, none⟩ u).heap[c]? = some (.cells #[a0, a1, a2, a3, a4, a5, u, a7, a8, a9, a10, a11, a12, a13, a14, a15] t (0, 0))) ∧ (∀ u, (w.setCell ⟨c, 7, none⟩ u).heap[c]? = some (.cells #[a0, a1, a2, a3, a4, a5, a6, u, a8, a9, a10, a11, a12, a13, a14, a15] t (0, 0))) ∧ (∀ u, (w.setCell ⟨c, 8, none⟩ u).heap[c]? = some (.cells #[a0, a1, a2, a3, a4, a5, a6, a7, u, a9, a10, a11, a12, a13, a14, a15] t (0, 0))) ∧ (∀ u, (w.setCell ⟨c, 9, none⟩ u).heap[c]? = some (.cells #[a0, a1, a2, a3, a4, a5, a6, a7, a8, u, a10, a11, a12, a13, a14, a15] t (0, 0))) ∧ (∀ u, (w.setCell ⟨c, 10, none⟩ u).heap[c]? = some (.cells #[a0, a1, a2, a3, a4, a5, a6, a7, a8, a9, u, a11, a12, a13, a14, a15] t (0, 0))) ∧ (∀ u, (w.setCell ⟨c, 11, none⟩ u).heap[c]? = some (.cells #[a0, a1, a2, a3, a4, a5, a6, a7, a8, a9, a10, u, a12, a13, a14, a15] t (0, 0))) ∧ (∀ u, (w.setCell ⟨c, 12, none⟩ u).heap[c]? = some (.cells #[a0, a1, a2, a3, a4, a5, a6, a7, a8, a9, a10, a11, u, a13, a14, a15] t (0, 0))) ∧ (∀ u, (w.setCell ⟨c, 13, none⟩ u).heap[c]? = some (.cells #[a0, a1, a2, a3, a4, a5, a6, a7, a8, a9, a10, a11, a12, u, a14, a15] t (0, 0))) ∧ (∀ u, (w.setCell ⟨c, 14, none⟩ u).heap[c]? = some (.cells #[a0, a1, a2, a3, a4, a5, a6, a7, a8, a9, a10, a11, a12, a13, u, a15] t (0, 0))) ∧ (∀ u, (w.setCell ⟨c, 15, none⟩ u).heap[c]? = some (.cells #[a0, a1, a2, a3, a4, a5, a6, a7, a8, a9, a10, a11, a12, a13, a14, u] t (0, 0))) := by
  refine ⟨?_, ?_, ?_, ?_, ?_, ?_, ?_, ?_, ?_, ?_, ?_, ?_, ?_, ?_, ?_, ?_⟩ <;> intro u <;> rw [heap_setCell_at u h] <;> rfl

theorem put16 {w : World} {c : Nat} {a0 a1 a2 a3 a4 a5 a6 a7 a8 a9 a10 a11 a12 a13 a14 a15 x0 x1 x2 x3 x4 x5 x6 x7 x8 x9 x10 x11 x12 x13 x14 x15 : Value} {t : TypeId} (h : w.heap[c]? = some (.cells #[a0, a1, a2, a3, a4, a5, a6, a7, a8, a9, a10, a11, a12, a13, a14, a15] t (0, 0))) :
    ((((((((((((((((w.setCell ⟨c, 0, none⟩ x0).setCell ⟨c, 1, none⟩ x1).setCell ⟨c, 2, none⟩ x2).setCell ⟨c, 3, none⟩ x3).setCell ⟨c, 4, none⟩ x4).setCell ⟨c, 5, none⟩ x5).setCell ⟨c, 6, none⟩ x6).setCell ⟨c, 7, none⟩ x7).setCell ⟨c, 8, none⟩ x8).setCell ⟨c, 9, none⟩ x9).setCell ⟨c, 10, none⟩ x10).setCell ⟨c, 11, none⟩ x11).setCell ⟨c, 12, none⟩ x12).setCell ⟨c, 13, none⟩ x13).setCell ⟨c, 14, none⟩ x14).setCell ⟨c, 15, none⟩ x15).heap[c]? = some (.cells #[x0, x1, x2, x3, x4, x5, x6, x7, x8, x9, x10, x11, x12, x13, x14, x15] t (0, 0)) := by
  have h0 := (set16 h).1 x0
  have h1 := (set16 h0).2.1 x1
  have h2 := (set16 h1).2.2.1 x2
  have h3 := (set16 h2).2.2.2.1 x3
  have h4 := (set16 h3).2.2.2.2.1 x4
  have h5 := (set16 h4).2.2.2.2.2.1 x5
  have h6 := (set16 h5).2.2.2.2.2.2.1 x6
  have h7 := (set16 h6).2.2.2.2.2.2.2.1 x7
  have h8 := (set16 h7).2.2.2.2.2.2.2.2.1 x8
  have h9 := (set16 h8).2.2.2.2.2.2.2.2.2.1 x9
  have h10 := (set16 h9).2.2.2.2.2.2.2.2.2.2.1 x10
  have h11 := (set16 h10).2.2.2.2.2.2.2.2.2.2.2.1 x11
  have h12 := (set16 h11).2.2.2.2.2.2.2.2.2.2.2.2.1 x12
  have h13 := (set16 h12).2.2.2.2.2.2.2.2.2.2.2.2.2.1 x13
  have h14 := (set16 h13).2.2.2.2.2.2.2.2.2.2.2.2.2.2.1 x14
  have h15 := (set16 h14).2.2.2.2.2.2.2.2.2.2.2.2.2.2.2 x15
  exact h15

theorem put16_below {w w0 : World} {c B : Nat} {x0 x1 x2 x3 x4 x5 x6 x7 x8 x9 x10 x11 x12 x13 x14 x15 : Value} (h : Below B w0 w) (hB : B ≤ c) : Below B w0 ((((((((((((((((w.setCell ⟨c, 0, none⟩ x0).setCell ⟨c, 1, none⟩ x1).setCell ⟨c, 2, none⟩ x2).setCell ⟨c, 3, none⟩ x3).setCell ⟨c, 4, none⟩ x4).setCell ⟨c, 5, none⟩ x5).setCell ⟨c, 6, none⟩ x6).setCell ⟨c, 7, none⟩ x7).setCell ⟨c, 8, none⟩ x8).setCell ⟨c, 9, none⟩ x9).setCell ⟨c, 10, none⟩ x10).setCell ⟨c, 11, none⟩ x11).setCell ⟨c, 12, none⟩ x12).setCell ⟨c, 13, none⟩ x13).setCell ⟨c, 14, none⟩ x14).setCell ⟨c, 15, none⟩ x15) :=
  ((((((((((((((((h.setCell (p := ⟨c, 0, none⟩) hB _).setCell (p := ⟨c, 1, none⟩) hB _).setCell (p := ⟨c, 2, none⟩) hB _).setCell (p := ⟨c, 3, none⟩) hB _).setCell (p := ⟨c, 4, none⟩) hB _).setCell (p := ⟨c, 5, none⟩) hB _).setCell (p := ⟨c, 6, none⟩) hB _).setCell (p := ⟨c, 7, none⟩) hB _).setCell (p := ⟨c, 8, none⟩) hB _).setCell (p := ⟨c, 9, none⟩) hB _).setCell (p := ⟨c, 10, none⟩) hB _).setCell (p := ⟨c, 11, none⟩) hB _).setCell (p := ⟨c, 12, none⟩) hB _).setCell (p := ⟨c, 13, none⟩) hB _).setCell (p := ⟨c, 14, none⟩) hB _).setCell (p := ⟨c, 15, none⟩) hB _)

theorem drew_heap12 (w : World) : w.drew.heap = w.heap := rfl

theorem put7d {w : World} {c : Nat} {a0 a1 a2 a3 a4 a5 a6 x0 x1 x2 x3 x4 x5 x6 : Value} {t : TypeId} (h : w.heap[c]? = some (.cells #[a0, a1, a2, a3, a4, a5, a6] t (0, 0))) :
    (((((((w.setCell ⟨c, 0, none⟩ x0).setCell ⟨c, 1, none⟩ x1).setCell ⟨c, 2, none⟩ x2).setCell ⟨c, 3, none⟩ x3).setCell ⟨c, 4, none⟩ x4).setCell ⟨c, 5, none⟩ x5).setCell ⟨c, 6, none⟩ x6).drew.heap[c]? = some (.cells #[x0, x1, x2, x3, x4, x5, x6] t (0, 0)) := by rw [drew_heap12]; exact put7 h

theorem put7d_below {w w0 : World} {c B : Nat} {x0 x1 x2 x3 x4 x5 x6 : Value} (h : Below B w0 w) (hB : B ≤ c) : Below B w0 (((((((w.setCell ⟨c, 0, none⟩ x0).setCell ⟨c, 1, none⟩ x1).setCell ⟨c, 2, none⟩ x2).setCell ⟨c, 3, none⟩ x3).setCell ⟨c, 4, none⟩ x4).setCell ⟨c, 5, none⟩ x5).setCell ⟨c, 6, none⟩ x6).drew := (put7_below h hB).drew

theorem put10d {w : World} {c : Nat} {a0 a1 a2 a3 a4 a5 a6 a7 a8 a9 x0 x1 x2 x3 x4 x5 x6 x7 x8 x9 : Value} {t : TypeId} (h : w.heap[c]? = some (.cells #[a0, a1, a2, a3, a4, a5, a6, a7, a8, a9] t (0, 0))) :
    ((((((((((w.setCell ⟨c, 0, none⟩ x0).setCell ⟨c, 1, none⟩ x1).setCell ⟨c, 2, none⟩ x2).setCell ⟨c, 3, none⟩ x3).setCell ⟨c, 4, none⟩ x4).setCell ⟨c, 5, none⟩ x5).setCell ⟨c, 6, none⟩ x6).setCell ⟨c, 7, none⟩ x7).setCell ⟨c, 8, none⟩ x8).setCell ⟨c, 9, none⟩ x9).drew.heap[c]? = some (.cells #[x0, x1, x2, x3, x4, x5, x6, x7, x8, x9] t (0, 0)) := by rw [drew_heap12]; exact put10 h

theorem put10d_below {w w0 : World} {c B : Nat} {x0 x1 x2 x3 x4 x5 x6 x7 x8 x9 : Value} (h : Below B w0 w) (hB : B ≤ c) : Below B w0 ((((((((((w.setCell ⟨c, 0, none⟩ x0).setCell ⟨c, 1, none⟩ x1).setCell ⟨c, 2, none⟩ x2).setCell ⟨c, 3, none⟩ x3).setCell ⟨c, 4, none⟩ x4).setCell ⟨c, 5, none⟩ x5).setCell ⟨c, 6, none⟩ x6).setCell ⟨c, 7, none⟩ x7).setCell ⟨c, 8, none⟩ x8).setCell ⟨c, 9, none⟩ x9).drew := (put10_below h hB).drew

theorem put16d {w : World} {c : Nat} {a0 a1 a2 a3 a4 a5 a6 a7 a8 a9 a10 a11 a12 a13 a14 a15 x0 x1 x2 x3 x4 x5 x6 x7 x8 x9 x10 x11 x12 x13 x14 x15 : Value} {t : TypeId} (h : w.heap[c]? = some (.cells #[a0, a1, a2, a3, a4, a5, a6, a7, a8, a9, a10, a11, a12, a13, a14, a15] t (0, 0))) :
    ((((((((((((((((w.setCell ⟨c, 0, none⟩ x0).setCell ⟨c, 1, none⟩ x1).setCell ⟨c, 2, none⟩ x2).setCell ⟨c, 3, none⟩ x3).setCell ⟨c, 4, none⟩ x4).setCell ⟨c, 5, none⟩ x5).setCell ⟨c, 6, none⟩ x6).setCell ⟨c, 7, none⟩ x7).setCell ⟨c, 8, none⟩ x8).setCell ⟨c, 9, none⟩ x9).setCell ⟨c, 10, none⟩ x10).setCell ⟨c, 11, none⟩ x11).setCell ⟨c, 12, none⟩ x12).setCell ⟨c, 13, none⟩ x13).setCell ⟨c, 14, none⟩ x14).setCell ⟨c, 15, none⟩ x15).drew.heap[c]? = some (.cells #[x0, x1, x2, x3, x4, x5, x6, x7, x8, x9, x10, x11, x12, x13, x14, x15] t (0, 0)) := by rw [drew_heap12]; exact put16 h

theorem put16d_below {w w0 : World} {c B : Nat} {x0 x1 x2 x3 x4 x5 x6 x7 x8 x9 x10 x11 x12 x13 x14 x15 : Value} (h : Below B w0 w) (hB : B ≤ c) : Below B w0 ((((((((((((((((w.setCell ⟨c, 0, none⟩ x0).setCell ⟨c, 1, none⟩ x1).setCell ⟨c, 2, none⟩ x2).setCell ⟨c, 3, none⟩ x3).setCell ⟨c, 4, none⟩ x4).setCell ⟨c, 5, none⟩ x5).setCell ⟨c, 6, none⟩ x6).setCell ⟨c, 7, none⟩ x7).setCell ⟨c, 8, none⟩ x8).setCell ⟨c, 9, none⟩ x9).setCell ⟨c, 10, none⟩ x10).setCell ⟨c, 11, none⟩ x11).setCell ⟨c, 12, none⟩ x12).setCell ⟨c, 13, none⟩ x13).setCell ⟨c, 14, none⟩ x14).setCell ⟨c, 15, none⟩ x15).drew := (put16_below h hB).drew

theorem box_free {w : World} {c : Nat} {cs : Array Value} {t : TypeId} (h : w.heap[c]? = some (.cells cs t (0, 0))) : ∀ i, w.frozen? ⟨c, i, none⟩ = false := fun i => by simp [World.frozen?, h]

theorem SB.rs12 {w : World} {v : Value} {l : List Int} (h : SB w v l) : RS w v l := by
  obtain ⟨ao, cap, rfl, h1, h2, h3, h4⟩ := h
  refine ⟨ao, cap, rfl, Nat.le_trans h1 h2, fun hne => ?_⟩
  have hp : 0 < l.length := List.length_pos_iff.2 hne
  cases ao with
  | none => have := h3 rfl; omega
  | some x =>
    obtain ⟨b, o, rfl⟩ := addr_lit (h4 x rfl 0 hp)
    exact ⟨b, o, rfl, fun i hi => by have := h4 _ rfl i hi; rwa [Addr.add_lit] at this⟩

/-- A cursor of any state; A: what lies below is none of its own. -/
structure Cy (A : Nat) (g : Nat) (st : CSt) (w : World) : Prop where
  cu : Cu (fun k => g ≤ k ∨ k < A) 79 w g st
  g0 : A ≤ g

theorem Cx.cy {w0 w : World} {g : Nat} {d : List Int} {p : Nat} (h : Cx w0 g d p w) : Cy w0.heap.size g ⟨d, p, 0⟩ w := ⟨h.cu, h.g0⟩

theorem Cy.put {A g : Nat} {st : CSt} {w : World} (h : Cy A g st w) {c : Nat} (hc : c < A) (i : Nat) (u : Value) : Cy A g st (w.setCell ⟨c, i, none⟩ u) :=
  ⟨h.cu.keep (B := 0) (tch_set (Nat.zero_le _) u) (by have := h.g0; omega) (.inr hc), h.g0⟩

theorem ytext_any {A g : Nat} {st : CSt} {w : World} (h : Cy A g st w) (n : Int) :
    Calls Try.prog 27 #[.pointer (some ⟨g, 0, none⟩), .int .i64 n] w fun e w' => e = .returned (.string (strOfNums (nextL st n))) ∧ Cy A g (nextSt st n) w' ∧ Tch A g w w' := by
  refine (text_any h.cu n (B := A) h.g0).mono ?_
  rintro e w' ⟨rfl, hc, ht⟩
  exact ⟨rfl, ⟨hc, h.g0⟩, ht⟩

theorem next_err {d : List Int} {p : Nat} {e : Int} (he : e ≠ 0) (n : Int) : nextSt ⟨d, p, e⟩ n = ⟨d, p, e⟩ := by
  unfold nextSt; rw [if_pos he]

theorem next_short {d : List Int} {p n : Nat} (h : d.length < p + n) : nextSt ⟨d, p, 0⟩ (n : Int) = ⟨d, p, 20⟩ := by
  unfold nextSt
  rw [if_neg (by simp), if_neg (by omega), if_pos (by show (d.length : Int) - (p : Int) < (n : Int); omega)]

set_option maxHeartbeats 2000000 in
theorem textsAt_any (v : Value) (d : List Int) (k n : Nat) (w : World) (h : SB w v d) (hB : Byt d) (hk : k ≤ d.length) (hd : d.length ≤ 140737488355328) (hn : n ≤ 1000000) :
    Calls Try.prog 26 #[v, .int .i64 (k : Int), .int .i64 (n : Int)] w fun e w' => ∃ g, e = .returned (.pointer (some ⟨g, 0, none⟩)) ∧ Cx w g (sub d k n) 0 w' := by
  obtain ⟨ao, cap, rfl, q1, q2, q3⟩ := h.open11
  have HN0 : Hid (ao = none → cap = 0) := by
    obtain ⟨ao', cap', he, _, _, h3, _⟩ := h
    simp only [Value.slice.injEq] at he
    obtain ⟨rfl, -, rfl⟩ := he
    exact h3
  have HBy := hide (byt_sub hB k n)
  have HLn : Hid ((sub d k n).length ≤ 140737488351232) := by show _ ≤ _; unfold sub; rw [List.length_take]; omega
  have HS := hide h
  obtain ⟨j, hj⟩ : ∃ j, j = k + n := ⟨_, rfl⟩
  have e2 : (k : Int) + (n : Int) = (j : Int) := by omega
  have HF : Hid (∀ v', SB w v' (sub d k n) → Calls Try.prog 41 #[v'] w fun e w' => ∃ g u, e = .returned (.pointer (some ⟨g, 0, none⟩)) ∧ Raw 79 w' w.heap.size g u (sub d k n) ∧ Below w.heap.size w w') := fun v' hv => newCursor_any v' _ w hv HLn.out
  have HC : Hid (∀ g u w', Raw 79 w' w.heap.size g u (sub d k n) → Below w.heap.size w w' → Cx w g (sub d k n) 0 w') := fun g u w' hr hb => Cx.raw hr hb HLn.out HBy.out
  clear h
  by_cases hkl : k < d.length
  · obtain ⟨b, o, rfl⟩ := q3 (by omega)
    have e5 : ¬ cap = k := by omega
    have e8 : k ≤ cap := by omega
    by_cases hm : j ≤ d.length
    · have HP : Hid (SB w (.slice (some ⟨b, o + k, none⟩) n (cap - k)) (sub d k n)) := HS.out.part12 (by omega) (by omega)
      have e4 : k ≤ j := by omega
      have e6 : j - k = n := by omega
      have e7 : j ≤ cap := by omega
      have e9 : (j : Int) ≤ (d.length : Int) := by omega
      have HX := hide (HF.out _ HP.out)
      clear q3 hj HS HP HF
      go_enter Try.func26, Try.ntmps26
      go_wp2_with fail
      refine HX.out.mono ?_
      rintro e w1 ⟨g, u, rfl, hr, hb⟩
      have HG := hide (HC.out g u w1 hr hb)
      clear hr hb
      go_wp2
      go_ret
      exact ⟨g, rfl, HG.out⟩
    · obtain ⟨r, hr⟩ : ∃ r, d.length = k + r := ⟨d.length - k, by omega⟩
      have HP : Hid (SB w (.slice (some ⟨b, o + k, none⟩) (d.length - k) (cap - k)) (sub d k n)) := by
        have := HS.out.part12 (k := k) (n := d.length - k) (by omega) (by omega)
        have e : sub d k (d.length - k) = sub d k n := by
          unfold sub
          rw [List.take_of_length_le (by rw [List.length_drop]; omega), List.take_of_length_le (by rw [List.length_drop]; omega)]
        rw [e] at this
        exact this
      have e4 : k ≤ d.length := by omega
      have e7 : d.length ≤ cap := by omega
      have e9 : ¬ (j : Int) ≤ (d.length : Int) := by omega
      have e10 : (d.length : Int) ≤ (j : Int) := by omega
      have HX := hide (HF.out _ HP.out)
      clear q3 hj HS HP HF hr
      go_enter Try.func26, Try.ntmps26
      go_wp2_with fail
      refine HX.out.mono ?_
      rintro e w1 ⟨g, u, rfl, hr, hb⟩
      have HG := hide (HC.out g u w1 hr hb)
      clear hr hb
      go_wp2
      go_ret
      exact ⟨g, rfl, HG.out⟩
  · obtain rfl : k = d.length := by omega
    have HZ : Hid (sub d d.length n = []) := by show _ = _; unfold sub; rw [List.drop_length, List.take_nil]
    have HZZ : Hid (∀ a c, c ≤ 9223372036854775807 → (a = none → c = 0) → SB w (.slice a 0 c) (sub d d.length n)) := fun a c hc ha => by rw [HZ.out]; exact ⟨a, c, rfl, Nat.zero_le _, by unfold maxLen; omega, ha, fun x hx i hi => by simp at hi⟩
    by_cases hn0 : n = 0
    · obtain rfl : j = d.length := by omega
      subst hn0
      have e9 : (d.length : Int) ≤ (d.length : Int) := by omega
      clear e2
      by_cases hc : cap = d.length
      · have HX := hide (HF.out _ (HZZ.out ao 0 (by omega) (fun _ => rfl)))
        clear q3 hj HS HF HZZ
        go_enter Try.func26, Try.ntmps26
        go_wp2_with fail
        refine HX.out.mono ?_
        rintro e w1 ⟨g, u, rfl, hr, hb⟩
        have HG := hide (HC.out g u w1 hr hb)
        clear hr hb
        go_wp2
        go_ret
        exact ⟨g, rfl, HG.out⟩
      · cases ao with
        | none => have := HN0.out rfl; omega
        | some x =>
        have HX := hide (HF.out _ (HZZ.out (some (x.add d.length)) (cap - d.length) (by omega) (fun e => by cases e)))
        clear q3 hj HS HF HZZ HN0
        go_enter Try.func26, Try.ntmps26
        go_wp2_with fail
        refine HX.out.mono ?_
        rintro e w1 ⟨g, u, rfl, hr, hb⟩
        have HG := hide (HC.out g u w1 hr hb)
        clear hr hb
        go_wp2
        go_ret
        exact ⟨g, rfl, HG.out⟩
    · have e9 : ¬ (j : Int) ≤ (d.length : Int) := by omega
      have e10 : (d.length : Int) ≤ (j : Int) := by omega
      by_cases hc : cap = d.length
      · have HX := hide (HF.out _ (HZZ.out ao 0 (by omega) (fun _ => rfl)))
        clear q3 hj HS HF HZZ
        go_enter Try.func26, Try.ntmps26
        go_wp2_with fail
        refine HX.out.mono ?_
        rintro e w1 ⟨g, u, rfl, hr, hb⟩
        have HG := hide (HC.out g u w1 hr hb)
        clear hr hb
        go_wp2
        go_ret
        exact ⟨g, rfl, HG.out⟩
      · cases ao with
        | none => have := HN0.out rfl; omega
        | some x =>
        have HX := hide (HF.out _ (HZZ.out (some (x.add d.length)) (cap - d.length) (by omega) (fun e => by cases e)))
        clear q3 hj HS HF HZZ HN0
        go_enter Try.func26, Try.ntmps26
        go_wp2_with fail
        refine HX.out.mono ?_
        rintro e w1 ⟨g, u, rfl, hr, hb⟩
        have HG := hide (HC.out g u w1 hr hb)
        clear hr hb
        go_wp2
        go_ret
        exact ⟨g, rfl, HG.out⟩
end Go.Proofs.Ytijmmfimkibgbaa

