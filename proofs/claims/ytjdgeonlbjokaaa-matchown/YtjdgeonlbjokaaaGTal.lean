import Derived.Test.YtjdgeonlbjokaaaGTap
namespace Go.Proofs.Ytjdgeonlbjokaaa
open Go.RowKit Go.Maps
set_option maxRecDepth 20000
set_option linter.unusedVariables false
set_option linter.unusedSimpArgs false

theorem fr3_mid (A B : List Tk) (q : Tk) : fr3 (A ++ q :: B) = fr3 A ++ .int .i64 q.1 :: .int .i64 q.2.1 :: .int .u8 q.2.2 :: fr3 B := by rw [fr3_app]; rfl

theorem fr3_set (A B : List Tk) (s t : Tk) : (((fr3 (A ++ s :: B)).set (A.length * 3) (.int .i64 t.1)).set (A.length * 3 + 1) (.int .i64 t.2.1)).set (A.length * 3 + 2) (.int .u8 t.2.2) = fr3 (A ++ t :: B) := by
  rw [fr3_mid, fr3_mid, ← fr3_len A]
  simp [List.set_append_right]

theorem split_at {L : List Tk} {j : Nat} (hj : j < L.length) : ∃ A s B, L = A ++ s :: B ∧ A.length = j ∧ ∀ t, L.set j t = A ++ t :: B := by
  refine ⟨L.take j, L[j], L.drop (j + 1), ?_, by simp; omega, fun t => ?_⟩
  · rw [← List.drop_eq_getElem_cons hj, List.take_append_drop]
  · rw [List.set_eq_take_append_cons_drop, if_pos hj]

/-- A token written over in a row of one's own. -/
theorem OK.setAt3 {w : World} {base b p j : Nat} {L : List Tk} (t : Tk) (h : OK w base (.slice (some ⟨b, 0, none⟩) L.length p) L) (hj : j < L.length) :
    OK (((w.setCell ⟨b, j * 3, none⟩ (.int .i64 t.1)).setCell ⟨b, j * 3 + 1, none⟩ (.int .i64 t.2.1)).setCell ⟨b, j * 3 + 2, none⟩ (.int .u8 t.2.2)) base (.slice (some ⟨b, 0, none⟩) L.length p) (L.set j t) := by
  obtain ⟨A, s, B, hL, hA, hS⟩ := split_at hj
  rcases h.2 with ⟨hx, _⟩ | ⟨g, cap, cur, he, h1, h2, h3, h4, h5, h6⟩
  · simp at hx
  · simp only [Value.slice.injEq, Option.some.injEq, Addr.mk.injEq] at he
    obtain ⟨⟨rfl, -, -⟩, -, rfl⟩ := he
    have q1 := heap_setCell_same w b (j * 3) _ _ (.int .i64 t.1) h2
    have q2 := heap_setCell_same _ b (j * 3 + 1) _ _ (.int .i64 t.2.1) q1
    have q3 := heap_setCell_same _ b (j * 3 + 2) _ _ (.int .u8 t.2.2) q2
    refine ⟨fr3_len _, .inr ⟨b, p, _, by simp, h1, q3, by simpa using h3, h4, by simpa using h5, ?_⟩⟩
    rw [List.length_set]
    simp only [Array.toList_setIfInBounds]
    rw [List.take_set, List.take_set, List.take_set, h6, hS]
    subst hA
    rw [hL]
    exact fr3_set A B s t

theorem OK.cellAt3 {w : World} {base b p j : Nat} {L : List Tk} (h : OK w base (.slice (some ⟨b, 0, none⟩) L.length p) L) (hj : j < L.length) :
    w.cell? ⟨b, j * 3, none⟩ = some (.int .i64 (L.getD j tk0).1) ∧ w.cell? ⟨b, j * 3 + 1, none⟩ = some (.int .i64 (L.getD j tk0).2.1) ∧ w.cell? ⟨b, j * 3 + 2, none⟩ = some (.int .u8 (L.getD j tk0).2.2) ∧ ∀ i, w.frozen? ⟨b, i, none⟩ = false := by
  obtain ⟨b', o', e, c1, c2, c3⟩ := h.sk.get (Below.refl _ _) hj
  simp only [Option.some.injEq, Addr.mk.injEq] at e
  obtain ⟨rfl, rfl, -⟩ := e
  rw [Nat.zero_add] at c1 c2 c3
  refine ⟨c1, c2, c3, fun i => ?_⟩
  rcases h.2 with ⟨hx, _⟩ | ⟨g, cap, cur, he, h1, h2, _⟩
  · simp at hx
  · simp only [Value.slice.injEq, Option.some.injEq, Addr.mk.injEq] at he
    obtain ⟨⟨rfl, -, -⟩, -, rfl⟩ := he
    simp [World.frozen?, h2]

theorem SK.same {w w' : World} {v : Value} {L : List Tk} (h : SK w v L) (hk : ∀ k, v.ownBlock = some k → w'.heap[k]? = w.heap[k]?) : SK w' v L := by
  obtain ⟨ao, cap, rfl, h1, h2, h3, h4⟩ := h
  refine ⟨ao, cap, rfl, h1, h2, h3, fun x hx i hi => ?_⟩
  obtain ⟨c1, c2, c3⟩ := h4 x hx i hi
  subst hx
  have mv : ∀ (n : Nat) (u : Value), w.cell? (x.add n) = some u → w'.cell? (x.add n) = some u := fun n u hp => by
    have hb : (x.add n).block = x.block := by unfold Addr.add; split <;> simp_all
    exact (World.cell?_of_block (w := w) (hb ▸ hk x.block (by simp [Value.ownBlock]))).trans hp
  exact ⟨mv _ _ c1, mv _ _ c2, mv _ _ c3⟩
end Go.Proofs.Ytjdgeonlbjokaaa

