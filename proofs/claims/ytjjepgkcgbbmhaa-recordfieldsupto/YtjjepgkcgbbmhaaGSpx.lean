import Derived.Test.YtjjepgkcgbbmhaaGExn
import Derived.Test.YtjjepgkcgbbmhaaGCty
namespace Go.Proofs.Ytjjepgkcgbbmhaa
open Go.RowKit Go.Maps
set_option maxRecDepth 20000
set_option linter.unusedVariables false
set_option linter.unusedSimpArgs false

theorem cu_low {B g : Nat} {T : Nat} {w w' : World} {st : CSt} (h : Cu (fun k => g ≤ k ∨ k < B) T w g st) (hk : ∀ k, k < w.heap.size → k ≤ g → w'.heap[k]? = w.heap[k]?) : Cu (fun k => g ≤ k ∨ k < B) T w' g st := by
  obtain ⟨v, h1, h2, h3, h4, h5, h6⟩ := h
  refine ⟨v, (hk g h1.lt (Nat.le_refl _)).trans h1, ?_, h3, h4, h5, h6⟩
  by_cases hd : st.d = []
  · rcases h2 with h2 | ⟨b, cap, rfl, x1, x2, x3⟩
    · exact .inl h2
    · exact .inr ⟨b, cap, rfl, x1, x2, fun i hi => by rw [hd] at hi; exact absurd hi (Nat.not_lt_zero _)⟩
  · exact h2.move fun k hk' => hk k (h2.lt hd k hk') (by have := h6.2 k hk'; omega)

theorem cu_grow {B g : Nat} {T : Nat} {w w3 : World} {st : CSt} {u : Value} {R : List Xf} {o : Obj} (h : Cu (fun k => g ≤ k ∨ k < B) T w g st) (hO : OX w (g + 1) u R) (hg : (w.alloc o).grownBy w3 u.ownBlock) : Cu (fun k => g ≤ k ∨ k < B) T w3 g st := by
  refine cu_low h fun k hk hkg => ?_
  have h1 := hg.block k (by rw [size_alloc']; omega) (fun e => by have := hO.lt k e.symm; omega)
  rw [h1]
  exact Below.heap_alloc w o k hk

theorem ox_step {g B : Nat} {w w' : World} {u : Value} {R : List Xf} (hO : OX w (g + 1) u R) (ht : Tch B g w w') : OX w' (g + 1) u R :=
  xown_move hO fun k hk => ht.2 k (hO.lt k hk).2 (by have := (hO.lt k hk).1; omega)

/-- '[]byte(s)'. -/
theorem wpList_s2b {w : World} {ops : Array Oper} {rest : List Oper} {o : Oper} {a : Act} {Q : Exit → Act → World → Prop} (hgd : o.guard = none) (x : Operand) (ho : o.op = .convert 9 22 x) (s : ByteArray) (hx : a.eval x = .string s) (hs : s.size ≤ 140737488355328)
    (h : ∀ w' c, SB w' (.slice (some ⟨w.heap.size, 0, none⟩) s.size c) (strL s) → Below w.heap.size w w' → wpList Try.prog ops Q rest (a.put o.dst (.slice (some ⟨w.heap.size, 0, none⟩) s.size c)) w') :
    wpList Try.prog ops Q (o :: rest) a w := by
  refine wpList_plain hgd fun K hK => ?_
  have hr := run_bytes_of_string (P := Try.prog) w 9 22 5 s Try.underlying9 Try.underlying22 Try.underlying5
  unfold Oper.wp
  simp [execOp, ho, hx, hr, Result.andThen]
  refine hK _ _ (h _ _ ?_ ((Below.refl _ _).drew.alloc (Nat.le_refl _) _))
  have hge := grownCap_ge w s.size 0 5
  have hcm : grownCap w s.size 0 5 ≤ maxLen := grownCap_le_maxLen w s.size 0 5 (by unfold maxLen; omega)
  refine ⟨some ⟨w.heap.size, 0, none⟩, grownCap w s.size 0 5, by rw [length_strL], by rw [length_strL]; exact hge, hcm, (fun e => by cases e), fun y hy i hi => ?_⟩
  cases hy
  rw [length_strL] at hi
  have hd : i < s.data.size := hi
  rw [Addr.add_lit, Nat.zero_add]
  simp only [World.cell?, heap_alloc_new w.drew _, show w.drew.heap.size = w.heap.size from rfl]
  have := bytesRow_at s (grownCap w s.size 0 5) i hd
  have e : (w.drew.alloc (.cells (bytesRow s (grownCap w s.size 0 5)) 5 ((bytesRow s (grownCap w s.size 0 5)).size, (bytesRow s (grownCap w s.size 0 5)).size + 1))).heap[w.heap.size]? = some (.cells (bytesRow s (grownCap w s.size 0 5)) 5 ((bytesRow s (grownCap w s.size 0 5)).size, (bytesRow s (grownCap w s.size 0 5)).size + 1)) := heap_alloc_new w.drew _
  rw [e]
  simp only [this]
  simp [strL, List.getD, Array.getElem?_eq_getElem hd]
end Go.Proofs.Ytjjepgkcgbbmhaa

