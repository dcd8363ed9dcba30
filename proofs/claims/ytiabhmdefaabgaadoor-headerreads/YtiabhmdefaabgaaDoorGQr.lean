import Derived.Test.YtiabhmdefaabgaaDoorGFact
import Derived.Test.YtiabhmdefaabgaaDoorGHerdJ
namespace Go.Proofs.YtiabhmdefaabgaaDoor
open Go.RowKit Go.Maps
set_option maxRecDepth 20000

/-- One byte more behind the row of an object. -/
theorem WV.snoc {T : Nat} {rest : List Value} {w W w6 : World} {K : Nat → Nat} {g : Nat} {v v' : Value} {d : List Int} {q : Int} {o : Obj} (h : WV T rest w K g v d) (hW : W.heap = (w.alloc o).heap) (h1 : W.os = w.os) (h2 : W.tape = w.tape) (h3 : W.output = w.output) (ho : OB w6 0 v' (d ++ [q])) (hg : Grew W w6 v v') :
    ∃ K', WV T rest (w6.setCell ⟨g, 0, none⟩ v') K' g v' (d ++ [q]) ∧ Fr K K' w (w6.setCell ⟨g, 0, none⟩ v') := by
  have hgr : w.grownBy W v.ownBlock := ⟨h1, h2, h3, by rw [hW, size_alloc']; omega, fun k hk _ => by rw [hW]; exact Below.heap_alloc _ _ k hk⟩
  refine h.put (hgr.trans hg.by) ho ?_
  rcases hg.at with e | e
  · exact .inr (fun k hk => by rw [e, hW, size_alloc'] at hk; cases hk; omega)
  · exact .inl e

/-- What the append's step wants, for a block of one byte. -/
theorem WV.alloc1 {T : Nat} {rest : List Value} {w : World} {K : Nat → Nat} {g : Nat} {v : Value} {d : List Int} (h : WV T rest w K g v d) (q : Int) :
    (w.alloc (.cells #[.int .u8 q] 5)).cell? ⟨g, 0, none⟩ = some v ∧ (∀ W : World, W.heap = (w.alloc (.cells #[.int .u8 q] 5)).heap → OB W 0 v d) ∧
    (∀ W : World, W.heap = (w.alloc (.cells #[.int .u8 q] 5)).heap → Src Tryd.prog 1 52 (.slice (some ⟨w.heap.size, 0, none⟩) 1 1) ([q] : List Int).length (([q] : List Int).map (Value.int .u8)) W) ∧
    (∀ (W w6 : World) (u : Value), W.heap = (w.alloc (.cells #[.int .u8 q] 5)).heap → Grew W w6 v u → w6.cell? ⟨g, 0, none⟩ = some v ∧ w6.frozen? ⟨g, 0, none⟩ = false) := by
  have hgl := h.lt
  refine ⟨?_, fun W hW => OB.move (w := w) h.o fun x hx => by rw [hW]; exact Below.heap_alloc _ _ x (h.o.lt x hx).2, fun W hW => ((built_sb w [q] (by unfold maxLen; simp)).heap hW).src, fun W w6 u hW hg => ?_⟩
  · rw [((Below.refl w.heap.size w).alloc (Nat.le_refl _) _).cell hgl]; exact h.cell 0
  · have e1 : w6.heap[g]? = w.heap[g]? := (hg.by.block g (by rw [hW, size_alloc']; omega) (fun e => h.ng e.symm)).trans (by rw [hW]; exact Below.heap_alloc _ _ g hgl)
    have e2 := e1.trans h.s
    exact ⟨by simp [World.cell?, e2], by simp [World.frozen?, e2]⟩

/-- The document's reader. -/
def Rq (w : World) (K : Nat → Nat) (g : Nat) (row : List Int) (p : Nat) : Prop := ∃ v, WV 82 [.int .i64 p] w K g v row ∧ Bit row ∧ p ≤ row.length ∧ row.length ≤ 268435456 ∧ row.length % 8 = 0

theorem Rq.far {w w' : World} {K : Nat → Nat} {g : Nat} {row : List Int} {p : Nat} (h : Rq w K g row p) (hsz : w.heap.size ≤ w'.heap.size) (hb : ∀ k, K k ≠ 0 → w'.heap[k]? = w.heap[k]?) : Rq w' K g row p := by
  obtain ⟨v, h1, h2⟩ := h
  exact ⟨v, h1.far hsz hb, h2⟩

theorem Rq.drewN {w : World} {K : Nat → Nat} {g : Nat} {row : List Int} {p : Nat} (h : Rq w K g row p) (n : Nat) : Rq (w.drewN n) K g row p := h.far (Nat.le_refl _) (fun _ _ => rfl)

theorem Rq.sup {w : World} {K : Nat → Nat} {g : Nat} {row : List Int} {p : Nat} (h : Rq w K g row p) : ∀ k, K k ≠ 0 → k < w.heap.size := by
  obtain ⟨_, h, _⟩ := h
  exact h.sup

theorem Rq.move {w : World} {K : Nat → Nat} {g : Nat} {row : List Int} {p : Nat} (h : Rq w K g row p) (q : Nat) (x : Int) (hx : x = q) (hq : q ≤ row.length) : Rq (w.setCell ⟨g, 1, none⟩ (.int .i64 x)) K g row q ∧ Fr K K w (w.setCell ⟨g, 1, none⟩ (.int .i64 x)) := by
  subst hx
  obtain ⟨v, h1, h2, h3, h4⟩ := h
  obtain ⟨a1, a2⟩ := h1.set 0 (.int .i64 q)
  exact ⟨⟨v, a1, h2, hq, h4⟩, a2⟩

theorem qat_any {w : World} {K : Nat → Nat} {g : Nat} {row : List Int} {p : Nat} (h : Rq w K g row p) :
    Calls Tryd.prog 32 #[.pointer (some ⟨g, 0, none⟩)] w fun e w' => e = .returned (.int .i64 p) ∧ w' = w := by
  obtain ⟨v, h1, -⟩ := h
  have c1 : w.cell? ⟨g, 1, none⟩ = some (.int .i64 p) := h1.cell 1
  clear h1
  go_enter Tryd.func32, Tryd.ntmps32
  go_wp2
  go_ret
  exact ⟨rfl, rfl⟩

theorem qskip_any {w : World} {K : Nat → Nat} {g : Nat} {row : List Int} {p : Nat} (h : Rq w K g row p) (n : Int) :
    Calls Tryd.prog 28 #[.pointer (some ⟨g, 0, none⟩), .int .i64 n] w fun e w' => e = .returned (.int .i64 (skipE row p n)) ∧ Rq w' K g row (skipP row p n) ∧ Fr K K w w' := by
  have H := hide h
  obtain ⟨v, h1, h2, h3, h4, h5⟩ := h
  have c0 : w.cell? ⟨g, 0, none⟩ = some v := h1.cell 0
  have c1 : w.cell? ⟨g, 1, none⟩ = some (.int .i64 p) := h1.cell 1
  have cf : w.frozen? ⟨g, 1, none⟩ = false := h1.free 1
  obtain ⟨a, c, rfl⟩ := h1.o.shape
  clear h1 h2 h5
  by_cases hn : n < 0
  · have HE : Hid (skipE row p n = 1 ∧ skipP row p n = p) := ⟨if_pos hn, if_pos hn⟩
    go_enter Tryd.func28, Tryd.ntmps28
    go_wp2
    go_ret
    rw [HE.out.1, HE.out.2]
    exact ⟨rfl, H.out, Fr.refl _ _⟩
  by_cases hl : n ≤ (row.length : Int) - p
  · have HE : Hid (skipE row p n = 0 ∧ skipP row p n = p + n.toNat) := ⟨by show (if _ then _ else _) = _; rw [if_neg hn, if_pos hl], by show (if _ then _ else _) = _; rw [if_neg hn, if_pos hl]⟩
    obtain ⟨m, rfl⟩ : ∃ m : Nat, n = m := ⟨n.toNat, by omega⟩
    have HM : Hid (∀ q, Rq ((w.drewN q).setCell ⟨g, 1, none⟩ (.int .i64 ((p : Int) + m))) K g row (p + m) ∧ Fr K K w ((w.drewN q).setCell ⟨g, 1, none⟩ (.int .i64 ((p : Int) + m)))) := fun q => by
      obtain ⟨a1, a2⟩ := (H.out.drewN q).move (p + m) ((p : Int) + m) (by omega) (by omega)
      exact ⟨a1, ((Fr.refl _ _).drewN q).trans a2⟩
    go_enter Tryd.func28, Tryd.ntmps28
    go_wp2
    go_quiet (fail)
    go_wp2
    go_ret
    rw [HE.out.1, HE.out.2]
    exact ⟨rfl, HM.out _⟩
  · have HE : Hid (skipE row p n = 30 ∧ skipP row p n = p) := ⟨by show (if _ then _ else _) = _; rw [if_neg hn, if_neg hl], by show (if _ then _ else _) = _; rw [if_neg hn, if_neg hl]⟩
    go_enter Tryd.func28, Tryd.ntmps28
    go_wp2
    go_quiet (fail)
    go_wp2
    go_ret
    rw [HE.out.1, HE.out.2]
    exact ⟨rfl, H.out.drewN _, (Fr.refl _ _).drewN _⟩

end Go.Proofs.YtiabhmdefaabgaaDoor

