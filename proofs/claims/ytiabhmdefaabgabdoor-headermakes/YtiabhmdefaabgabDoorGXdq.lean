import Derived.Test.YtiabhmdefaabgabDoorGNdw
namespace Go.Proofs.YtiabhmdefaabgabDoor
open Go.RowKit Go.Maps
set_option maxRecDepth 20000
set_option linter.unusedVariables false

theorem step_appI {ops : Array Oper} {o : Oper} {a : Act} {w : World} {K : Act → World → Prop} {Q : Exit → Act → World → Prop} {E : Prop} (hgd : o.guard = none) (s x : Operand)
    (ho : o.op = .call { callee := .builtin .append, args := #[s, x], argTypes := #[22, 22] }) (base : Nat) (v xv : Value) (l news : List Int) (hv : a.eval s = v) (hown : OI w base v l) (hx : a.eval x = xv) (hs : Src Tryd.prog 1 22 xv news.length (news.map (Value.int .i64)) w)
    (hb : l.length + news.length ≤ 17592186044416) (hbase : base ≤ w.heap.size)
    (h : ∀ v' w', OI w' base v' (l ++ news) → Grew w w' v v' → K (a.put o.dst v') w') :
    if Region.wanted o (yielded ops a.tmps) = true then Oper.wp Tryd.prog o a w K Q else E := by
  have hw : Region.wanted o (yielded ops a.tmps) = true := by simp [Region.wanted, hgd]
  rw [if_pos hw]
  obtain ⟨v', w', hr, h2, h3, _⟩ := run_appI w base 22 o.type v xv l news hown hs hb hbase
  unfold Oper.wp
  simp [execOp, ho, resolve, invoke, builtin, hv, hx, hr, Result.andThen]
  exact h v' w' h2 h3

/-- The joined node under way: its weight and what it holds so far. -/
structure Cst (wC : World) (gC : Nat) (a : Int) (hv : Value) (l : List Nat) (W : World) : Prop where
  bel : Below gC wC W
  box : W.heap[gC]? = some (.cells #[.int .i64 a, hv] 119 (0, 0))
  own : OI W gC hv (ci l)

theorem Cst.cells {wC : World} {gC : Nat} {a : Int} {hv : Value} {l : List Nat} {W : World} (h : Cst wC gC a hv l W) : W.cell? ⟨gC, 0, none⟩ = some (.int .i64 a) ∧ W.cell? ⟨gC, 1, none⟩ = some hv ∧ W.frozen? ⟨gC, 1, none⟩ = false ∧ gC < W.heap.size := by
  have hlt : gC < W.heap.size := (Array.getElem?_eq_some_iff.1 h.box).1
  refine ⟨?_, ?_, ?_, hlt⟩
  · unfold World.cell?; simp only [h.box]; rfl
  · unfold World.cell?; simp only [h.box]; rfl
  · unfold World.frozen?; simp [h.box]

/-- One more is held. -/
theorem Cst.app {wC : World} {gC : Nat} {a : Int} {hv v' : Value} {l : List Nat} {W w6 : World} {o : Obj} (h : Cst wC gC a hv l W) (x : Nat) (hCs : gC ≤ wC.heap.size) (ho : OI w6 gC v' (ci l ++ [(x : Int)])) (hg : Grew (W.alloc o) w6 hv v') : w6.cell? ⟨gC, 1, none⟩ = some hv ∧ w6.frozen? ⟨gC, 1, none⟩ = false ∧ Cst wC gC a v' (l ++ [x]) (w6.setCell ⟨gC, 1, none⟩ v') := by
  have hlt := h.cells.2.2.2
  have hne : hv.ownBlock ≠ some gC := fun e => by
    rcases h.own.2 with ⟨rfl, _⟩ | ⟨g, cap, cur, rfl, _, hg', _⟩
    · simp [Value.ownBlock] at e
    · simp only [Value.ownBlock, Option.some.injEq] at e
      subst e
      rw [h.box] at hg'
      simp at hg'
  have hbox6 : w6.heap[gC]? = some (.cells #[.int .i64 a, hv] 119 (0, 0)) := by
    rw [hg.by.block gC (by simp; omega) (fun e => hne e.symm), Below.heap_alloc W o gC hlt]
    exact h.box
  have hne' : v'.ownBlock ≠ some gC := fun e => by
    rcases ho.2 with ⟨rfl, _⟩ | ⟨g, cap, cur, rfl, _, hg', _⟩
    · simp [Value.ownBlock] at e
    · simp only [Value.ownBlock, Option.some.injEq] at e
      subst e
      rw [hbox6] at hg'
      simp at hg'
  refine ⟨by unfold World.cell?; simp only [hbox6]; rfl, by unfold World.frozen?; simp [hbox6], ?_, ?_, ?_⟩
  · have hb6 : Below gC wC w6 := (h.bel.alloc (Nat.le_trans hCs h.bel.size) _).grown hg.by (by have := h.bel.size; simp; omega) (fun j hj => (h.own.lt j hj).1)
    exact hb6.setCell (p := ⟨gC, 1, none⟩) (Nat.le_refl _) _
  · rw [heap_setCell_at _ hbox6]
    rfl
  · have e : ci (l ++ [x]) = ci l ++ [(x : Int)] := by simp [ci]
    rw [e]
    exact ho.move fun k hk => setCell_others _ _ _ _ k (fun q => hne' (by rw [← q]; exact hk))
end Go.Proofs.YtiabhmdefaabgabDoor

