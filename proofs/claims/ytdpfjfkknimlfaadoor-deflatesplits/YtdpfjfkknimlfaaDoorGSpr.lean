import Derived.Test.YtdpfjfkknimlfaaDoorGChk
import Derived.Test.YtdpfjfkknimlfaaDoorGIt
import Derived.Maps.OwnIn
import Derived.RangeFuncCalls
import Derived.Great.BuildSlice
namespace Go.Proofs.YtdpfjfkknimlfaaDoor
open Go.RowKit Go.Maps Go.Shelf
attribute [local go_sem] Oper.semAt_some
set_option maxRecDepth 20000
set_option linter.unusedVariables false

/-- Rows of stretches. -/
def fl10 (rows : List (Nat → Int)) : List Value := rows.flatMap fun f => (a10 f).toList

theorem fl10_snoc (rows : List (Nat → Int)) (f : Nat → Int) : fl10 (rows ++ [f]) = fl10 rows ++ (a10 f).toList := by simp [fl10]

def OS (w : World) (base : Nat) (v : Value) (rows : List (Nat → Int)) : Prop := w.ownsRow base 40 10 v rows.length (fl10 rows)

theorem OS.lt {w : World} {base : Nat} {v : Value} {R : List (Nat → Int)} (h : OS w base v R) : ∀ k, v.ownBlock = some k → base ≤ k ∧ k < w.heap.size := World.ownsRow.lt h
theorem OS.move {w w' : World} {base : Nat} {v : Value} {R : List (Nat → Int)} (h : OS w base v R) (hb : ∀ k, v.ownBlock = some k → w'.heap[k]? = w.heap[k]?) : OS w' base v R := tokown_move h hb
theorem OS.alloc {w : World} {base : Nat} {v : Value} {R : List (Nat → Int)} (h : OS w base v R) (o : Obj) : OS (w.alloc o) base v R := tokown_move h fun k hk => Below.heap_alloc w o k (h.lt k hk).2
theorem OS.nil (w : World) (base : Nat) : OS w base (.slice none 0 0) [] := World.ownsRow_nil _ _ _ _
theorem OS.base {w : World} {base base' : Nat} {v : Value} {R : List (Nat → Int)} (h : OS w base v R) (hb : base' ≤ base) : OS w base' v R := by
  refine ⟨h.1, ?_⟩
  rcases h.2 with h2 | ⟨g, cap, cur, rfl, h1, r⟩
  · exact .inl h2
  · exact .inr ⟨g, cap, cur, rfl, Nat.le_trans hb h1, r⟩

theorem OS.shape {w : World} {base : Nat} {v : Value} {R : List (Nat → Int)} (h : OS w base v R) : ∃ a c, v = .slice a R.length c ∧ R.length ≤ c ∧ c ≤ 9223372036854775807 := by
  rcases h.2 with ⟨rfl, h0⟩ | ⟨g, cap, cur, rfl, _, _, h3, h4, _⟩
  · exact ⟨none, 0, by rw [h0], by omega, by omega⟩
  · unfold maxLen at h4; exact ⟨_, _, rfl, h3, by omega⟩

theorem infoStr : (Tryd.prog.info? 40).map (fun i => (i.zero, i.size, i.bytes)) = some (some (.agg #[.int .i64 0, .int .i64 0, .int .i64 0, .int .i64 0, .int .i64 0, .int .i64 0, .int .i64 0, .int .i64 0, .int .i64 0, .int .i64 0]), 10, 80) := by kernel_rfl

/-- One more stretch, in a fence. -/
theorem wpStrIn {F : Fence} {nF : Nat} {w : World} {ops : Array Oper} {rest : List Oper} {o : Oper} {a : Act} {Q : Exit → Act → World → Prop} (hgd : o.guard = none) (s x : Operand)
    (ho : o.op = .call { callee := .builtin .append, args := #[s, x], argTypes := #[36, 36] }) (base : Nat) (v : Value) (R : List (Nat → Int)) (f : Nat → Int) (hs : a.eval s = v) (hown : OS w base v R)
    (c : Nat) (hx : a.eval x = .slice (some ⟨w.heap.size, 0, none⟩) 1 c) (hn : R.length ≤ 1000000000) (hbase : base ≤ w.heap.size)
    (h : ∀ v' w', OS w' base v' (R ++ [f]) → (w.alloc (.cells (a10 f) 40)).grownBy w' v.ownBlock → (v'.ownBlock = v.ownBlock ∨ v'.ownBlock = some (w.heap.size + 1)) → wpListIn F nF Tryd.prog ops Q rest (a.put o.dst v') w') :
    wpListIn F nF Tryd.prog ops Q (o :: rest) a (w.alloc (.cells (a10 f) 40)) := by
  obtain ⟨i0, hi0, hz0, hz1, hz2⟩ := info_parts infoStr
  refine wpListIn_append_own_at _ hgd s x 36 ho base 40 i0 _ 10 80 Tryd.underlying36 hi0 hz0 hz1 hz2 rfl (by omega) v R.length (fl10 R) hs (hown.alloc _) ⟨w.heap.size, 0, none⟩ 1 c (a10 f).toList hx (by rw [Array.length_toList, a10_size]) (World.news_of_block (cs := a10 f) (t := 40) (fr := (0, 0)) (heap_alloc_new w _))
    (fun u hu => by
      have := Array.all_eq_true_iff_forall_mem.1 (a10_one f) u (by simpa using hu)
      exact this) (by unfold maxLen; omega) (by omega) (by simp; omega) fun v' w' h1 h2 _ h4 => h v' w' ?_ h2 (by rw [size_alloc'] at h4; exact h4)
  show World.ownsRow _ _ _ _ _ _ _
  rw [List.length_append, fl10_snoc]
  exact h1

theorem wpListIn_ldS {nF : Nat} {ops : Array Oper} {rest : List Oper} {a : Act} {w : World} {Q : Exit → Act → World → Prop} {dst : Option Tmp} {x : Operand} {ty : TypeId} {pos : String} {after : Array Edge} (g : Nat) (f : Nat → Int)
    (hx : a.eval x = .pointer (some ⟨g, 0, none⟩)) (hg : w.heap[g]? = some (.cells (a10 f) 40 (0, 0))) (h : wpListIn Fence.wide nF Tryd.prog ops Q rest (a.put dst (.agg (a10 f))) w) :
    wpListIn Fence.wide nF Tryd.prog ops Q ({ dst := dst, op := .load 40 x, type := ty, pos := pos, after := after, guard := none } :: rest) a w :=
  wpListIn_plain rfl fun _ hK => oper_wide (wp_load_row 40 x rfl g hx 40 (a10 f) (0, 0) _ hg Tryd.underlying40 rfl (by rw [a10_size]; exact rzS) (hK _ _ h))

theorem wpListIn_ldR {l nF : Nat} {ops : Array Oper} {rest : List Oper} {a : Act} {w : World} {Q : Exit → Act → World → Prop} {dst : Option Tmp} {x : Operand} {ty : TypeId} {pos : String} {after : Array Edge} (g : Nat) (f : Nat → Int)
    (hx : a.eval x = .pointer (some ⟨g, 0, none⟩)) (hg : w.heap[g]? = some (.cells (a10 f) 40 (0, 0))) (h : wpListIn (Fence.wide.inRound l) nF Tryd.prog ops Q rest (a.put dst (.agg (a10 f))) w) :
    wpListIn (Fence.wide.inRound l) nF Tryd.prog ops Q ({ dst := dst, op := .load 40 x, type := ty, pos := pos, after := after, guard := none } :: rest) a w :=
  wpListIn_plain rfl fun _ hK => oper_inRound l (fun _ e => by cases e) (oper_wide (wp_load_row 40 x rfl g hx 40 (a10 f) (0, 0) _ hg Tryd.underlying40 rfl (by rw [a10_size]; exact rzS) (hK _ _ h)))

theorem wpListIn_stR {l nF : Nat} {ops : Array Oper} {rest : List Oper} {a : Act} {w : World} {Q : Exit → Act → World → Prop} {dst : Option Tmp} {x y : Operand} {ty : TypeId} {pos : String} {after : Array Edge} (g : Nat) (f h0 : Nat → Int)
    (hx : a.eval x = .pointer (some ⟨g, 0, none⟩)) (hy : a.eval y = .agg (a10 f)) (hg : w.heap[g]? = some (.cells (a10 h0) 40 (0, 0))) (h : wpListIn (Fence.wide.inRound l) nF Tryd.prog ops Q rest (a.put dst undef) (w.setRow g (a10 f))) :
    wpListIn (Fence.wide.inRound l) nF Tryd.prog ops Q ({ dst := dst, op := .store 40 x y, type := ty, pos := pos, after := after, guard := none } :: rest) a w :=
  wpListIn_plain rfl fun _ hK => oper_inRound l (fun _ e => by cases e) (oper_wide (wp_store_row 40 x y rfl g (a10 f) hx hy 40 (a10 h0) hg (by rw [a10_size]; exact rzS) (by rw [a10_size, a10_size]) (a10_one f) (hK _ _ h)))

/-- A whole stretch into a box of any ten cells. -/
theorem wpListIn_stO {nF : Nat} {ops : Array Oper} {rest : List Oper} {a : Act} {w : World} {Q : Exit → Act → World → Prop} {dst : Option Tmp} {x y : Operand} {ty : TypeId} {pos : String} {after : Array Edge} (g : Nat) (f : Nat → Int) (old : Array Value)
    (hx : a.eval x = .pointer (some ⟨g, 0, none⟩)) (hy : a.eval y = .agg (a10 f)) (hg : w.heap[g]? = some (.cells old 40 (0, 0))) (hold : old.size = 10) (h : wpListIn Fence.wide nF Tryd.prog ops Q rest (a.put dst undef) (w.setRow g (a10 f))) :
    wpListIn Fence.wide nF Tryd.prog ops Q ({ dst := dst, op := .store 40 x y, type := ty, pos := pos, after := after, guard := none } :: rest) a w :=
  wpListIn_plain rfl fun _ hK => oper_wide (wp_store_row 40 x y rfl g (a10 f) hx hy 40 old hg (by rw [a10_size]; exact rzS) (by rw [a10_size]; exact hold) (a10_one f) (hK _ _ h))

theorem wpListIn_stQ {l nF : Nat} {ops : Array Oper} {rest : List Oper} {a : Act} {w : World} {Q : Exit → Act → World → Prop} {dst : Option Tmp} {x y : Operand} {ty : TypeId} {pos : String} {after : Array Edge} (g : Nat) (f : Nat → Int) (old : Array Value)
    (hx : a.eval x = .pointer (some ⟨g, 0, none⟩)) (hy : a.eval y = .agg (a10 f)) (hg : w.heap[g]? = some (.cells old 40 (0, 0))) (hold : old.size = 10) (h : wpListIn (Fence.wide.inRound l) nF Tryd.prog ops Q rest (a.put dst undef) (w.setRow g (a10 f))) :
    wpListIn (Fence.wide.inRound l) nF Tryd.prog ops Q ({ dst := dst, op := .store 40 x y, type := ty, pos := pos, after := after, guard := none } :: rest) a w :=
  wpListIn_plain rfl fun _ hK => oper_inRound l (fun _ e => by cases e) (oper_wide (wp_store_row 40 x y rfl g (a10 f) hx hy 40 old hg (by rw [a10_size]; exact rzS) (by rw [a10_size]; exact hold) (a10_one f) (hK _ _ h)))

theorem fill10 (f : Nat → Int) (ie : TypeInfo) (z : Value) (hs : ie.size = 10) (hz : z = .agg #[.int .i64 0, .int .i64 0, .int .i64 0, .int .i64 0, .int .i64 0, .int .i64 0, .int .i64 0, .int .i64 0, .int .i64 0, .int .i64 0]) :
    Instr.fill (fun i => some (i * ie.size, ie.size)) ((Array.range (1 * ie.size)).map (z.cells[· % z.cells.size]!)) [(0, .agg (a10 f))] = some (a10 f) := by
  subst hz
  rw [hs]
  kernel_rfl

/-- A list of one stretch. -/
theorem wpListIn_bsR {l nF : Nat} {ops : Array Oper} {rest : List Oper} {a : Act} {w : World} {Q : Exit → Act → World → Prop} {dst : Option Tmp} {x : Operand} {ty : TypeId} {pos : String} {after : Array Edge} (f : Nat → Int)
    (hx : a.eval x = .agg (a10 f)) (h : wpListIn (Fence.wide.inRound l) nF Tryd.prog ops Q rest (a.put dst (.slice (some ⟨w.heap.size, 0, none⟩) 1 1)) (w.alloc (.cells (a10 f) 40))) :
    wpListIn (Fence.wide.inRound l) nF Tryd.prog ops Q ({ dst := dst, op := .buildSlice 36 1 #[(0, x)], type := ty, pos := pos, after := after, guard := none } :: rest) a w := by
  obtain ⟨i0, hi0, hz0, hz1, hz2⟩ := info_parts infoStr
  exact wpListIn_plain rfl fun _ hK => oper_inRound l (fun _ e => by cases e) (oper_wide (wp_buildSlice 36 40 1 #[(0, x)] rfl (a10 f) i0 _ Tryd.underlying36 hi0 hz0 (by rw [hz1]; omega) (by rw [hz1]; omega) (by
    have e : (#[(0, x)].map fun (i, x) => (i, a.eval x)).toList = [(0, Value.agg (a10 f))] := by simp [hx]
    rw [e]
    exact fill10 f i0 _ hz1 rfl) (hK _ _ h)))

theorem wpListIn_bsS {nF : Nat} {ops : Array Oper} {rest : List Oper} {a : Act} {w : World} {Q : Exit → Act → World → Prop} {dst : Option Tmp} {x : Operand} {ty : TypeId} {pos : String} {after : Array Edge} (f : Nat → Int)
    (hx : a.eval x = .agg (a10 f)) (h : wpListIn Fence.wide nF Tryd.prog ops Q rest (a.put dst (.slice (some ⟨w.heap.size, 0, none⟩) 1 1)) (w.alloc (.cells (a10 f) 40))) :
    wpListIn Fence.wide nF Tryd.prog ops Q ({ dst := dst, op := .buildSlice 36 1 #[(0, x)], type := ty, pos := pos, after := after, guard := none } :: rest) a w := by
  obtain ⟨i0, hi0, hz0, hz1, hz2⟩ := info_parts infoStr
  exact wpListIn_plain rfl fun _ hK => oper_wide (wp_buildSlice 36 40 1 #[(0, x)] rfl (a10 f) i0 _ Tryd.underlying36 hi0 hz0 (by rw [hz1]; omega) (by rw [hz1]; omega) (by
    have e : (#[(0, x)].map fun (i, x) => (i, a.eval x)).toList = [(0, Value.agg (a10 f))] := by simp [hx]
    rw [e]
    exact fill10 f i0 _ hz1 rfl) (hK _ _ h))

/-- A new box with a stretch in it. -/
theorem newS (w : World) (old : Array Value) (f : Nat → Int) : ((w.alloc (.cells old 40)).setRow w.heap.size (a10 f)).heap[w.heap.size]? = some (.cells (a10 f) 40 (0, 0)) ∧ Below w.heap.size w ((w.alloc (.cells old 40)).setRow w.heap.size (a10 f)) ∧ ((w.alloc (.cells old 40)).setRow w.heap.size (a10 f)).heap.size = w.heap.size + 1 := by
  have hb : Below w.heap.size w (w.alloc (.cells old 40)) := (Below.refl _ _).alloc (Nat.le_refl _) _
  refine ⟨setRow_heap _ _ _ _ _ _ (heap_alloc_new w _), ⟨hb.os, hb.tape, hb.output, by rw [size_setRow]; exact hb.size, fun k hk => (setRow_other _ _ _ _ (by omega)).trans (hb.block k hk)⟩, by rw [size_setRow]; simp⟩

theorem pObj_ne (W : World) {l b : Nat} (o : Obj) (h : b ≠ l) : (W.putObj l o).heap[b]? = W.heap[b]? := by
  show (W.heap.setIfInBounds l o)[b]? = _
  rw [Array.getElem?_setIfInBounds_ne (fun e => h e.symm)]

theorem pObj_size (W : World) (l : Nat) (o : Obj) : (W.putObj l o).heap.size = W.heap.size := by show (W.heap.setIfInBounds l o).size = _; simp

theorem cellIn1 {w : World} {g k : Nat} {cur : Array Value} {t : TypeId} {fz : Nat × Nat} {u : Value} (h : w.heap[g]? = some (.cells cur t fz)) (hk : cur[k]? = some u) : w.cell? ⟨g, k, none⟩ = some u := by
  unfold World.cell?; rw [h]; exact hk

/-- The loop over the units: the blocks that are closed are in the variable at gB, the last one is at gL. All else below d is as it was (wb). -/
structure SpJ (wb : World) (d gB gL : Nat) (rows : List (Nat → Int)) (f : Nat → Int) (o : Obj) (W : World) : Prop where
  dfr : W.heap[d]? = some (.deferred (some []))
  lp : W.heap[d + 1]? = some o
  os : W.os = wb.os
  tape : W.tape = wb.tape
  output : W.output = wb.output
  size : d + 2 ≤ W.heap.size
  blk : ∀ b, b < d → b ≠ gB → b ≠ gL → W.heap[b]? = wb.heap[b]?
  lst : W.heap[gL]? = some (.cells (a10 f) 40 (0, 0))
  var : ∃ tv, W.heap[gB]? = some (.cells #[tv] 36 (0, 0)) ∧ OS W (d + 2) tv rows

variable {wb : World} {d gB gL : Nat} {rows : List (Nat → Int)} {f : Nat → Int} {o : Obj} {W : World}

theorem SpJ.put (h : SpJ wb d gB gL rows f o W) (h1 : gB < d) (h2 : gL < d) (o' : Obj) : SpJ wb d gB gL rows f o' (W.putObj (d + 1) o') where
  dfr := (pObj_ne _ _ (by omega)).trans h.dfr
  lp := by
    have := h.size
    show (W.heap.setIfInBounds (d + 1) o')[d + 1]? = some o'
    rw [Array.getElem?_setIfInBounds_self_of_lt (by omega)]
  os := h.os
  tape := h.tape
  output := h.output
  size := by rw [pObj_size]; exact h.size
  blk := fun b h1 h2 h3 => (pObj_ne _ _ (by omega)).trans (h.blk b h1 h2 h3)
  lst := (pObj_ne _ _ (by omega)).trans h.lst
  var := by
    obtain ⟨tv, e1, e2⟩ := h.var
    exact ⟨tv, (pObj_ne _ _ (by omega)).trans e1, e2.move fun b hb => pObj_ne _ _ (by have := (e2.lt b hb).1; omega)⟩

theorem SpJ.drewN (h : SpJ wb d gB gL rows f o W) (n : Nat) : SpJ wb d gB gL rows f o (W.drewN n) := ⟨h.dfr, h.lp, h.os, h.tape, h.output, h.size, h.blk, h.lst, by
  obtain ⟨tv, e1, e2⟩ := h.var
  exact ⟨tv, e1, e2.move fun b hb => rfl⟩⟩

theorem SpJ.low {w' : World} (h : SpJ wb d gB gL rows f o W) (h1 : gB < d) (h2 : gL < d) (hb : Below W.heap.size W w') : SpJ wb d gB gL rows f o w' := by
  have hz := h.size
  refine ⟨(hb.block _ (by omega)).trans h.dfr, (hb.block _ (by omega)).trans h.lp, hb.os.trans h.os, hb.tape.trans h.tape, hb.output.trans h.output, Nat.le_trans hz hb.size, fun b x y z => (hb.block _ (by omega)).trans (h.blk b x y z), (hb.block _ (by omega)).trans h.lst, ?_⟩
  obtain ⟨tv, e1, e2⟩ := h.var
  exact ⟨tv, (hb.block _ (by omega)).trans e1, e2.move fun b hb2 => hb.block b (e2.lt b hb2).2⟩

theorem SpJ.setL (h : SpJ wb d gB gL rows f o W) (h1 : gB < d) (h2 : gL < d) (hn : gB ≠ gL) (f' : Nat → Int) : SpJ wb d gB gL rows f' o (W.setRow gL (a10 f')) := by
  have hz := h.size
  have ot : ∀ b, b ≠ gL → (W.setRow gL (a10 f')).heap[b]? = W.heap[b]? := fun b hb => setRow_other W _ _ _ hb
  refine ⟨(ot _ (by omega)).trans h.dfr, (ot _ (by omega)).trans h.lp, h.os, h.tape, h.output, by rw [size_setRow]; exact hz, fun b x y z => (ot _ z).trans (h.blk b x y z), setRow_heap W _ _ _ _ _ h.lst, ?_⟩
  obtain ⟨tv, e1, e2⟩ := h.var
  exact ⟨tv, (ot _ hn).trans e1, e2.move fun b hb2 => ot b (by have := (e2.lt b hb2).1; omega)⟩

/-- One more is closed: the variable is written. -/
theorem SpJ.next {w1 w2 : World} {tv tv2 : Value} {rows' : List (Nat → Int)} (h : SpJ wb d gB gL rows f o W) (h1 : gB < d) (h2 : gL < d) (hn : gB ≠ gL)
    (hv : W.heap[gB]? = some (.cells #[tv] 36 (0, 0))) (ho : OS W (d + 2) tv rows) (hb : Below W.heap.size W w1) (hgr : w1.grownBy w2 tv.ownBlock) (h3 : OS w2 (d + 2) tv2 rows') :
    SpJ wb d gB gL rows' f o (w2.setCell ⟨gB, 0, none⟩ tv2) := by
  have hz := h.size
  have hs1 := hb.size
  have hs2 := hgr.size
  have low : ∀ b, b < d + 2 → w2.heap[b]? = W.heap[b]? := fun b h1 => (hgr.block b (by omega) (fun e => by have := (ho.lt b e.symm).1; omega)).trans (hb.block b (by omega))
  have hot : ∀ b, b ≠ gB → (w2.setCell ⟨gB, 0, none⟩ tv2).heap[b]? = w2.heap[b]? := fun b hbr => setCell_others _ _ _ _ b hbr
  have hg2 := (low gB (by omega)).trans hv
  refine ⟨(hot _ (by omega)).trans ((low _ (by omega)).trans h.dfr), (hot _ (by omega)).trans ((low _ (by omega)).trans h.lp), (hgr.os.trans hb.os).trans h.os, (hgr.tape.trans hb.tape).trans h.tape, (hgr.output.trans hb.output).trans h.output, by rw [size_setCell]; omega, fun b x y z => (hot _ y).trans ((low _ (by omega)).trans (h.blk b x y z)), (hot _ (fun e => hn e.symm)).trans ((low _ (by omega)).trans h.lst), tv2, ?_, h3.move fun b hb2 => hot b (by have := (h3.lt b hb2).1; omega)⟩
  rw [heap_setCell_at _ hg2]; rfl
end Go.Proofs.YtdpfjfkknimlfaaDoor

