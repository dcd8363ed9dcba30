import Derived.Test.YtaeifigbnlffbaaDoorG09Tpl
import Derived.Laws.Rows
import Derived.Laws.Tables
import Derived.Lib.BufferWrite
import Derived.Deep.RegionHeld3
import Derived.Deep.RegionWith
namespace Go.Proofs.YtaeifigbnlffbaaDoor
open Go.RowKit Go.Maps
set_option maxRecDepth 20000
set_option linter.unusedVariables false
set_option linter.unusedSimpArgs false

/-! A header's 512 bytes kept whole. -/
def ab (l : List Int) : Array Value := (l.map (Value.int .u8)).toArray

theorem ab_size (l : List Int) : (ab l).size = l.length := by simp [ab]

theorem ab_get {l : List Int} {i : Nat} (h : i < l.length) : (ab l)[i]? = some (.int .u8 (l.getD i 0)) := by
  simp [ab, h]

theorem ab_set (l : List Int) (i : Nat) (x : Int) : (ab l).setIfInBounds i (.int .u8 x) = ab (l.set i x) := by
  simp [ab]

theorem ab_one (l : List Int) : (ab l).all (·.oneCell') = true := by
  rw [Array.all_eq_true]
  intro i hi
  simp [ab, Value.oneCell']

def z512 : List Int := List.replicate 512 0

theorem z512_len : z512.length = 512 := by simp [z512]

theorem info512 : (Tryd.prog.info? 51).map (fun i => (i.zero, i.size)) = some (some (.agg (ab z512)), 512) := by kernel_rfl

theorem run_al512 (w : World) : (Instr.alloc 51 true (.tuple #[])).run Tryd.prog w = .ok (.pointer (some ⟨w.heap.size, 0, none⟩)) (w.alloc (.cells (ab z512) 51)) := by
  have h := info512
  obtain ⟨A, hA⟩ : ∃ A, ab z512 = A := ⟨_, rfl⟩
  rw [hA] at h ⊢
  cases hi : Tryd.prog.info? 51 with
  | none => rw [hi] at h; cases h
  | some i =>
    rw [hi] at h
    simp only [Option.map_some, Option.some.injEq, Prod.mk.injEq] at h
    obtain ⟨h1, h2⟩ := h
    clear hA
    simp [Instr.alloc, zeroValue, typeInfo, hi, h1, newVar, newRow, Value.cells]

theorem wpList_al512 {w : World} {ops : Array Oper} {rest : List Oper} {o : Oper} {a : Act} {Q : Exit → Act → World → Prop} (hgd : o.guard = none) (ho : o.op = .alloc 51)
    (h : ∀ w', w'.heap[w.heap.size]? = some (.cells (ab z512) 51 (0, 0)) → Below w.heap.size w w' → Hid (w'.heap.size = w.heap.size + 1) → wpList Tryd.prog ops Q rest (a.put o.dst (.pointer (some ⟨w.heap.size, 0, none⟩))) w') :
    wpList Tryd.prog ops Q (o :: rest) a w := by
  refine wpList_plain hgd fun K hK => ?_
  have hr := run_al512 w
  unfold Oper.wp
  simp [execOp, ho, hr, Result.andThen]
  exact hK _ _ (h _ (heap_alloc_new _ _) ((Below.refl _ _).alloc (Nat.le_refl _) _) (show _ = _ by simp))

theorem size512 {l : List Int} (h : l.length = 512) : (Tryd.prog.info? 51).map (·.size) = some (ab l).size := by
  rw [ab_size, h]; kernel_rfl

theorem ld512 {ops : Array Oper} {rest : List Oper} {a : Act} {w : World} {Q : Exit → Act → World → Prop} {dst : Option Tmp} {x : Operand} {ty : TypeId} {pos : String} {after : Array Edge} (g : Nat) (l : List Int) (hl : l.length = 512)
    (hx : a.eval x = .pointer (some ⟨g, 0, none⟩)) (hg : w.heap[g]? = some (.cells (ab l) 51 (0, 0))) (h : wpList Tryd.prog ops Q rest (a.put dst (.agg (ab l))) w) :
    wpList Tryd.prog ops Q ({ dst := dst, op := .load 51 x, type := ty, pos := pos, after := after, guard := none } :: rest) a w :=
  wpList_load_row rfl 51 x rfl g hx 51 (ab l) (0, 0) _ hg Tryd.underlying51 rfl (size512 hl) h

theorem sth512 {ops : Array Oper} {rest : List Oper} {a : Act} {w : World} {Q : Exit → Act → World → Prop} {dst : Option Tmp} {x y : Operand} {ty : TypeId} {pos : String} {after : Array Edge} (g : Nat) (l l0 : List Int) (hl : l.length = 512) (hl0 : l0.length = 512)
    (hx : a.eval x = .pointer (some ⟨g, 0, none⟩)) (hy : a.eval y = .agg (ab l)) (hg : w.heap[g]? = some (.cells (ab l0) 51 (0, 0)))
    (h : ∀ w', Hid (w'.heap[g]? = some (.cells (ab l) 51 (0, 0))) → (∀ B, B ≤ g → Below B w w') → wpList Tryd.prog ops Q rest (a.put dst undef) w') :
    wpList Tryd.prog ops Q ({ dst := dst, op := .store 51 x y, type := ty, pos := pos, after := after, guard := none } :: rest) a w :=
  wpList_store_row rfl 51 x y rfl g (ab l) hx hy 51 (ab l0) hg (size512 hl) (by rw [ab_size, ab_size, hl, hl0]) (ab_one l) (h _ (setRow_heap w g _ _ _ _ hg) (fun B hB => ⟨rfl, rfl, rfl, by simp [World.setRow], fun k hk => setRow_other w g k _ (by omega)⟩))

theorem ret512 {fn : Func} {R : Ending → World → Prop} {a : Act} {w : World} {p : Tmp} (hres : fn.results = #[.cell p 51]) (g : Nat) (l : List Int) (hl : l.length = 512) (hp : a.tmps.getD p undef = .pointer (some ⟨g, 0, none⟩))
    (hg : w.heap[g]? = some (.cells (ab l) 51 (0, 0))) (hd : a.defers = []) (hR : R (.returned (.agg (ab l))) w) : bodyPost Tryd.prog fn R .ret a w :=
  bodyPost_ret (results_cell_row hres a.tmps w g 51 (ab l) (0, 0) _ hp hg Tryd.underlying51 rfl (size512 hl)) hd hR

theorem infoB24 : (Tryd.prog.info? 5).map (fun i => (i.zero, i.size, i.bytes)) = some (some (.int .u8 0), 1, 1) := by kernel_rfl

theorem ix512 {l : List Int} {k : Nat} (hl : l.length = 512) (h : k < 512) (w : World) : (Instr.index 51 (.agg (ab l)) (.int .i64 k)).run Tryd.prog w = .ok (.int .u8 (l.getD k 0)) w := by
  obtain ⟨i0, hi, hz0, hz1, hz2⟩ := info_parts infoB24
  simp [Instr.index, asIntOf, run_underlying Tryd.underlying51, sizeOf, typeInfo, hi, hz1, part, isAgg, run_underlying Tryd.underlying5]
  have := ab_get (l := l) (i := k) (by omega)
  first
    | done
    | (simp [this]; omega)
    | omega

theorem ab_cell {w : World} {g : Nat} {l : List Int} {t : TypeId} (h : w.heap[g]? = some (.cells (ab l) t (0, 0))) {i : Nat} (hi : i < l.length) : w.cell? ⟨g, i, none⟩ = some (.int .u8 (l.getD i 0)) := by
  unfold World.cell?
  rw [h]
  simpa using ab_get hi

theorem ab_setCell {w : World} {g : Nat} {l : List Int} {t : TypeId} (h : w.heap[g]? = some (.cells (ab l) t (0, 0))) (i : Nat) (x : Int) : (w.setCell ⟨g, i, none⟩ (.int .u8 x)).heap[g]? = some (.cells (ab (l.set i x)) t (0, 0)) := by
  rw [← ab_set]
  exact heap_setCell_same w g i _ _ _ h

theorem bcells_is (s : ByteArray) : Lib.byteCells s.data.toList = (sbs s).map (Value.int .u8) := by
  unfold Lib.byteCells sbs
  rw [List.map_map]; rfl

theorem wpList_copyS {w : World} {ops : Array Oper} {rest : List Oper} {o : Oper} {a : Act} {Q : Exit → Act → World → Prop} (hgd : o.guard = none) (d s : Operand)
    (ho : o.op = .call { callee := .builtin .copy, args := #[d, s], argTypes := #[22, 9] }) (g off n c : Nat) (L : List Int) (t : TypeId) (hg : w.heap[g]? = some (.cells (ab L) t (0, 0)))
    (hd : a.eval d = .slice (some ⟨g, off, none⟩) n c) (x : ByteArray) (hs : a.eval s = .string x) (hle : x.size ≤ n) (hfit : off + x.size ≤ L.length)
    (h : ∀ w', Hid (w'.heap[g]? = some (.cells (ab (wrt L off (sbs x))) t (0, 0))) → w.grownBy w' (some g) → Hid (w'.heap.size = w.heap.size) → wpList Tryd.prog ops Q rest (a.put o.dst (goInt x.size)) w') :
    wpList Tryd.prog ops Q (o :: rest) a w := by
  refine wpList_plain hgd fun K hK => ?_
  have hr := Lib.run_copy_row_string (P := Tryd.prog) w 22 9 o.type 5 g off n c x (ab L) t Tryd.underlying22 sizeByte hg hle (by rw [ab_size]; exact hfit)
  unfold Oper.wp
  simp [execOp, ho, resolve, invoke, builtin, hd, hs, hr, Result.andThen]
  refine hK _ _ (h _ ?_ ⟨rfl, rfl, rfl, by simp [World.setRow], fun k _ hk => setRow_other w g k _ (fun e => hk (by simp [e]))⟩ (show _ = _ by simp [World.setRow]))
  show _ = _
  rw [setRow_heap w g _ _ _ _ hg]
  congr 2
  unfold ab wrt
  rw [bcells_is, sbs_len]
  simp

theorem step_copyS {ops : Array Oper} {o : Oper} {a : Act} {w : World} {K : Act → World → Prop} {Q : Exit → Act → World → Prop} {E : Prop} (hgd : o.guard = none) (d s : Operand)
    (ho : o.op = .call { callee := .builtin .copy, args := #[d, s], argTypes := #[22, 9] }) (g off n c : Nat) (L : List Int) (t : TypeId) (hg : w.heap[g]? = some (.cells (ab L) t (0, 0)))
    (hd : a.eval d = .slice (some ⟨g, off, none⟩) n c) (x : ByteArray) (hs : a.eval s = .string x) (hle : x.size ≤ n) (hfit : off + x.size ≤ L.length)
    (h : ∀ w', Hid (w'.heap[g]? = some (.cells (ab (wrt L off (sbs x))) t (0, 0))) → w.grownBy w' (some g) → Hid (w'.heap.size = w.heap.size) → K (a.put o.dst (goInt x.size)) w') :
    if Region.wanted o (yielded ops a.tmps) = true then Oper.wp Tryd.prog o a w K Q else E := by
  have hw : Region.wanted o (yielded ops a.tmps) = true := by simp [Region.wanted, hgd]
  rw [if_pos hw]
  have hr := Lib.run_copy_row_string (P := Tryd.prog) w 22 9 o.type 5 g off n c x (ab L) t Tryd.underlying22 sizeByte hg hle (by rw [ab_size]; exact hfit)
  unfold Oper.wp
  simp [execOp, ho, resolve, invoke, builtin, hd, hs, hr, Result.andThen]
  refine h _ ?_ ⟨rfl, rfl, rfl, by simp [World.setRow], fun k _ hk => setRow_other w g k _ (fun e => hk (by simp [e]))⟩ (show _ = _ by simp [World.setRow])
  show _ = _
  rw [setRow_heap w g _ _ _ _ hg]
  congr 2
  unfold ab wrt
  rw [bcells_is, sbs_len]
  simp
theorem step_ld512 {ops : Array Oper} {o : Oper} {a : Act} {w : World} {K : Act → World → Prop} {Q : Exit → Act → World → Prop} {E : Prop} (hgd : o.guard = none) (x : Operand) (ho : o.op = .load 51 x) (g : Nat) (l : List Int) (hl : l.length = 512)
    (hg : w.heap[g]? = some (.cells (ab l) 51 (0, 0))) (hx : a.eval x = .pointer (some ⟨g, 0, none⟩)) (h : K (a.put o.dst (.agg (ab l))) w) :
    if Region.wanted o (yielded ops a.tmps) = true then Oper.wp Tryd.prog o a w K Q else E := by
  have hw : Region.wanted o (yielded ops a.tmps) = true := by simp [Region.wanted, hgd]
  rw [if_pos hw]
  exact wp_load_row 51 x ho g hx 51 (ab l) (0, 0) _ hg Tryd.underlying51 rfl (size512 hl) h
end Go.Proofs.YtaeifigbnlffbaaDoor

