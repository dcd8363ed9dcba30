import Derived.Test.YtkmefeihkmbngaaDoorG22Spn2
import Derived.Test.YtkmefeihkmbngaaDoorG02Arr
import Derived.Laws.Rows
import Derived.Laws.Tables
import Derived.BigQuiet
namespace Go.Proofs.YtkmefeihkmbngaaDoor
open Go.RowKit Go.Maps
set_option maxRecDepth 20000
set_option linter.unusedVariables false

def ar (l : List Int) : Array Value := (l.map (Value.int .i64)).toArray

theorem ar_size (l : List Int) : (ar l).size = l.length := by simp [ar]

theorem ar_get {l : List Int} {i : Nat} (h : i < l.length) : (ar l)[i]? = some (.int .i64 (l.getD i 0)) := by
  simp [ar, h]

theorem ar_set (l : List Int) (i : Nat) (x : Int) : (ar l).setIfInBounds i (.int .i64 x) = ar (l.set i x) := by
  simp [ar]

theorem ar_one (l : List Int) : (ar l).all (·.oneCell') = true := by
  rw [Array.all_eq_true]
  intro i hi
  simp [ar, Value.oneCell']

def z286 : List Int := List.replicate 286 0

theorem z286_len : z286.length = 286 := by simp [z286]

theorem info286 : (Tryd.prog.info? 58).map (fun i => (i.zero, i.size)) = some (some (.agg (ar z286)), 286) := by kernel_rfl

theorem run_al286 (w : World) : (Instr.alloc 58 true (.tuple #[])).run Tryd.prog w = .ok (.pointer (some ⟨w.heap.size, 0, none⟩)) (w.alloc (.cells (ar z286) 58)) := by
  have h := info286
  obtain ⟨A, hA⟩ : ∃ A, ar z286 = A := ⟨_, rfl⟩
  rw [hA] at h ⊢
  cases hi : Tryd.prog.info? 58 with
  | none => rw [hi] at h; cases h
  | some i =>
    rw [hi] at h
    simp only [Option.map_some, Option.some.injEq, Prod.mk.injEq] at h
    obtain ⟨h1, h2⟩ := h
    clear hA
    simp [Instr.alloc, zeroValue, typeInfo, hi, h1, newVar, newRow, Value.cells]

theorem wpList_al286 {w : World} {ops : Array Oper} {rest : List Oper} {o : Oper} {a : Act} {Q : Exit → Act → World → Prop} (hgd : o.guard = none) (ho : o.op = .alloc 58)
    (h : ∀ w', w'.heap[w.heap.size]? = some (.cells (ar z286) 58 (0, 0)) → Below w.heap.size w w' → Hid (w'.heap.size = w.heap.size + 1) → wpList Tryd.prog ops Q rest (a.put o.dst (.pointer (some ⟨w.heap.size, 0, none⟩))) w') :
    wpList Tryd.prog ops Q (o :: rest) a w := by
  refine wpList_plain hgd fun K hK => ?_
  have hr := run_al286 w
  unfold Oper.wp
  simp [execOp, ho, hr, Result.andThen]
  exact hK _ _ (h _ (heap_alloc_new _ _) ((Below.refl _ _).alloc (Nat.le_refl _) _) (show _ = _ by simp))

theorem size286 {l : List Int} (h : l.length = 286) : (Tryd.prog.info? 58).map (·.size) = some (ar l).size := by
  rw [ar_size, h]; kernel_rfl

theorem ld286 {ops : Array Oper} {rest : List Oper} {a : Act} {w : World} {Q : Exit → Act → World → Prop} {dst : Option Tmp} {x : Operand} {ty : TypeId} {pos : String} {after : Array Edge} (g : Nat) (l : List Int) (hl : l.length = 286)
    (hx : a.eval x = .pointer (some ⟨g, 0, none⟩)) (hg : w.heap[g]? = some (.cells (ar l) 58 (0, 0))) (h : wpList Tryd.prog ops Q rest (a.put dst (.agg (ar l))) w) :
    wpList Tryd.prog ops Q ({ dst := dst, op := .load 58 x, type := ty, pos := pos, after := after, guard := none } :: rest) a w :=
  wpList_load_row rfl 58 x rfl g hx 58 (ar l) (0, 0) _ hg Tryd.underlying58 rfl (size286 hl) h

theorem st286 {ops : Array Oper} {rest : List Oper} {a : Act} {w : World} {Q : Exit → Act → World → Prop} {dst : Option Tmp} {x y : Operand} {ty : TypeId} {pos : String} {after : Array Edge} (g : Nat) (l l0 : List Int) (hl : l.length = 286) (hl0 : l0.length = 286)
    (hx : a.eval x = .pointer (some ⟨g, 0, none⟩)) (hy : a.eval y = .agg (ar l)) (hg : w.heap[g]? = some (.cells (ar l0) 58 (0, 0))) (h : wpList Tryd.prog ops Q rest (a.put dst undef) (w.setRow g (ar l))) :
    wpList Tryd.prog ops Q ({ dst := dst, op := .store 58 x y, type := ty, pos := pos, after := after, guard := none } :: rest) a w :=
  wpList_store_row rfl 58 x y rfl g (ar l) hx hy 58 (ar l0) hg (size286 hl) (by rw [ar_size, ar_size, hl, hl0]) (ar_one l) h

theorem sth286 {ops : Array Oper} {rest : List Oper} {a : Act} {w : World} {Q : Exit → Act → World → Prop} {dst : Option Tmp} {x y : Operand} {ty : TypeId} {pos : String} {after : Array Edge} (g : Nat) (l l0 : List Int) (hl : l.length = 286) (hl0 : l0.length = 286)
    (hx : a.eval x = .pointer (some ⟨g, 0, none⟩)) (hy : a.eval y = .agg (ar l)) (hg : w.heap[g]? = some (.cells (ar l0) 58 (0, 0)))
    (h : ∀ w', Hid (w'.heap[g]? = some (.cells (ar l) 58 (0, 0))) → (∀ B, B ≤ g → Below B w w') → wpList Tryd.prog ops Q rest (a.put dst undef) w') :
    wpList Tryd.prog ops Q ({ dst := dst, op := .store 58 x y, type := ty, pos := pos, after := after, guard := none } :: rest) a w :=
  st286 g l l0 hl hl0 hx hy hg (h _ (setRow_heap w g _ _ _ _ hg) (fun B hB => ⟨rfl, rfl, rfl, by simp [World.setRow], fun k hk => setRow_other w g k _ (by omega)⟩))

theorem ret286 {fn : Func} {R : Ending → World → Prop} {a : Act} {w : World} {p : Tmp} (hres : fn.results = #[.cell p 58]) (g : Nat) (l : List Int) (hl : l.length = 286) (hp : a.tmps.getD p undef = .pointer (some ⟨g, 0, none⟩))
    (hg : w.heap[g]? = some (.cells (ar l) 58 (0, 0))) (hd : a.defers = []) (hR : R (.returned (.agg (ar l))) w) : bodyPost Tryd.prog fn R .ret a w :=
  bodyPost_ret (results_cell_row hres a.tmps w g 58 (ar l) (0, 0) _ hp hg Tryd.underlying58 rfl (size286 hl)) hd hR

theorem ix286 {l : List Int} {k : Nat} (hl : l.length = 286) (h : k < 286) (w : World) : (Instr.index 58 (.agg (ar l)) (.int .i64 k)).run Tryd.prog w = .ok (.int .i64 (l.getD k 0)) w := by
  obtain ⟨i0, hi, hz0, hz1, hz2⟩ := info_parts infoInt
  simp [Instr.index, asIntOf, run_underlying Tryd.underlying58, sizeOf, typeInfo, hi, hz1, part, isAgg, run_underlying Tryd.underlying3]
  have := ar_get (l := l) (i := k) (by omega)
  first
    | done
    | (simp [this]; omega)
    | omega
end Go.Proofs.YtkmefeihkmbngaaDoor

