import Derived.Test.YtjdgeonlbjokaaaGLgw
namespace Go.Proofs.Ytjdgeonlbjokaaa
open Go.RowKit Go.Maps Go.Shelf
set_option maxRecDepth 20000
set_option linter.unusedVariables false

theorem longest_any (v pv : Value) (D : List Int) (i b : Nat) (l : List Nat) (w : World) (h : SB w v D) (hp : SI w pv (ins l)) (hB : Byt D) (hi : i < D.length) (hn : D.length ≤ 1000000000) (hl : l.length ≤ 1000000000) (hlt : ∀ j ∈ l, j < i) (hb : b ≤ 1000) :
    Calls Try.prog 29 #[v, .int .i64 i, pv, .int .i64 b] w fun e w' => e = .returned (.agg #[.int .i64 ((lng D i l.reverse b).1 : Nat), .int .i64 ((lng D i l.reverse b).2 : Nat), .int .u8 0]) ∧ Below w.heap.size w w' := by
  by_cases h2 : D.length - i < 258
  · exact longest_small v pv D i b (D.length - i) l w h hp hB hi hn hl hlt hb (by omega) h2
  · exact longest_big v pv D i b (D.length - i) l w h hp hB hi hn hl hlt hb (by omega) (by omega)

theorem ins_drop (l : List Nat) (n : Nat) : (ins l).drop n = ins (l.drop n) := by simp [ins, List.map_drop]

/-- A token of zeros in a block of its own. -/
def Box3 (W : World) (g : Nat) : Prop := W.heap[g]? = some (.cells #[.int .i64 0, .int .i64 0, .int .u8 0] 38 (0, 0))
theorem Box3.new (w : World) : Box3 (w.alloc (.cells #[.int .i64 0, .int .i64 0, .int .u8 0] 38)) w.heap.size := heap_alloc_new w _
theorem Box3.far {w w' : World} {g : Nat} (h : Box3 w g) (hb : Below w.heap.size w w') : Box3 w' g := (hb.block g (Array.getElem?_eq_some_iff.1 h).1).trans h
theorem Box3.cells {w : World} {g : Nat} (h : Box3 w g) : w.cell? ⟨g, 0, none⟩ = some (.int .i64 0) ∧ w.cell? ⟨g, 1, none⟩ = some (.int .i64 0) ∧ w.cell? ⟨g, 2, none⟩ = some (.int .u8 0) ∧ w.frozen? ⟨g, 0, none⟩ = false ∧ w.frozen? ⟨g, 1, none⟩ = false ∧ w.frozen? ⟨g, 2, none⟩ = false :=
  ⟨cellOf h rfl, cellOf h rfl, cellOf h rfl, frozenOf h, frozenOf h, frozenOf h⟩
theorem Box3.put {w W : World} {g B : Nat} (h : Box3 W g) (hb : Below B w W) (hg : B ≤ g) (x y : Int) : (((W.setCell ⟨g, 0, none⟩ (.int .i64 x)).setCell ⟨g, 1, none⟩ (.int .i64 y)).setCell ⟨g, 2, none⟩ (.int .u8 0)).cell? ⟨g, 0, none⟩ = some (.int .i64 x) ∧ (((W.setCell ⟨g, 0, none⟩ (.int .i64 x)).setCell ⟨g, 1, none⟩ (.int .i64 y)).setCell ⟨g, 2, none⟩ (.int .u8 0)).cell? ⟨g, 1, none⟩ = some (.int .i64 y) ∧
    Below B w (((W.setCell ⟨g, 0, none⟩ (.int .i64 x)).setCell ⟨g, 1, none⟩ (.int .i64 y)).setCell ⟨g, 2, none⟩ (.int .u8 0)) := by
  have hr : (((W.setCell ⟨g, 0, none⟩ (.int .i64 x)).setCell ⟨g, 1, none⟩ (.int .i64 y)).setCell ⟨g, 2, none⟩ (.int .u8 0)).heap[g]? = some (.cells #[.int .i64 x, .int .i64 y, .int .u8 0] 38 (0, 0)) := by
    rw [heap_setCell_at _ (heap_setCell_at _ (heap_setCell_at _ h))]
    rfl
  refine ⟨cellOf hr rfl, cellOf hr rfl, hb.os, hb.tape, hb.output, by rw [size_setCell, size_setCell, size_setCell]; exact hb.size, fun j hj => ?_⟩
  rw [setCell_others _ _ _ _ j (by omega), setCell_others _ _ _ _ j (by omega), setCell_others _ _ _ _ j (by omega)]
  exact hb.block j hj
theorem new_put {w W : World} {B : Nat} (hb : Below B w W) (hB : B ≤ W.heap.size) (x y : Int) : (W.alloc (.cells #[.int .i64 x, .int .i64 y, .int .u8 0] 38)).cell? ⟨W.heap.size, 0, none⟩ = some (.int .i64 x) ∧ (W.alloc (.cells #[.int .i64 x, .int .i64 y, .int .u8 0] 38)).cell? ⟨W.heap.size, 1, none⟩ = some (.int .i64 y) ∧ Below B w (W.alloc (.cells #[.int .i64 x, .int .i64 y, .int .u8 0] 38)) :=
  ⟨cellOf (heap_alloc_new W _) rfl, cellOf (heap_alloc_new W _) rfl, hb.alloc hB _⟩
end Go.Proofs.Ytjdgeonlbjokaaa

