import Derived.Test.YtogplagiheoaiaaG05Chw
import Derived.Test.YtogplagiheoaiaaG07App
import Derived.Test.YtogplagiheoaiaaG08Wan
namespace Go.Proofs.Ytogplagiheoaiaa
open Go.RowKit Go.Maps Go.Shelf
set_option maxRecDepth 20000
set_option linter.unusedVariables false

theorem pObj_ne (W : World) {l b : Nat} (o : Obj) (h : b ≠ l) : (W.putObj l o).heap[b]? = W.heap[b]? := by
  show (W.heap.setIfInBounds l o)[b]? = _
  rw [Array.getElem?_setIfInBounds_ne (fun e => h e.symm)]

theorem pObj_size (W : World) (l : Nat) (o : Obj) : (W.putObj l o).heap.size = W.heap.size := by show (W.heap.setIfInBounds l o).size = _; simp

theorem cellIn1 {w : World} {g k : Nat} {cur : Array Value} {t : TypeId} {fz : Nat × Nat} {u : Value} (h : w.heap[g]? = some (.cells cur t fz)) (hk : cur[k]? = some u) : w.cell? ⟨g, k, none⟩ = some u := by
  unfold World.cell?; rw [h]; exact hk

theorem lt_of_block {w : World} {k : Nat} {o : Obj} (h : w.heap[k]? = some o) : k < w.heap.size := (Array.getElem?_eq_some_iff.1 h).1

structure AdJ (wb : World) (d gA gB : Nat) (x y : Int) (o : Obj) (W : World) : Prop where
  dfr : W.heap[d]? = some (.deferred (some []))
  lp : W.heap[d + 1]? = some o
  os : W.os = wb.os
  tape : W.tape = wb.tape
  output : W.output = wb.output
  size : W.heap.size = d + 2
  blk : ∀ b, b < d → b ≠ gA → b ≠ gB → W.heap[b]? = wb.heap[b]?
  ca : W.heap[gA]? = some (.cells #[.int .u32 x] 24 (0, 0))
  cb : W.heap[gB]? = some (.cells #[.int .u32 y] 24 (0, 0))

variable {wb : World} {d gA gB : Nat} {x y : Int} {o : Obj} {W : World}

theorem AdJ.put (h : AdJ wb d gA gB x y o W) (h1 : gA < d) (h2 : gB < d) (o' : Obj) : AdJ wb d gA gB x y o' (W.putObj (d + 1) o') where
  dfr := (pObj_ne _ _ (by omega)).trans h.dfr
  lp := by
    have := h.size
    show (W.heap.setIfInBounds (d + 1) o')[d + 1]? = some o'
    rw [Array.getElem?_setIfInBounds_self_of_lt (by omega)]
  os := h.os
  tape := h.tape
  output := h.output
  size := by rw [pObj_size]; exact h.size
  blk := fun b h1 h2 h3 => (pObj_ne _ _ (by omega)).trans (h.blk b h1 h2 h3)
  ca := (pObj_ne _ _ (by omega)).trans h.ca
  cb := (pObj_ne _ _ (by omega)).trans h.cb

theorem AdJ.drewN (h : AdJ wb d gA gB x y o W) (n : Nat) : AdJ wb d gA gB x y o (W.drewN n) := ⟨h.dfr, h.lp, h.os, h.tape, h.output, h.size, h.blk, h.ca, h.cb⟩
theorem AdJ.setA (h : AdJ wb d gA gB x y o W) (h1 : gA < d) (h2 : gB < d) (hn : gA ≠ gB) (x' : Int) : AdJ wb d gA gB x' y o (W.setCell ⟨gA, 0, none⟩ (.int .u32 x')) := by
  have hot : ∀ b, b ≠ gA → (W.setCell ⟨gA, 0, none⟩ (.int .u32 x')).heap[b]? = W.heap[b]? := fun b hb => setCell_others _ _ _ _ b hb
  refine ⟨(hot _ (by omega)).trans h.dfr, (hot _ (by omega)).trans h.lp, h.os, h.tape, h.output, by rw [size_setCell]; exact h.size, fun b p q r => (hot _ q).trans (h.blk b p q r), ?_, (hot _ (by omega)).trans h.cb⟩
  rw [heap_setCell_at _ h.ca]; rfl

theorem AdJ.setB (h : AdJ wb d gA gB x y o W) (h1 : gA < d) (h2 : gB < d) (hn : gA ≠ gB) (y' : Int) : AdJ wb d gA gB x y' o (W.setCell ⟨gB, 0, none⟩ (.int .u32 y')) := by
  have hot : ∀ b, b ≠ gB → (W.setCell ⟨gB, 0, none⟩ (.int .u32 y')).heap[b]? = W.heap[b]? := fun b hb => setCell_others _ _ _ _ b hb
  refine ⟨(hot _ (by omega)).trans h.dfr, (hot _ (by omega)).trans h.lp, h.os, h.tape, h.output, by rw [size_setCell]; exact h.size, fun b p q r => (hot _ r).trans (h.blk b p q r), (hot _ (by omega)).trans h.ca, ?_⟩
  rw [heap_setCell_at _ h.cb]; rfl

theorem adJ_rec (h1 : gA < d) (h2 : gB < d) (f g : Nat → Int) (p : Nat → Prop) (k : Nat) : H4.Rec (d + 1) (fun o W => p k ∧ AdJ wb d gA gB (f k) (g k) o W) :=
  ⟨fun o W h => h.2.lp, fun o o' W h => ⟨h.1, h.2.put h1 h2 o'⟩⟩

theorem adJ_start {wb : World} {gA gB : Nat} {x y : Int} (hA : wb.heap[gA]? = some (.cells #[.int .u32 x] 24 (0, 0))) (hB : wb.heap[gB]? = some (.cells #[.int .u32 y] 24 (0, 0))) (o : Obj) : AdJ wb wb.heap.size gA gB x y o ((wb.alloc (.deferred (some []))).alloc o) := by
  have h1 := lt_of_block hA
  have h2 := lt_of_block hB
  have hlt : ∀ k, k < wb.heap.size → ((wb.alloc (.deferred (some []))).alloc o).heap[k]? = wb.heap[k]? := fun k hk => by rw [Below.heap_alloc _ _ _ (by simp; omega), Below.heap_alloc _ _ _ hk]
  exact ⟨(heap_two wb _ o).2, (heap_two wb _ o).1, rfl, rfl, rfl, by simp, fun k hk _ _ => hlt k hk, (hlt _ h1).trans hA, (hlt _ h2).trans hB⟩
end Go.Proofs.Ytogplagiheoaiaa

