import Derived.Test.YtjdgeonlbjokaaaGBp
import Derived.Test.YtjdgeonlbjokaaaGIt
namespace Go.Proofs.Ytjdgeonlbjokaaa
open Go.RowKit Go.Maps Go.Shelf
set_option maxRecDepth 20000
set_option linter.unusedVariables false

/-- The memory of 'longest' while it goes through the places: all as at the loop's start, but for the best so far. -/
structure Lst (wb : World) (d gB : Nat) (s : Nat × Nat) (o : Obj) (W : World) : Prop where
  dfr : W.heap[d]? = some (.deferred (some []))
  lp : W.heap[d + 1]? = some o
  os : W.os = wb.os
  tape : W.tape = wb.tape
  output : W.output = wb.output
  size : d + 2 ≤ W.heap.size
  blk : ∀ k, k < d → k ≠ gB → W.heap[k]? = wb.heap[k]?
  best : W.heap[gB]? = some (.cells #[.int .i64 (s.1 : Int), .int .i64 (s.2 : Int), .int .u8 0] 38 (0, 0))

theorem Lst.put {wb : World} {d gB : Nat} {s : Nat × Nat} {o o' : Obj} {W : World} (h : Lst wb d gB s o W) (h1 : gB < d) : Lst wb d gB s o' (W.putObj (d + 1) o') := by
  have hp : ∀ k, k ≠ d + 1 → (W.putObj (d + 1) o').heap[k]? = W.heap[k]? := fun k hk => by
    show (W.heap.setIfInBounds (d + 1) o')[k]? = _
    rw [Array.getElem?_setIfInBounds_ne (fun e => hk e.symm)]
  have hs : (W.putObj (d + 1) o').heap.size = W.heap.size := by show (W.heap.setIfInBounds (d + 1) o').size = _; simp
  refine ⟨by rw [hp _ (by omega)]; exact h.dfr, ?_, h.os, h.tape, h.output, by rw [hs]; exact h.size, fun k a b => by rw [hp _ (by omega)]; exact h.blk k a b, by rw [hp _ (by omega)]; exact h.best⟩
  show (W.heap.setIfInBounds (d + 1) o')[d + 1]? = some o'
  have := h.size
  rw [Array.getElem?_setIfInBounds_self_of_lt (by omega)]

theorem Lst.drewN {wb : World} {d gB : Nat} {s : Nat × Nat} {o : Obj} {W : World} (h : Lst wb d gB s o W) (n : Nat) : Lst wb d gB s o (W.drewN n) := ⟨h.dfr, h.lp, h.os, h.tape, h.output, h.size, h.blk, h.best⟩
theorem Lst.drew {wb : World} {d gB : Nat} {s : Nat × Nat} {o : Obj} {W : World} (h : Lst wb d gB s o W) : Lst wb d gB s o W.drew := ⟨h.dfr, h.lp, h.os, h.tape, h.output, h.size, h.blk, h.best⟩

theorem Lst.cell {wb : World} {d gB : Nat} {s : Nat × Nat} {o : Obj} {W : World} (h : Lst wb d gB s o W) {a : Addr} (h1 : a.block < d) (h2 : a.block ≠ gB) : W.cell? a = wb.cell? a := by
  unfold World.cell?
  rw [h.blk _ h1 h2]

theorem Lst.store {wb : World} {d gB : Nat} {s s' : Nat × Nat} {o : Obj} {W W' : World} (h : Lst wb d gB s o W) (h1 : gB < d) (ho : ∀ k, k ≠ gB → W'.heap[k]? = W.heap[k]?) (hs : W'.heap.size = W.heap.size) (e1 : W'.os = W.os) (e2 : W'.tape = W.tape) (e3 : W'.output = W.output)
    (hb : W'.heap[gB]? = some (.cells #[.int .i64 (s'.1 : Int), .int .i64 (s'.2 : Int), .int .u8 0] 38 (0, 0))) : Lst wb d gB s' o W' :=
  ⟨by rw [ho _ (by omega)]; exact h.dfr, by rw [ho _ (by omega)]; exact h.lp, e1.trans h.os, e2.trans h.tape, e3.trans h.output, by rw [hs]; exact h.size, fun k a b => by rw [ho _ b]; exact h.blk k a b, hb⟩

theorem Lst.set3 {wb : World} {d gB : Nat} {s : Nat × Nat} {o : Obj} {W : World} (h : Lst wb d gB s o W) (h1 : gB < d) (r x : Nat) : Lst wb d gB (r, x) o (((W.setCell ⟨gB, 0, none⟩ (.int .i64 (r : Int))).setCell ⟨gB, 1, none⟩ (.int .i64 (x : Int))).setCell ⟨gB, 2, none⟩ (.int .u8 0)) := by
  refine h.store h1 (fun k hk => ?_) (by rw [size_setCell, size_setCell, size_setCell]) rfl rfl rfl ?_
  · rw [setCell_others _ _ _ _ k hk, setCell_others _ _ _ _ k hk, setCell_others _ _ _ _ k hk]
  · rw [heap_setCell_at _ (heap_setCell_at _ (heap_setCell_at _ h.best))]
    rfl

theorem lst_end {wb w : World} {d gB gR n0 : Nat} {s : Nat × Nat} {o : Obj} {W : World} {cur : Array Value} (hL : Lst wb d gB s o W) (hR : W.heap[gR]? = some (.cells cur 38 (0, 0))) (hc : cur.size = 3) (x y z : Value) (h1 : gR < d) (h2 : gR ≠ gB) (h3 : n0 ≤ gB) (h4 : n0 ≤ gR) (h5 : n0 ≤ d) (hw : w.heap.size = n0) (hb : Below n0 w wb) :
    (((W.setCell ⟨gR, 0, none⟩ x).setCell ⟨gR, 1, none⟩ y).setCell ⟨gR, 2, none⟩ z).heap[d]? = some (.deferred (some [])) ∧
    ((((W.setCell ⟨gR, 0, none⟩ x).setCell ⟨gR, 1, none⟩ y).setCell ⟨gR, 2, none⟩ z).putObj d (.deferred none)).heap[gR]? = some (.cells #[x, y, z] 38 (0, 0)) ∧
    Below w.heap.size w ((((W.setCell ⟨gR, 0, none⟩ x).setCell ⟨gR, 1, none⟩ y).setCell ⟨gR, 2, none⟩ z).putObj d (.deferred none)) := by
  have hs : ∀ k, k ≠ gR → (((W.setCell ⟨gR, 0, none⟩ x).setCell ⟨gR, 1, none⟩ y).setCell ⟨gR, 2, none⟩ z).heap[k]? = W.heap[k]? := fun k hk => by
    rw [setCell_others _ _ _ _ k hk, setCell_others _ _ _ _ k hk, setCell_others _ _ _ _ k hk]
  have hr : (((W.setCell ⟨gR, 0, none⟩ x).setCell ⟨gR, 1, none⟩ y).setCell ⟨gR, 2, none⟩ z).heap[gR]? = some (.cells #[x, y, z] 38 (0, 0)) := by
    rw [heap_setCell_at _ (heap_setCell_at _ (heap_setCell_at _ hR))]
    congr 2
    apply Array.ext'
    obtain ⟨l⟩ := cur
    match l, hc with
    | [a, b, c], _ => rfl
  have hz : (((W.setCell ⟨gR, 0, none⟩ x).setCell ⟨gR, 1, none⟩ y).setCell ⟨gR, 2, none⟩ z).heap.size = W.heap.size := by rw [size_setCell, size_setCell, size_setCell]
  obtain ⟨V, hV⟩ : ∃ V, ((W.setCell ⟨gR, 0, none⟩ x).setCell ⟨gR, 1, none⟩ y).setCell ⟨gR, 2, none⟩ z = V := ⟨_, rfl⟩
  have e1 : V.os = W.os := by rw [← hV]; rfl
  have e2 : V.tape = W.tape := by rw [← hV]; rfl
  have e3 : V.output = W.output := by rw [← hV]; rfl
  rw [hV] at hs hr hz ⊢
  have hp : ∀ k, k ≠ d → (V.putObj d (.deferred none)).heap[k]? = V.heap[k]? := fun k hk => by
    show (V.heap.setIfInBounds d (.deferred none))[k]? = _
    rw [Array.getElem?_setIfInBounds_ne (fun e => hk e.symm)]
  refine ⟨by rw [hs d (by omega)]; exact hL.dfr, by rw [hp _ (by omega)]; exact hr, ?_⟩
  rw [hw]
  refine ⟨e1.trans (hL.os.trans hb.os), e2.trans (hL.tape.trans hb.tape), e3.trans (hL.output.trans hb.output), ?_, fun j hj => ?_⟩
  · show w.heap.size ≤ (V.heap.setIfInBounds d (.deferred none)).size
    have := hL.size
    simp
    omega
  · rw [hp j (by omega), hs j (by omega), hL.blk j (by omega) (by omega), hb.block j hj]

/-- m places are left: the others, from behind, have been looked at. -/
def LgI (D : List Int) (i : Nat) (l : List Nat) (b : Nat) (wb : World) (d gB : Nat) (m : Nat) (o : Obj) (W : World) : Prop :=
  m ≤ l.length ∧ Lst wb d gB (pick D i (l.reverse.take (l.length - m)) (b, 0)) o W

def LgY (D : List Int) (i : Nat) (l : List Nat) (b : Nat) (wb : World) (d gB : Nat) (m : Nat) (x : Nat × Int) (o : Obj) (W : World) : Prop :=
  m = x.1 + 1 ∧ x.2 = ((l.getD x.1 0 : Nat) : Int) ∧ LgI D i l b wb d gB m o W

/-- Left early: the best is what all would tell. -/
def LgX (D : List Int) (i : Nat) (l : List Nat) (b : Nat) (wb : World) (d gB : Nat) (c : Code) (o : Obj) (W : World) : Prop :=
  c = .exit 0 ∧ Lst wb d gB (pick D i l.reverse (b, 0)) o W

theorem lgI_rec {D : List Int} {i : Nat} {l : List Nat} {b : Nat} {wb : World} {d gB : Nat} (m : Nat) (h1 : gB < d) : H4.Rec (d + 1) (LgI D i l b wb d gB m) :=
  ⟨fun o W ⟨_, h⟩ => h.lp, fun o o' W ⟨a, h⟩ => ⟨a, h.put h1⟩⟩
theorem lgY_rec {D : List Int} {i : Nat} {l : List Nat} {b : Nat} {wb : World} {d gB : Nat} (m : Nat) (x : Nat × Int) (h1 : gB < d) : H4.Rec (d + 1) (LgY D i l b wb d gB m x) :=
  ⟨fun o W ⟨_, _, _, h⟩ => h.lp, fun o o' W ⟨a, b, c, h⟩ => ⟨a, b, c, h.put h1⟩⟩
theorem lgX_rec {D : List Int} {i : Nat} {l : List Nat} {b : Nat} {wb : World} {d gB : Nat} (c : Code) (h1 : gB < d) : H4.Rec (d + 1) (LgX D i l b wb d gB c) :=
  ⟨fun o W ⟨_, h⟩ => h.lp, fun o o' W ⟨a, h⟩ => ⟨a, h.put h1⟩⟩

theorem rvt {l : List Nat} {k : Nat} (h : k < l.length) : l.reverse.take (l.length - k) = l.reverse.take (l.length - (k + 1)) ++ [l.getD k 0] := by
  have e : l.length - k = (l.length - (k + 1)) + 1 := by omega
  rw [e, List.take_succ_eq_append_getElem (by simp; omega)]
  congr 1
  simp only [List.getElem_reverse]
  have e2 : l.length - 1 - (l.length - (k + 1)) = k := by omega
  simp [e2, h]

theorem pick_more {D : List Int} {i : Nat} {l : List Nat} {b k : Nat} (h : k < l.length) : pick D i (l.reverse.take (l.length - k)) (b, 0) = stp D i (pick D i (l.reverse.take (l.length - (k + 1))) (b, 0)) (l.getD k 0) := by
  rw [rvt h, pick_snoc]

/-- Nothing can be longer. -/
theorem pick_full {D : List Int} {i : Nat} {l : List Nat} {b m : Nat} (hi : i < D.length) (h : min 258 (D.length - i) ≤ (pick D i (l.reverse.take (l.length - m)) (b, 0)).1) : pick D i (l.reverse.take (l.length - m)) (b, 0) = pick D i l.reverse (b, 0) := by
  have e : pick D i l.reverse (b, 0) = pick D i (l.reverse.drop (l.length - m)) (pick D i (l.reverse.take (l.length - m)) (b, 0)) := by
    conv => lhs; rw [← List.take_append_drop (l.length - m) l.reverse]
    simp only [pick, List.foldl_append]
  refine (e.trans (pick_stay _ _ ?_)).symm
  intro j _
  have h1 := rno_le D j i
  have h2 := rno_len (j := j) hi
  omega
end Go.Proofs.Ytjdgeonlbjokaaa

