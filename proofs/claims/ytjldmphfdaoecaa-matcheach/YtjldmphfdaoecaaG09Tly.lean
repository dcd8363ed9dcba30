import Derived.Test.YtjldmphfdaoecaaG08Lgw
import Derived.Test.YtjldmphfdaoecaaG07Rg6
import Derived.Deep.RegionHeld3
namespace Go.Proofs.Ytjldmphfdaoecaa
open Go.RowKit Go.Maps Go.Shelf
set_option maxRecDepth 20000
set_option linter.unusedVariables false

theorem longest_any (v pv : Value) (D : List Int) (i b : Nat) (l : List Nat) (w : World) (h : SB w v D) (hp : SI w pv (ins l)) (hB : Byt D) (hi : i < D.length) (hn : D.length ≤ 1000000000) (hl : l.length ≤ 1000000000) (hlt : ∀ j ∈ l, j < i) (hb : b ≤ 1000) :
    Calls Try.prog 26 #[v, .int .i64 i, pv, .int .i64 b] w fun e w' => e = .returned (.agg #[.int .i64 ((lng D i l.reverse b).1 : Nat), .int .i64 ((lng D i l.reverse b).2 : Nat), .int .u8 0]) ∧ Below w.heap.size w w' := by
  by_cases h2 : D.length - i < 258
  · exact longest_small v pv D i b (D.length - i) l w h hp hB hi hn hl hlt hb (by omega) h2
  · exact longest_big v pv D i b (D.length - i) l w h hp hB hi hn hl hlt hb (by omega) (by omega)

theorem ins_drop (l : List Nat) (n : Nat) : (ins l).drop n = ins (l.drop n) := by simp [ins, List.map_drop]

def Box3 (W : World) (g : Nat) : Prop := W.heap[g]? = some (.cells #[.int .i64 0, .int .i64 0, .int .u8 0] 38 (0, 0))
theorem Box3.new (w : World) : Box3 (w.alloc (.cells #[.int .i64 0, .int .i64 0, .int .u8 0] 38)) w.heap.size := heap_alloc_new w _
theorem Box3.far {w w' : World} {g : Nat} (h : Box3 w g) (hb : Below w.heap.size w w') : Box3 w' g := (hb.block g (Array.getElem?_eq_some_iff.1 h).1).trans h
theorem Box3.cells {w : World} {g : Nat} (h : Box3 w g) : w.cell? ⟨g, 0, none⟩ = some (.int .i64 0) ∧ w.cell? ⟨g, 1, none⟩ = some (.int .i64 0) ∧ w.cell? ⟨g, 2, none⟩ = some (.int .u8 0) ∧ w.frozen? ⟨g, 0, none⟩ = false ∧ w.frozen? ⟨g, 1, none⟩ = false ∧ w.frozen? ⟨g, 2, none⟩ = false :=
  ⟨cellOf h rfl, cellOf h rfl, cellOf h rfl, frozenOf h, frozenOf h, frozenOf h⟩
theorem Box3.put {w W : World} {g B : Nat} (h : Box3 W g) (hb : Below B w W) (hg : B ≤ g) (x y : Int) : (((W.setCell ⟨g, 0, none⟩ (.int .i64 x)).setCell ⟨g, 1, none⟩ (.int .i64 y)).setCell ⟨g, 2, none⟩ (.int .u8 0)).cell? ⟨g, 0, none⟩ = some (.int .i64 x) ∧ (((W.setCell ⟨g, 0, none⟩ (.int .i64 x)).setCell ⟨g, 1, none⟩ (.int .i64 y)).setCell ⟨g, 2, none⟩ (.int .u8 0)).cell? ⟨g, 1, none⟩ = some (.int .i64 y) ∧
    Below B w (((W.setCell ⟨g, 0, none⟩ (.int .i64 x)).setCell ⟨g, 1, none⟩ (.int .i64 y)).setCell ⟨g, 2, none⟩ (.int .u8 0)) := by
  have hr : (((W.setCell ⟨g, 0, none⟩ (.int .i64 x)).setCell ⟨g, 1, none⟩ (.int .i64 y)).setCell ⟨g, 2, none⟩ (.int .u8 0)).heap[g]? = some (.cells #[.int .i64 x, .int .i64 y, .int .u8 0] 38 (0, 0)) := by
    rw [heap_setCell_at _ (heap_setCell_at _ (heap_setCell_at _ h))]
    rfl
  refine ⟨cellOf hr rfl, cellOf hr rfl, hb.os, hb.tape, hb.output, by rw [size_setCell, size_setCell, size_setCell]; exact hb.size, fun j hj => ?_⟩
  rw [setCell_others _ _ _ _ j (by omega), setCell_others _ _ _ _ j (by omega), setCell_others _ _ _ _ j (by omega)]
  exact hb.block j hj
theorem new_put {w W : World} {B : Nat} (hb : Below B w W) (hB : B ≤ W.heap.size) (x y : Int) : (W.alloc (.cells #[.int .i64 x, .int .i64 y, .int .u8 0] 38)).cell? ⟨W.heap.size, 0, none⟩ = some (.int .i64 x) ∧ (W.alloc (.cells #[.int .i64 x, .int .i64 y, .int .u8 0] 38)).cell? ⟨W.heap.size, 1, none⟩ = some (.int .i64 y) ∧ Below B w (W.alloc (.cells #[.int .i64 x, .int .i64 y, .int .u8 0] 38)) :=
  ⟨cellOf (heap_alloc_new W _) rfl, cellOf (heap_alloc_new W _) rfl, hb.alloc hB _⟩
end Go.Proofs.Ytjldmphfdaoecaa

namespace Go.Proofs.Ytjldmphfdaoecaa
open Go.RowKit Go.Maps Go.Shelf
set_option maxRecDepth 20000
set_option linter.unusedVariables false

theorem Tlr.mono {w : World} {base g m N N' W C a n nx : Nat} {v : Value} {D : List Int} {z : Bool} {f : Int × Int × Int → Value} (h : Tlr w base g m N v D W C z f a n nx) (hN : N ≤ N') : Tlr w base g m N' v D W C z f a n nx :=
  { h with map := h.map.mono hN }

def Tlx (w : World) (base g m : Nat) (v : Value) (D : List Int) (W C : Nat) (z : Bool) (f : Int × Int × Int → Value) (nx : Nat) : Prop := Tlr w base g m (2 * nx) v D W C z f (nx - W) (nx - (nx - W)) nx

theorem Tlr.step {w : World} {base g m N W C a n nx : Nat} {v : Value} {D : List Int} {z : Bool} {f : Int × Int × Int → Value} (h : Tlr w base g m N v D W C z f a n nx) (nx' : Nat) (hbw : base ≤ w.heap.size) :
    Tlr (w.setCell ⟨g, 5, none⟩ (.int .i64 nx')) base g m N v D W C z f a n nx' ∧ Below base w (w.setCell ⟨g, 5, none⟩ (.int .i64 nx')) ∧ FT g m f f w (w.setCell ⟨g, 5, none⟩ (.int .i64 nx')) := by
  have hb : (w.setCell ⟨g, 5, none⟩ (.int .i64 nx')).heap[g]? = some (.cells #[v, .int .i64 W, .int .i64 C, .bool z, .map (some m), .int .i64 nx'] 48 (0, 0)) := by
    rw [heap_setCell_at _ h.box]
    rfl
  have hot : ∀ b, b ≠ g → (w.setCell ⟨g, 5, none⟩ (.int .i64 nx')).heap[b]? = w.heap[b]? := fun b hbg => setCell_others _ _ _ _ b hbg
  refine ⟨h.next hb hot, ⟨rfl, rfl, rfl, by rw [size_setCell]; exact Nat.le_refl _, fun b hbb => hot b (by have := h.bg; omega)⟩, by rw [size_setCell]; exact Nat.le_refl _, fun b _ h1 _ h3 => ⟨hot b h1, h3⟩⟩

theorem frozenIn {w : World} {g k : Nat} {cur : Array Value} {t : TypeId} (h : w.heap[g]? = some (.cells cur t (0, 0))) : w.frozen? ⟨g, k, none⟩ = false := by
  unfold World.frozen?
  simp [h]

theorem Tlr.to {w : World} {base g m N W C a n a' n' nx : Nat} {v : Value} {D : List Int} {z : Bool} {f : Int × Int × Int → Value} (h : Tlr w base g m N v D W C z f a n nx) (ha : a = a') (hn : n = n') : Tlr w base g m N v D W C z f a' n' nx := by
  subst ha hn
  exact h

theorem Tlr.apart {w w' : World} {base g m N W C a n nx r : Nat} {v : Value} {D : List Int} {z : Bool} {f : Int × Int × Int → Value} (h : Tlr w base g m N v D W C z f a n nx) (hb : ∀ b, b ≠ r → w'.heap[b]? = w.heap[b]?) (hg : g ≠ r) (hm : m ≠ r) (hr : base ≤ r) (hf : ∀ k, Key3 k → (f k).ownBlock ≠ some r) : Tlr w' base g m N v D W C z f a n nx where
  box := (hb g hg).trans h.box
  bg := h.bg
  bm := h.bm
  gm := h.gm
  dat := h.dat.move fun ad _ ha hbb => by
    have := h.low _ hbb
    exact (World.cell?_of_block (hb ad.block (by omega))).trans ha
  low := h.low
  map := h.map.move (hb m hm)
  rows := fun q hq => (h.rows q hq).move fun b hbb => hb b (fun e => hf q hq (by rw [← e]; exact hbb))
  off := h.off
  sep := h.sep

structure Rnd (w wr : World) (base g m : Nat) (v : Value) (D : List Int) (W C : Nat) (z : Bool) (f f' : Int × Int × Int → Value) (x : Nat) : Prop where
  tl : Tlx wr base g m v D W C z f' x
  bel : Below base w wr
  ft : FT g m f f' w wr
  bx : wr.heap[w.heap.size]? = some (.cells #[.int .i64 0, .int .i64 0, .int .u8 0] 38 (0, 0))
  fr : ∀ k, Key3 k → (f' k).ownBlock ≠ some w.heap.size
  sz : w.heap.size < wr.heap.size

theorem Rnd.on {w wr w2 : World} {base g m W C x : Nat} {v : Value} {D : List Int} {z : Bool} {f f' f2 : Int × Int × Int → Value} (h : Rnd w wr base g m v D W C z f f' x) (hbw : base ≤ w.heap.size) (hgw : g < w.heap.size) (hmw : m < w.heap.size)
    (ht : Tlr w2 base g m (2 * x + 2) v D W C z f2 (x + 1 - W) (x + 1 - (x + 1 - W)) x) (hb : Below base wr w2) (hf : FT g m f' f2 wr w2) : Rnd w (w2.setCell ⟨g, 5, none⟩ (.int .i64 ((x + 1 : Nat) : Int))) base g m v D W C z f f2 (x + 1) := by
  have hs := hb.size
  have hs1 := h.sz
  obtain ⟨e1, e2⟩ := hf.2 w.heap.size h.sz (by omega) (by omega) h.fr
  obtain ⟨t1, t2, t3⟩ := ht.step (x + 1) (by omega)
  obtain ⟨e3, e4⟩ := t3.2 w.heap.size (by omega) (by omega) (by omega) e2
  exact ⟨t1, (h.bel.trans hb).trans t2, (h.ft.trans hf).trans t3, (e3.trans e1).trans h.bx, e2, by rw [size_setCell]; omega⟩

theorem Rnd.fin {w wr w6 : World} {base g m W C x : Nat} {v : Value} {D : List Int} {z : Bool} {f f' : Int × Int × Int → Value} (h : Rnd w wr base g m v D W C z f f' x) (hbw : base ≤ w.heap.size) (hgw : g < w.heap.size) (hmw : m < w.heap.size) (hb : Below wr.heap.size wr w6) (X Y : Int) :
    ((((w6.setCell ⟨w.heap.size, 0, none⟩ (.int .i64 X)).setCell ⟨w.heap.size, 1, none⟩ (.int .i64 Y)).setCell ⟨w.heap.size, 2, none⟩ (.int .u8 0)).cell? ⟨w.heap.size, 0, none⟩ = some (.int .i64 X) ∧ (((w6.setCell ⟨w.heap.size, 0, none⟩ (.int .i64 X)).setCell ⟨w.heap.size, 1, none⟩ (.int .i64 Y)).setCell ⟨w.heap.size, 2, none⟩ (.int .u8 0)).cell? ⟨w.heap.size, 1, none⟩ = some (.int .i64 Y) ∧
      (((w6.setCell ⟨w.heap.size, 0, none⟩ (.int .i64 X)).setCell ⟨w.heap.size, 1, none⟩ (.int .i64 Y)).setCell ⟨w.heap.size, 2, none⟩ (.int .u8 0)).cell? ⟨w.heap.size, 2, none⟩ = some (.int .u8 0)) ∧
    Tlx (((w6.setCell ⟨w.heap.size, 0, none⟩ (.int .i64 X)).setCell ⟨w.heap.size, 1, none⟩ (.int .i64 Y)).setCell ⟨w.heap.size, 2, none⟩ (.int .u8 0)) base g m v D W C z f' x ∧
    Below base w (((w6.setCell ⟨w.heap.size, 0, none⟩ (.int .i64 X)).setCell ⟨w.heap.size, 1, none⟩ (.int .i64 Y)).setCell ⟨w.heap.size, 2, none⟩ (.int .u8 0)) ∧ FT g m f f' w (((w6.setCell ⟨w.heap.size, 0, none⟩ (.int .i64 X)).setCell ⟨w.heap.size, 1, none⟩ (.int .i64 Y)).setCell ⟨w.heap.size, 2, none⟩ (.int .u8 0)) := by
  have hs := hb.size
  have hs1 := h.sz
  have h6 : w6.heap[w.heap.size]? = some (.cells #[.int .i64 0, .int .i64 0, .int .u8 0] 38 (0, 0)) := (hb.block _ h.sz).trans h.bx
  have hr : (((w6.setCell ⟨w.heap.size, 0, none⟩ (.int .i64 X)).setCell ⟨w.heap.size, 1, none⟩ (.int .i64 Y)).setCell ⟨w.heap.size, 2, none⟩ (.int .u8 0)).heap[w.heap.size]? = some (.cells #[.int .i64 X, .int .i64 Y, .int .u8 0] 38 (0, 0)) := by
    rw [heap_setCell_at _ (heap_setCell_at _ (heap_setCell_at _ h6))]
    rfl
  obtain ⟨W9, hW9⟩ : ∃ W9, W9 = (((w6.setCell ⟨w.heap.size, 0, none⟩ (.int .i64 X)).setCell ⟨w.heap.size, 1, none⟩ (.int .i64 Y)).setCell ⟨w.heap.size, 2, none⟩ (.int .u8 0)) := ⟨_, rfl⟩
  have hot : ∀ b, b ≠ w.heap.size → W9.heap[b]? = w6.heap[b]? := fun b hbr => by
    rw [hW9, setCell_others _ _ _ _ b hbr, setCell_others _ _ _ _ b hbr, setCell_others _ _ _ _ b hbr]
  have hsz : W9.heap.size = w6.heap.size := by rw [hW9, size_setCell, size_setCell, size_setCell]
  have hos : W9.os = w6.os ∧ W9.tape = w6.tape ∧ W9.output = w6.output := by rw [hW9]; exact ⟨rfl, rfl, rfl⟩
  rw [← hW9] at hr ⊢
  have ht : Tlr w6 base g m (2 * x) v D W C z f' (x - W) (x - (x - W)) x := Tlr.far h.tl hb
  have hft := h.ft.trans (FT.of_below (g := g) (m := m) (f := f') hb)
  have hbl := h.bel.trans (hb.mono (by omega))
  refine ⟨⟨cellIn hr rfl, cellIn hr rfl, cellIn hr rfl⟩, ht.apart hot (by omega) (by omega) hbw h.fr, ⟨hos.1.trans hbl.os, hos.2.1.trans hbl.tape, hos.2.2.trans hbl.output, by rw [hsz]; exact hbl.size, fun b hbb => (hot b (by omega)).trans (hbl.block b hbb)⟩, by rw [hsz]; exact hft.1, fun b h1 h2 h3 h4 => ?_⟩
  obtain ⟨e1, e2⟩ := hft.2 b h1 h2 h3 h4
  exact ⟨(hot b (by omega)).trans e1, e2⟩

set_option maxHeartbeats 4000000 in
theorem tbest_any (w : World) (base g m W C nx i b : Nat) (v : Value) (D : List Int) (z : Bool) (f : Int × Int × Int → Value) (h : Tlx w base g m v D W C z f nx) (hB : Byt D) (hn : D.length ≤ 16777216) (hnx : nx ≤ i) (hi : i ≤ 16777217) (hW : 1 ≤ W) (hW2 : W ≤ 32768) (hC : C ≤ 1000000000) (hb : b ≤ 1000) (hbw : base ≤ w.heap.size) :
    Calls Try.prog 21 #[.pointer (some ⟨g, 0, none⟩), .int .i64 (i : Int), .int .i64 (b : Int)] w fun e w' => e = .returned (.agg #[.int .i64 ((bb D W C i b).1 : Nat), .int .i64 ((bb D W C i b).2 : Nat), .int .u8 0]) ∧ ∃ f' nx', Tlx w' base g m v D W C z f' nx' ∧ nx' ≤ i ∧ Below base w w' ∧ FT g m f f' w w' := by
  have HT := hide h
  have HBY := hide hB
  obtain ⟨hgl, hml⟩ := h.lt
  have hgm := h.gm
  have HR : Hid (Below w.heap.size w (w.alloc (.cells #[.int .i64 0, .int .i64 0, .int .u8 0] 38))) := (Below.refl _ _).alloc (Nat.le_refl _) _
  obtain ⟨w1, hw1⟩ : ∃ w1, w.alloc (.cells #[.int .i64 0, .int .i64 0, .int .u8 0] 38) = w1 := ⟨_, rfl⟩
  have HBX : Hid (w1.heap[w.heap.size]? = some (.cells #[.int .i64 0, .int .i64 0, .int .u8 0] 38 (0, 0))) := by show _ = _; rw [← hw1]; exact heap_alloc_new w _
  have hs1 : w.heap.size < w1.heap.size := by rw [← hw1]; simp
  rw [hw1] at HR
  have HT1 := hide (Tlr.far HT.out HR.out)
  have HFT1 : Hid (FT g m f f w w1) := FT.of_below HR.out
  have HFR1 : Hid (∀ k, Key3 k → (f k).ownBlock ≠ some w.heap.size) := fun k hk e => by have := ((HT.out.rows k hk).lt _ e).2; omega
  have c0 := HT1.out.box.cells.1
  have hsb := h.dat
  obtain ⟨ao, cap, rfl, hlc, hcm⟩ := hsb.open
  have HFI := hide (fits_any D i ao cap w1 (by omega) (by omega))
  clear h hB hsb
  have hgr : g ≠ w.heap.size := by omega
  by_cases hf : i + 3 ≤ D.length
  · have HD : Hid (decide (i + 3 ≤ D.length) = true) := decide_eq_true hf
    rw [HD.out] at HFI
    go_enter Try.func21, Try.ntmps21
    go_wp2_with fail
    refine HFI.out.mono ?_
    rintro e w2 ⟨rfl, hw2⟩
    subst hw2
    go_wp2
    clear hw1
    go_loopw [] (fun wr => ∃ (x : Nat) (f' : Int × Int × Int → Value), nx ≤ x ∧ x ≤ i ∧ Hid (Rnd w wr base g m (.slice ao D.length cap) D W C z f f' x)) (fun wr => i - (intOf ((wr.cell? ⟨g, 5, none⟩).getD undef)).toNat)
    case atStart => exact ⟨nx, f, Nat.le_refl _, hnx, HT1.out, HR.out.mono hbw, HFT1.out, HBX.out, HFR1.out, hs1⟩
    case round =>
      obtain ⟨x, f', hx1, hx2, HX⟩ := hrel
      have c5 := HX.out.tl.box.cells.2.2.2.2.2
      by_cases hlt : x < i
      · have hlt' : (x : Int) < (i : Int) := by omega
        have hwx : x - W + (x - (x - W)) = x := by omega
        have HEN : Hid (Calls Try.prog 24 #[.pointer (some ⟨g, 0, none⟩), .int .i64 (x : Int)] wr fun e w' => e = .returned (.tuple #[]) ∧ ∃ f2, Tlr w' base g m (2 * x + 1) (.slice ao D.length cap) D W C z f2 (x - W) (x - (x - W) + 1) x ∧ Below base wr w' ∧ FT g m f' f2 wr w') := by
          have := enter_any wr base g m (2 * x) W C (x - W) (x - (x - W)) x _ D z f' HX.out.tl HBY.out (by omega) (by omega) (by omega) (by have := HX.out.sz; omega)
          rw [hwx] at this
          exact this
        clear hwx
        go_wp2_with fail
        refine HEN.out.mono ?_
        rintro e w2 ⟨rfl, f2, t2, b2, r2⟩
        have HT2 := hide t2
        have HB2 := hide b2
        have HF2 := hide r2
        have d5 : w2.cell? ⟨g, 5, none⟩ = some (.int .i64 (x : Int)) := t2.box.cells.2.2.2.2.2
        have d1 : w2.cell? ⟨g, 1, none⟩ = some (.int .i64 (W : Int)) := t2.box.cells.2.1
        clear t2 b2 r2 HEN
        have hsz2 := HX.out.sz
        have hsz3 := HB2.out.size
        by_cases hxw : W ≤ x
        · have hge : (0 : Int) ≤ (x : Int) - (W : Int) := by omega
          have HLV : Hid (Calls Try.prog 25 #[.pointer (some ⟨g, 0, none⟩), .int .i64 ((x : Int) - (W : Int))] w2.drew fun e w' => e = .returned (.tuple #[]) ∧ ∃ f3, Tlr w' base g m (2 * x + 2) (.slice ao D.length cap) D W C z f3 (x - W + 1) (x - (x - W)) x ∧ Below base w2.drew w' ∧ FT g m f2 f3 w2.drew w') := by
            have := leave_any w2.drew base g m (2 * x + 1) W C (x - W) (x - (x - W)) x _ D z f2 (HT2.out.far ((Below.refl _ _).drew)) HBY.out (by omega) (by omega) (by omega) (by omega) (by show base ≤ w2.heap.size; omega)
            rw [show ((x - W : Nat) : Int) = (x : Int) - (W : Int) by omega] at this
            exact this
          go_wp2
          go_region
          all_goals
            go_wp2_with fail
            refine HLV.out.mono ?_
            rintro e w3 ⟨rfl, f3, t3, b3, r3⟩
            have g5 : w3.cell? ⟨g, 5, none⟩ = some (.int .i64 (x : Int)) := t3.box.cells.2.2.2.2.2
            have gf : w3.frozen? ⟨g, 5, none⟩ = false := frozenIn t3.box
            have HON : Hid (Rnd w (w3.setCell ⟨g, 5, none⟩ (.int .i64 ((x + 1 : Nat) : Int))) base g m (.slice ao D.length cap) D W C z f f3 (x + 1)) := HX.out.on hbw hgl hml (t3.to (by omega) (by omega)) (HB2.out.drew.trans b3) (HF2.out.trans (show FT g m f2 f3 w2 w3 from r3))
            clear t3 b3 r3
            go_wp2
            go_roundw
            case rel => exact ⟨x + 1, f3, by omega, by omega, by have := HON.out; push_cast at this; exact this⟩
            case measure => have m1 := HON.out.tl.box.cells.2.2.2.2.2; push_cast at m1; rw [m1, c5]; simp [intOf]; omega
        · have hge : ¬ (0 : Int) ≤ (x : Int) - (W : Int) := by omega
          have g5 : w2.drew.cell? ⟨g, 5, none⟩ = some (.int .i64 (x : Int)) := d5
          have gf : w2.drew.frozen? ⟨g, 5, none⟩ = false := frozenIn HT2.out.box
          have HON : Hid (Rnd w (w2.drew.setCell ⟨g, 5, none⟩ (.int .i64 ((x + 1 : Nat) : Int))) base g m (.slice ao D.length cap) D W C z f f2 (x + 1)) := HX.out.on hbw hgl hml (((HT2.out.far ((Below.refl _ _).drew)).mono (by omega)).to (by omega) (by omega)) HB2.out.drew (show FT g m f' f2 wr w2 from HF2.out)
          go_wp2
          go_region
          all_goals
            go_wp2
            go_roundw
            case rel => exact ⟨x + 1, f2, by omega, by omega, by have := HON.out; push_cast at this; exact this⟩
            case measure => have m1 : (w2.setCell ⟨g, 5, none⟩ (.int .i64 ((x : Int) + 1))).drew.cell? ⟨g, 5, none⟩ = some (.int .i64 ((x : Int) + 1)) := by { have m0 := HON.out.tl.box.cells.2.2.2.2.2; push_cast at m0; exact m0 }; rw [m1, c5]; simp [intOf]; omega
      · have hxi : x = i := by omega
        have HXi : Hid (Rnd w wr base g m (.slice ao D.length cap) D W C z f f' i) := by rw [← hxi]; exact HX.out
        rw [hxi] at c5
        clear HX hxi hx1 hx2 hlt x
        have hlt' : ¬ (i : Int) < (i : Int) := by omega
        have hrs := HXi.out.sz
        obtain ⟨b0, _, b2, _, b4, _⟩ := HXi.out.tl.box.cells
        obtain ⟨hgw, hmw⟩ := HXi.out.tl.lt
        obtain ⟨k, HK⟩ : ∃ k, Hid (k = thk D i) := ⟨_, hide rfl⟩
        have HKY := hide (Tlr.key HBY.out i)
        have HTH := hide (three_any _ D i wr.drew (HXi.out.tl.dat.below (Below.refl _ _).drew) hf (by omega))
        rw [thr_kv, ← HK.out] at HTH
        rw [← HK.out] at HKY
        have HRO := hide (HXi.out.tl.rows k HKY.out)
        obtain ⟨L, HL⟩ : ∃ L, Hid (L = plc D k (i - W) (i - (i - W))) := ⟨_, hide rfl⟩
        rw [← HL.out] at HRO
        have hLl : L.length ≤ 16777217 := by rw [HL.out]; have := plc_len D k (i - W) (i - (i - W)); omega
        have HNW : Hid (lng D i ((L.drop (L.length - C)).reverse) b = bb D W C i b) := by
          show _ = _
          rw [HL.out, HK.out, show i - W = i - min i W by omega, show i - (i - min i W) = min i W by omega]
          exact bb_near hf
        have HAm : Hid (∀ j ∈ L.drop (L.length - C), j < i) := fun j hj => by
          have := List.mem_of_mem_drop hj
          rw [HL.out] at this
          unfold plc at this
          have := List.mem_range'_1.1 (List.mem_filter.1 this).1
          omega
        obtain ⟨fk, HFK⟩ : ∃ fk, Hid (fk = f' k) := ⟨_, hide rfl⟩
        rw [← HFK.out] at HRO
        have HNE : Hid (∀ wx, Below wr.heap.size wr wx → Calls Try.prog 27 #[fk, .int .i64 C] wx fun e w' => ∃ v', e = .returned v' ∧ SI wx v' (ins (L.drop (L.length - C))) ∧ w' = wx) := fun wx q => by
          have := nearest_any fk (ins L) C wx (HRO.out.si.below q) (by rw [ins_len]; omega) (by omega)
          rwa [ins_len, ins_drop] at this
        obtain ⟨l, HLd⟩ : ∃ l, Hid (l = L.drop (L.length - C)) := ⟨_, hide rfl⟩
        rw [← HLd.out] at HAm HNE HNW
        have hll : l.length ≤ 16777217 := by rw [HLd.out, List.length_drop]; omega
        have HLO : Hid (∀ wx pv, Below wr.heap.size wr wx → SI wx pv (ins l) → Calls Try.prog 26 #[.slice ao D.length cap, .int .i64 i, pv, .int .i64 b] wx fun e w' => e = .returned (.agg #[.int .i64 ((bb D W C i b).1 : Nat), .int .i64 ((bb D W C i b).2 : Nat), .int .u8 0]) ∧ Below wx.heap.size wx w') := fun wx pv q hv => by
          have := longest_any _ pv D i b l wx (HXi.out.tl.dat.below q) hv HBY.out (by omega) (by omega) (by omega) HAm.out hb
          rwa [HNW.out] at this
        obtain ⟨k0, k1, k2⟩ := k
        have HBXr : Hid (Box3 wr w.heap.size) := HXi.out.bx
        have HU : Hid (∀ W', Below wr.heap.size wr W' → W'.cell? ⟨g, 0, none⟩ = some (.slice ao D.length cap) ∧ W'.cell? ⟨g, 2, none⟩ = some (.int .i64 C) ∧ W'.cell? ⟨g, 4, none⟩ = some (.map (some m)) ∧ (Instr.lookup 46 (.map (some m)) (.agg #[.int .u8 k0, .int .u8 k1, .int .u8 k2]) false).run Try.prog W' = .ok fk W') := fun W' q => by
          refine ⟨(q.cell hgw).trans b0, (q.cell hgw).trans b2, (q.cell hgw).trans b4, ?_⟩
          have := (HXi.out.tl.map.move (q.block m hmw)).look HKY.out
          rw [← HFK.out] at this
          exact this
        have HV : Hid (∀ W', Tlx W' base g m (.slice ao D.length cap) D W C z f' i → W'.cell? ⟨g, 0, none⟩ = some (.slice ao D.length cap) ∧ W'.cell? ⟨g, 2, none⟩ = some (.int .i64 C) ∧ W'.cell? ⟨g, 4, none⟩ = some (.map (some m)) ∧ (Instr.lookup 46 (.map (some m)) (.agg #[.int .u8 k0, .int .u8 k1, .int .u8 k2]) false).run Try.prog W' = .ok fk W') := fun W' q => by
          refine ⟨q.box.cells.1, q.box.cells.2.2.1, q.box.cells.2.2.2.2.1, ?_⟩
          have := q.map.look HKY.out
          rw [← HFK.out] at this
          exact this
        have HD0 : Hid (Below wr.heap.size wr wr.drew) := (Below.refl _ _).drew
        unfold kv at HTH
        simp only at HTH
        obtain ⟨X, HX⟩ : ∃ X, Hid (X = (bb D W C i b).1) := ⟨_, hide rfl⟩
        obtain ⟨Y, HY⟩ : ∃ Y, Hid (Y = (bb D W C i b).2) := ⟨_, hide rfl⟩
        rw [← HX.out, ← HY.out] at HLO
        clear b0 b2 b4 c5
        have c5 := HXi.out.tl.box.cells.2.2.2.2.2
        go_wp2
        go_region_held3 (fun W' => W'.cell? ⟨g, 0, none⟩ = some (.slice ao D.length cap) ∧ W'.cell? ⟨g, 2, none⟩ = some (.int .i64 C) ∧ W'.cell? ⟨g, 4, none⟩ = some (.map (some m)) ∧ (Instr.lookup 46 (.map (some m)) (.agg #[.int .u8 k0, .int .u8 k1, .int .u8 k2]) false).run Try.prog W' = .ok fk W') (first | exact HU.out _ HD0.out | exact HU.out _ HB6.out | exact HU.out _ HB4.out | exact HS9.out) (first
          | (go_at_call 28
             with_reducible refine HTH.out.mono ?_
             rintro e w4 ⟨rfl, b4⟩
             have HB4 := hide (HD0.out.trans b4)
             clear b4)
          | (go_at_call 27
             with_reducible refine (HNE.out _ HB4.out).mono ?_
             rintro e w5 ⟨v5, rfl, hv5, hw5⟩
             have HV5 := hide hv5
             clear hv5
             subst hw5)
          | (go_at_call 26
             with_reducible refine (HLO.out _ _ HB4.out HV5.out).mono ?_
             rintro e w6 ⟨rfl, b6⟩
             have HB6 := hide (HB4.out.trans (b6.mono HB4.out.size))
             obtain ⟨x1, x2, x3, x4, x5, x6⟩ := (HBXr.out.far HB6.out).cells
             obtain ⟨⟨y0, y1, y2⟩, hFN⟩ := HXi.out.fin hbw hgl hml HB6.out (X : Int) (Y : Int)
             have HFN := hide hFN
             have HS9 := hide (HV.out _ hFN.1)
             clear b6 hFN))
        all_goals
          go_wp2
          refine bodyPost_ret (v := .agg #[.int .i64 (X : Int), .int .i64 (Y : Int), .int .u8 0]) ?_ rfl ⟨by rw [HX.out, HY.out], f', i, HFN.out.1, Nat.le_refl _, HFN.out.2.1, HFN.out.2.2⟩
          have hres : Try.f21.results = #[.cell 6 38] := by kernel_rfl
          simp only [results, hres]
          go_simp
  · have HD : Hid (decide (i + 3 ≤ D.length) = false) := decide_eq_false hf
    rw [HD.out] at HFI
    rw [bb_none hf]
    have HRN : Hid (Rnd w w1 base g m (.slice ao D.length cap) D W C z f f nx) := ⟨HT1.out, HR.out.mono hbw, HFT1.out, HBX.out, HFR1.out, hs1⟩
    obtain ⟨⟨y0, y1, y2⟩, hFN⟩ := HRN.out.fin hbw hgl hml (Below.refl _ _) (0 : Int) (0 : Int)
    have HFN := hide hFN
    obtain ⟨x1, x2, x3, x4, x5, x6⟩ := (show Box3 w1 w.heap.size from HBX.out).cells
    clear hFN
    go_enter Try.func21, Try.ntmps21
    go_wp2_with fail
    refine HFI.out.mono ?_
    rintro e w2 ⟨rfl, hw2⟩
    subst hw2
    go_wp2
    refine bodyPost_ret (v := .agg #[.int .i64 0, .int .i64 0, .int .u8 0]) ?_ rfl ⟨rfl, f, nx, HFN.out.1, hnx, HFN.out.2.1, HFN.out.2.2⟩
    have hres : Try.f21.results = #[.cell 6 38] := by kernel_rfl
    simp only [results, hres]
    go_simp
end Go.Proofs.Ytjldmphfdaoecaa

namespace Go.Proofs.Ytjldmphfdaoecaa
open Go.RowKit Go.Maps Go.Shelf
set_option maxRecDepth 20000
set_option linter.unusedVariables false

def pof (D : List Int) (W C : Nat) (z : Bool) (i l : Nat) : Nat × Nat := if z = true ∧ l ≠ 0 then bb D W C (i + 1) l else (0, 0)

theorem pof_ofb (D : List Int) (W C : Nat) (z : Bool) (i : Nat) : pof D W C z i (bst D i W C).1 = ofb D W C z i := rfl

set_option maxHeartbeats 4000000 in
theorem putoff_any (w : World) (base g m W C nx i l d : Nat) (c : Int) (v : Value) (D : List Int) (z : Bool) (f : Int × Int × Int → Value) (h : Tlx w base g m v D W C z f nx) (hB : Byt D) (hn : D.length ≤ 16777216) (hnx : nx ≤ i) (hi : i ≤ 16777216) (hW : 1 ≤ W) (hW2 : W ≤ 32768) (hC : C ≤ 1000000000) (hl : l ≤ 1000) (hbw : base ≤ w.heap.size) :
    Calls Try.prog 22 #[.pointer (some ⟨g, 0, none⟩), .int .i64 (i : Int), .agg #[.int .i64 (l : Int), .int .i64 (d : Int), .int .u8 c]] w fun e w' => e = .returned (.agg #[.int .i64 ((pof D W C z i l).1 : Nat), .int .i64 ((pof D W C z i l).2 : Nat), .int .u8 0]) ∧ ∃ f' nx', Tlx w' base g m v D W C z f' nx' ∧ nx' ≤ i + 1 ∧ Below base w w' ∧ FT g m f f' w w' := by
  have HT := hide h
  have HBY := hide hB
  obtain ⟨hgl, hml⟩ := h.lt
  obtain ⟨li, HLI⟩ : ∃ li : Int, Hid (li = (l : Int)) := ⟨_, hide rfl⟩
  rw [← HLI.out]
  have hgm := h.gm
  have HR0 : Hid (Below w.heap.size w (w.alloc (.cells #[.int .i64 li, .int .i64 (d : Int), .int .u8 c] 38))) := (Below.refl _ _).alloc (Nat.le_refl _) _
  obtain ⟨w0, hw0⟩ : ∃ w0, w.alloc (.cells #[.int .i64 li, .int .i64 (d : Int), .int .u8 c] 38) = w0 := ⟨_, rfl⟩
  have hs0 : w0.heap.size = w.heap.size + 1 := by rw [← hw0]; simp
  have hb0 : w0.heap[w.heap.size]? = some (.cells #[.int .i64 li, .int .i64 (d : Int), .int .u8 c] 38 (0, 0)) := by rw [← hw0]; exact heap_alloc_new w _
  rw [hw0] at HR0
  have HT0 := hide (Tlr.far HT.out HR0.out)
  have HR : Hid (Below w0.heap.size w0 (w0.alloc (.cells #[.int .i64 0, .int .i64 0, .int .u8 0] 38))) := (Below.refl _ _).alloc (Nat.le_refl _) _
  obtain ⟨w1, hw1⟩ : ∃ w1, w0.alloc (.cells #[.int .i64 0, .int .i64 0, .int .u8 0] 38) = w1 := ⟨_, rfl⟩
  have HBX : Hid (w1.heap[w0.heap.size]? = some (.cells #[.int .i64 0, .int .i64 0, .int .u8 0] 38 (0, 0))) := by show _ = _; rw [← hw1]; exact heap_alloc_new w0 _
  have hs1 : w0.heap.size < w1.heap.size := by rw [← hw1]; simp
  rw [hw1] at HR
  have HT1 := hide (Tlr.far HT0.out HR.out)
  have HFR1 : Hid (∀ k, Key3 k → (f k).ownBlock ≠ some w0.heap.size) := fun k hk e => by have := ((HT0.out.rows k hk).lt _ e).2; omega
  have hbw0 : base ≤ w0.heap.size := by omega
  have HRN : Hid (Rnd w0 w1 base g m v D W C z f f nx) := ⟨HT1.out, HR.out.mono hbw0, FT.of_below HR.out, HBX.out, HFR1.out, hs1⟩
  have HW0 : Hid (Below base w w0 ∧ FT g m f f w w0) := ⟨HR0.out.mono hbw, FT.of_below HR0.out⟩
  have z3 : w1.cell? ⟨g, 3, none⟩ = some (.bool z) := HT1.out.box.cells.2.2.2.1
  have b1 : w1.heap[w.heap.size]? = some (.cells #[.int .i64 li, .int .i64 (d : Int), .int .u8 c] 38 (0, 0)) := (HR.out.block _ (by omega)).trans hb0
  have b1c : w1.cell? ⟨w.heap.size, 0, none⟩ = some (.int .i64 li) := cellIn b1 rfl
  obtain ⟨x1, x2, x3, x4, x5, x6⟩ := (show Box3 w1 w0.heap.size from HBX.out).cells
  clear h hB b1 hb0
  by_cases hz : z = true ∧ l ≠ 0
  · obtain ⟨hz1, hl0⟩ := hz
    have HP : Hid (pof D W C z i l = bb D W C (i + 1) l) := by show _ = _; unfold pof; rw [if_pos ⟨hz1, hl0⟩]
    have hli : ¬ li = 0 := by have := HLI.out; omega
    have HBE : Hid (Calls Try.prog 21 #[.pointer (some ⟨g, 0, none⟩), .int .i64 ((i : Int) + 1), .int .i64 li] w1 fun e w' => e = .returned (.agg #[.int .i64 ((bb D W C (i + 1) l).1 : Nat), .int .i64 ((bb D W C (i + 1) l).2 : Nat), .int .u8 0]) ∧ ∃ f' nx', Tlx w' base g m v D W C z f' nx' ∧ nx' ≤ i + 1 ∧ Below base w1 w' ∧ FT g m f f' w1 w') := by
      have := tbest_any w1 base g m W C nx (i + 1) l v D z f HT1.out HBY.out hn (by omega) (by omega) hW hW2 hC hl (by omega)
      rw [← HLI.out] at this
      push_cast at this
      exact this
    rw [HP.out]
    obtain ⟨X, HX⟩ : ∃ X, Hid (X = (bb D W C (i + 1) l).1) := ⟨_, hide rfl⟩
    obtain ⟨Y, HY⟩ : ∃ Y, Hid (Y = (bb D W C (i + 1) l).2) := ⟨_, hide rfl⟩
    rw [← HX.out, ← HY.out] at HBE ⊢
    rw [hz1] at z3
    clear hl0
    go_enter Try.func22, Try.ntmps22
    go_wp2_with fail
    refine HBE.out.mono ?_
    rintro e w2 ⟨rfl, f', nx', t2, hx2, b2, r2⟩
    have hs2 := b2.size
    obtain ⟨e1, e2⟩ := r2.2 w0.heap.size hs1 (by omega) (by omega) HFR1.out
    have HR2 : Hid (Rnd w0 w2 base g m v D W C z f f' nx') := ⟨t2, HRN.out.bel.trans b2, HRN.out.ft.trans r2, e1.trans HBX.out, e2, by omega⟩
    obtain ⟨q1, q2, q3, q4, q5, q6⟩ := (show Box3 w2 w0.heap.size from HR2.out.bx).cells
    obtain ⟨⟨y0, y1, y2⟩, hFN⟩ := HR2.out.fin hbw0 (by omega) (by omega) (Below.refl _ _) (X : Int) (Y : Int)
    have HFN := hide hFN
    clear hFN t2 b2 r2 e1 e2 x1 x2 x3 x4 x5 x6
    rw [hs0] at q1 q2 q3 q4 q5 q6 y0 y1 y2 HFN
    go_wp2
    refine bodyPost_ret (v := .agg #[.int .i64 (X : Int), .int .i64 (Y : Int), .int .u8 0]) ?_ rfl ⟨rfl, f', nx', HFN.out.1, hx2, HW0.out.1.trans HFN.out.2.1, HW0.out.2.trans HFN.out.2.2⟩
    have hres : Try.f22.results = #[.cell 6 38] := by kernel_rfl
    simp only [results, hres]
    go_simp
  · have HP : Hid (pof D W C z i l = (0, 0)) := by show _ = _; unfold pof; rw [if_neg hz]
    obtain ⟨⟨y0, y1, y2⟩, hFN⟩ := HRN.out.fin hbw0 (by omega) (by omega) (Below.refl _ _) (0 : Int) (0 : Int)
    have HFN := hide hFN
    clear hFN
    rw [HP.out]
    rw [hs0] at x1 x2 x3 x4 x5 x6 y0 y1 y2 HFN
    by_cases hz1 : z = true
    · have hl0 : li = 0 := by
        by_cases e : l = 0
        · rw [HLI.out, e]; rfl
        · exact absurd ⟨hz1, e⟩ hz
      rw [hz1] at z3
      rw [hl0] at b1c hw0 ⊢
      clear hz hl0
      go_enter Try.func22, Try.ntmps22
      go_wp2
      refine bodyPost_ret (v := .agg #[.int .i64 0, .int .i64 0, .int .u8 0]) ?_ rfl ⟨rfl, f, nx, HFN.out.1, by omega, HW0.out.1.trans HFN.out.2.1, HW0.out.2.trans HFN.out.2.2⟩
      have hres : Try.f22.results = #[.cell 6 38] := by kernel_rfl
      simp only [results, hres]
      go_simp
    · have hz2 : z = false := by cases z with | false => rfl | true => exact absurd rfl hz1
      rw [hz2] at z3
      clear hz hz1
      go_enter Try.func22, Try.ntmps22
      go_wp2
      refine bodyPost_ret (v := .agg #[.int .i64 0, .int .i64 0, .int .u8 0]) ?_ rfl ⟨rfl, f, nx, HFN.out.1, by omega, HW0.out.1.trans HFN.out.2.1, HW0.out.2.trans HFN.out.2.2⟩
      have hres : Try.f22.results = #[.cell 6 38] := by kernel_rfl
      simp only [results, hres]
      go_simp
end Go.Proofs.Ytjldmphfdaoecaa

namespace Go.Proofs.Ytjldmphfdaoecaa
open Go.RowKit Go.Maps
set_option maxRecDepth 20000
set_option linter.unusedVariables false

def TelB (g m : Nat) (v : Value) (f : Int × Int × Int → Value) (b : Nat) : Prop := b = g ∨ b = m ∨ v.ownBlock = some b ∨ ∃ k, Key3 k ∧ (f k).ownBlock = some b

theorem Tlr.kept {w w' : World} {base g m N W C a n nx : Nat} {v : Value} {D : List Int} {z : Bool} {f : Int × Int × Int → Value} (h : Tlr w base g m N v D W C z f a n nx) (hb : ∀ b, b < w.heap.size → TelB g m v f b → w'.heap[b]? = w.heap[b]?) : Tlr w' base g m N v D W C z f a n nx where
  box := (hb g h.lt.1 (.inl rfl)).trans h.box
  bg := h.bg
  bm := h.bm
  gm := h.gm
  dat := h.dat.move fun ad _ ha hbb => (World.cell?_of_block (hb ad.block (World.block_lt_of_cell? w ad ha) (.inr (.inr (.inl hbb))))).trans ha
  low := h.low
  map := h.map.move (hb m h.lt.2 (.inr (.inl rfl)))
  rows := fun q hq => (h.rows q hq).move fun b hbb => hb b ((h.rows q hq).lt b hbb).2 (.inr (.inr (.inr ⟨q, hq, hbb⟩)))
  off := h.off
  sep := h.sep

theorem FT.stranger {w w' : World} {g m : Nat} {v : Value} {f f' : Int × Int × Int → Value} (h : FT g m f f' w w') {b : Nat} (hb : b < w.heap.size) (hn : ¬ TelB g m v f b) : w'.heap[b]? = w.heap[b]? ∧ ¬ TelB g m v f' b := by
  obtain ⟨e1, e2⟩ := h.2 b hb (fun e => hn (.inl e)) (fun e => hn (.inr (.inl e))) (fun k hk e => hn (.inr (.inr (.inr ⟨k, hk, e⟩))))
  refine ⟨e1, fun q => ?_⟩
  rcases q with q | q | q | ⟨k, hk, q⟩
  · exact hn (.inl q)
  · exact hn (.inr (.inl q))
  · exact hn (.inr (.inr (.inl q)))
  · exact e2 k hk q

theorem Tlr.start {w : World} {base g m W C : Nat} {v : Value} {D : List Int} {z : Bool} (hb : TB w g v W C z m 0) (hg : base ≤ g) (hm : base ≤ m) (hgm : g ≠ m) (hd : SB w v D) (hl : ∀ k, v.ownBlock = some k → k < base) (hmp : w.heap[m]? = some (.map #[] 0)) : Tlx w base g m v D W C z (fun _ => .slice none 0 0) 0 where
  box := hb
  bg := hg
  bm := hm
  gm := hgm
  dat := hd
  low := hl
  map := MP.new hmp
  rows := fun k _ => by
    rw [Nat.zero_sub, Nat.zero_sub, plc_zero]
    exact OX.nil _ _
  off := fun k b _ h => by cases h
  sep := fun k q b _ _ _ h _ => by cases h
end Go.Proofs.Ytjldmphfdaoecaa

