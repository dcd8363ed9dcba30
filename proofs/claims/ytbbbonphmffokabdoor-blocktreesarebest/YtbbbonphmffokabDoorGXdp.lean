import Derived.Test.YtbbbonphmffokabDoorGNd
namespace Go.Proofs.YtbbbonphmffokabDoor
open Go.RowKit Go.Maps
set_option maxRecDepth 20000
set_option linter.unusedVariables false
set_option linter.unusedSimpArgs false

theorem OI.shp {w : World} {base : Nat} {v : Value} {l : List Int} (h : OI w base v l) : ∃ a n c, v = .slice a n c := by
  obtain ⟨a, c, rfl⟩ := h.shape
  exact ⟨_, _, _, rfl⟩

theorem one_oi (W : World) (x : Int) : OI (W.alloc (.cells #[.int .i64 x] 3)) 0 (.slice (some ⟨W.heap.size, 0, none⟩) 1 1) [x] := by
  have := OI.of_full (w := W.alloc (.cells #[.int .i64 x] 3)) (base := 0) (g := W.heap.size) (l := [x]) (heap_alloc_new W _) (Nat.zero_le _) (by unfold maxLen; simp)
  exact this

/-- One more leaf. -/
theorem Dst.leaf {w : World} {B n : Nat} {lv u v3 : Value} {M : List Mnd} {len : Nat → Nat} {W w3 : World} {s f : Nat} {o : Obj} (h : Dst w B n lv u M len W) (hB : w.heap.size ≤ B) (hW : B ≤ W.heap.size) (hl : ∀ k, lv.ownBlock = some k → k < B)
    (ho : ON w3 B v3 (M ++ [((f, [s]), .slice (some ⟨W.heap.size, 0, none⟩) 1 1)])) (hg : ((W.alloc (.cells #[.int .i64 (s : Int)] 3)).alloc o).grownBy w3 u.ownBlock) :
    Dst w B n lv v3 (M ++ [((f, [s]), .slice (some ⟨W.heap.size, 0, none⟩) 1 1)]) len w3 := by
  have hb1 : Below B W (W.alloc (.cells #[.int .i64 (s : Int)] 3)) := (Below.refl B W).alloc hW _
  have hb2 : Below B W ((W.alloc (.cells #[.int .i64 (s : Int)] 3)).alloc o) := hb1.alloc (by simp; omega) _
  have hb3 : Below B W w3 := hb2.grown hg (by simp; omega) (fun j hj => (h.on.lt j hj).1)
  refine ⟨ho, fun p hp k hk => ?_, h.le.move fun k hk => hb3.block k (hl k hk), h.bl.trans (hb3.mono hB)⟩
  rcases List.mem_append.1 hp with hp | hp
  · exact h.ap p hp k hk
  · rw [List.mem_singleton.1 hp] at hk
    simp only [Value.ownBlock, Option.some.injEq] at hk
    omega

theorem Dst.pop {w : World} {B n i : Nat} {lv u v5 : Value} {M : List Mnd} {len : Nat → Nat} {W w5 : World} {o : Obj} (h : Dst w B n lv u M len W) (hw : w.heap.size ≤ W.heap.size) (hB : B ≤ W.heap.size)
    (hon : ON w5 (W.alloc o).heap.size v5 (M.eraseIdx i)) (hb : Below (W.alloc o).heap.size (W.alloc o) w5) :
    Dst w B n lv v5 (M.eraseIdx i) len w5 ∧ Below W.heap.size W w5 ∧ w5.heap[W.heap.size]? = some o ∧ W.heap.size < w5.heap.size := by
  have h1 : Below W.heap.size W (W.alloc o) := (Below.refl _ _).alloc (Nat.le_refl _) _
  have h2 : Below W.heap.size W w5 := h1.trans (hb.mono (by simp))
  have h3 := hb.size
  refine ⟨⟨hon.base (by simp; omega), fun p hp => h.ap p (List.mem_of_mem_eraseIdx hp), h.le.below h2 (Nat.le_refl _), h.bl.trans (h2.mono hw)⟩, h2, ?_, by simp at h3; omega⟩
  rw [hb.block _ (by simp)]
  exact heap_alloc_new W o

theorem Dst.below {w : World} {B n : Nat} {lv u : Value} {M : List Mnd} {len : Nat → Nat} {W W' : World} (h : Dst w B n lv u M len W) (hb : Below W.heap.size W W') (hw : w.heap.size ≤ W.heap.size) : Dst w B n lv u M len W' :=
  ⟨h.on.below hb (Nat.le_refl _), h.ap, h.le.below hb (Nat.le_refl _), h.bl.trans (hb.mono hw)⟩

theorem Dst.bump {w : World} {B n gl c s : Nat} {u : Value} {M : List Mnd} {len : Nat → Nat} {W : World} (h : Dst w B n (.slice (some ⟨gl, 0, none⟩) n c) u M len W) (hlt : gl < B) (hs : s < n) :
    W.cell? ⟨gl, s, none⟩ = some (.int .i64 (len s : Int)) ∧ W.frozen? ⟨gl, s, none⟩ = false ∧ ∀ (m : Int) (H' : Nat → Nat), (hls n len).set s m = hls n H' → Dst w B n (.slice (some ⟨gl, 0, none⟩) n c) u M H' (W.setCell ⟨gl, s, none⟩ (.int .i64 m)) := by
  have h1 := h.le.get (b := gl) rfl (i := s) (by rw [hls_len]; exact hs)
  rw [hls_get len hs] at h1
  refine ⟨h1, (h.le.putg (k := s) (by rw [hls_len]; exact hs) 0).2.1, fun m H' hH => ?_⟩
  have h2 := (h.le.putg (k := s) (by rw [hls_len]; exact hs) m).2.2
  rw [hH] at h2
  have mv : ∀ k, B ≤ k → (W.setCell ⟨gl, s, none⟩ (.int .i64 m)).heap[k]? = W.heap[k]? := fun k hk => setCell_others _ _ _ _ k (by show k ≠ gl; omega)
  exact ⟨⟨rown_move6 h.on.row fun k hk => mv k (h.on.lt k hk).1, fun p hp => (h.on.holds p hp).move fun k hk => mv k (h.ap p hp k hk)⟩, h.ap, h2, h.bl.setCell (p := ⟨gl, s, none⟩) (h.le.lt gl rfl).1 _⟩

theorem Dst.node {w : World} {B n : Nat} {lv u v3 : Value} {M : List Mnd} {p : Mnd} {len : Nat → Nat} {W w3 : World} {o : Obj} (h : Dst w B n lv u M len W) (hB : w.heap.size ≤ B) (hW : B ≤ W.heap.size) (hl : ∀ k, lv.ownBlock = some k → k < B)
    (hp : ∀ k, p.2.ownBlock = some k → B ≤ k) (ho : ON w3 B v3 (M ++ [p])) (hg : (W.alloc o).grownBy w3 u.ownBlock) : Dst w B n lv v3 (M ++ [p]) len w3 := by
  have hb2 : Below B W (W.alloc o) := (Below.refl B W).alloc hW _
  have hb3 : Below B W w3 := hb2.grown hg (by simp; omega) (fun j hj => (h.on.lt j hj).1)
  refine ⟨ho, fun q hq k hk => ?_, h.le.move fun k hk => hb3.block k (hl k hk), h.bl.trans (hb3.mono hB)⟩
  rcases List.mem_append.1 hq with hq | hq
  · exact h.ap q hq k hk
  · rw [List.mem_singleton.1 hq] at hk
    exact hp k hk

/-- One more is held, in a world that differs by its draws. -/
theorem Cst.app2 {wC : World} {gC : Nat} {a : Int} {hv v' : Value} {l : List Nat} {W V w6 : World} {o : Obj} (h : Cst wC gC a hv l W) (x : Nat) (hCs : gC ≤ wC.heap.size) (hV : V.heap = (W.alloc o).heap) (h1 : V.os = W.os) (h2 : V.tape = W.tape) (h3 : V.output = W.output) (ho : OI w6 gC v' (ci l ++ [(x : Int)])) (hg : Grew V w6 hv v') : w6.cell? ⟨gC, 1, none⟩ = some hv ∧ w6.frozen? ⟨gC, 1, none⟩ = false ∧ Cst wC gC a v' (l ++ [x]) (w6.setCell ⟨gC, 1, none⟩ v') := by
  have hlt := h.cells.2.2.2
  have hne : hv.ownBlock ≠ some gC := fun e => by
    rcases h.own.2 with ⟨rfl, _⟩ | ⟨g, cap, cur, rfl, _, hg', _⟩
    · simp [Value.ownBlock] at e
    · simp only [Value.ownBlock, Option.some.injEq] at e
      subst e
      rw [h.box] at hg'
      simp at hg'
  have hbox6 : w6.heap[gC]? = some (.cells #[.int .i64 a, hv] 99 (0, 0)) := by
    rw [hg.by.block gC (by rw [hV]; simp; omega) (fun e => hne e.symm), hV, Below.heap_alloc W o gC hlt]
    exact h.box
  have hne' : v'.ownBlock ≠ some gC := fun e => by
    rcases ho.2 with ⟨rfl, _⟩ | ⟨g, cap, cur, rfl, _, hg', _⟩
    · simp [Value.ownBlock] at e
    · simp only [Value.ownBlock, Option.some.injEq] at e
      subst e
      rw [hbox6] at hg'
      simp at hg'
  refine ⟨by unfold World.cell?; simp only [hbox6]; rfl, by unfold World.frozen?; simp [hbox6], ?_, ?_, ?_⟩
  · have hbA : Below gC wC (W.alloc o) := h.bel.alloc (Nat.le_trans hCs h.bel.size) _
    have hbV : Below gC wC V := ⟨h1.trans h.bel.os, h2.trans h.bel.tape, h3.trans h.bel.output, by rw [hV]; exact hbA.size, fun k hk => by rw [hV]; exact hbA.block k hk⟩
    have hb6 : Below gC wC w6 := hbV.grown hg.by (by have := h.bel.size; rw [hV]; simp; omega) (fun j hj => (h.own.lt j hj).1)
    exact hb6.setCell (p := ⟨gC, 1, none⟩) (Nat.le_refl _) _
  · rw [heap_setCell_at _ hbox6]
    rfl
  · have e : ci (l ++ [x]) = ci l ++ [(x : Int)] := by simp [ci]
    rw [e]
    exact ho.move fun k hk => setCell_others _ _ _ _ k (fun q => hne' (by rw [← q]; exact hk))

theorem Cst.new (W : World) (a : Int) : Cst W W.heap.size a (.slice none 0 0) [] (W.alloc (.cells #[.int .i64 a, .slice none 0 0] 99)) :=
  ⟨(Below.refl _ _).alloc (Nat.le_refl _) _, heap_alloc_new W _, World.ownsRow_nil _ _ _ _⟩

/-- What a round of the joining loop needs. -/
structure Rw1d (gC : Nat) (w7 : World) (hv : Value) (L : List Nat) (x : Nat) (a : Int) (wr : World) : Prop where
  row : ∀ W : World, W.heap = (wr.alloc (.cells #[.int .i64 (x : Int)] 3)).heap → OI W gC hv (ci L)
  src : ∀ W : World, W.heap = (wr.alloc (.cells #[.int .i64 (x : Int)] 3)).heap → Src Tryd.prog 1 24 (.slice (some ⟨wr.heap.size, 0, none⟩) 1 1) ([(x : Int)] : List Int).length (([(x : Int)] : List Int).map (Value.int .i64)) W
  siz : ∀ W : World, W.heap = (wr.alloc (.cells #[.int .i64 (x : Int)] 3)).heap → gC ≤ W.heap.size
  app : ∀ (V w6 : World) (v' : Value), V.heap = (wr.alloc (.cells #[.int .i64 (x : Int)] 3)).heap → V.os = wr.os → V.tape = wr.tape → V.output = wr.output → OI w6 gC v' (ci L ++ [(x : Int)]) → Grew V w6 hv v' → w6.cell? ⟨gC, 1, none⟩ = some hv ∧ w6.frozen? ⟨gC, 1, none⟩ = false ∧ Cst w7 gC a v' (L ++ [x]) (w6.setCell ⟨gC, 1, none⟩ v')

theorem Cst.rw1d {w7 wr : World} {a : Int} {hv : Value} {L : List Nat} (h : Cst w7 w7.heap.size a hv L wr) (x : Nat) : Rw1d w7.heap.size w7 hv L x a wr :=
  ⟨fun W hW => h.own.move fun k hk => by rw [hW]; exact Below.heap_alloc _ _ k (h.own.lt k hk).2, fun W hW => ((one_oi wr (x : Int)).move (w' := W) fun k hk => by rw [hW]).sb.src, fun W hW => by rw [hW]; have := h.cells.2.2.2; simp; omega, fun V w6 v' e1 e2 e3 e4 ho hg => h.app2 x (Nat.le_refl _) e1 e2 e3 e4 ho hg⟩

/-- The lengths of what the joined node holds go up one by one. -/
structure Est (w : World) (B n gC : Nat) (lv u hv : Value) (M : List Mnd) (len : Nat → Nat) (S : List Nat) (a : Int) (W : World) : Prop where
  d : Dst w B n lv u M len W
  box : W.heap[gC]? = some (.cells #[.int .i64 a, hv] 99 (0, 0))
  own : OI W gC hv (ci S)

theorem Est.bump {w : World} {B n gC gl c s : Nat} {u hv : Value} {M : List Mnd} {len : Nat → Nat} {S : List Nat} {a : Int} {W : World} (h : Est w B n gC (.slice (some ⟨gl, 0, none⟩) n c) u hv M len S a W) (hlt : gl < B) (hB : B ≤ gC) (hs : s < n) (m : Int) (H' : Nat → Nat) (hH : (hls n len).set s m = hls n H') :
    Est w B n gC (.slice (some ⟨gl, 0, none⟩) n c) u hv M H' S a (W.setCell ⟨gl, s, none⟩ (.int .i64 m)) := by
  have mv : ∀ k, gC ≤ k → (W.setCell ⟨gl, s, none⟩ (.int .i64 m)).heap[k]? = W.heap[k]? := fun k hk => setCell_others _ _ _ _ k (by show k ≠ gl; omega)
  exact ⟨(h.d.bump hlt hs).2.2 m H' hH, by rw [mv _ (Nat.le_refl _)]; exact h.box, h.own.move fun k hk => mv k (h.own.lt k hk).1⟩

theorem Est.cells {w : World} {B n gC : Nat} {lv u hv : Value} {M : List Mnd} {len : Nat → Nat} {S : List Nat} {a : Int} {W : World} (h : Est w B n gC lv u hv M len S a W) : W.cell? ⟨gC, 0, none⟩ = some (.int .i64 a) ∧ W.cell? ⟨gC, 1, none⟩ = some hv ∧ gC < W.heap.size := by
  have hlt : gC < W.heap.size := (Array.getElem?_eq_some_iff.1 h.box).1
  refine ⟨?_, ?_, hlt⟩
  · unfold World.cell?; simp only [h.box]; rfl
  · unfold World.cell?; simp only [h.box]; rfl

theorem bmp_none (len : Nat → Nat) (S : List Nat) : bmp len (S.take 0) = len := by
  funext s
  simp [bmp]

end Go.Proofs.YtbbbonphmffokabDoor

