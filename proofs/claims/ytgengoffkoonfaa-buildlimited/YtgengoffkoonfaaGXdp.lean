import Derived.Test.YtgengoffkoonfaaGXdn
namespace Go.Proofs.Ytgengoffkoonfaa
open Go.RowKit Go.Maps
set_option maxRecDepth 20000
set_option linter.unusedVariables false
set_option linter.unusedSimpArgs false

theorem OI.shp {w : World} {base : Nat} {v : Value} {l : List Int} (h : OI w base v l) : ∃ a n c, v = .slice a n c := by
  obtain ⟨a, c, rfl⟩ := h.shape
  exact ⟨_, _, _, rfl⟩

theorem one_oi (W : World) (x : Int) : OI (W.alloc (.cells #[.int .i64 x] 3)) 0 (.slice (some ⟨W.heap.size, 0, none⟩) 1 1) [x] := by
  have := OI.of_full (w := W.alloc (.cells #[.int .i64 x] 3)) (base := 0) (g := W.heap.size) (l := [x]) (heap_alloc_new W _) (Nat.zero_le _) (by unfold maxLen; simp)
  exact this

/-- One more leaf. -/
theorem Dst.leaf {w : World} {B n : Nat} {lv u v3 : Value} {M : List Mnd} {len : Nat → Nat} {W w3 : World} {s f : Nat} {o : Obj} (h : Dst w B n lv u M len W) (hB : w.heap.size ≤ B) (hW : B ≤ W.heap.size) (hl : ∀ k, lv.ownBlock = some k → k < B)
    (ho : ON w3 B v3 (M ++ [((f, [s]), .slice (some ⟨W.heap.size, 0, none⟩) 1 1)])) (hg : ((W.alloc (.cells #[.int .i64 (s : Int)] 3)).alloc o).grownBy w3 u.ownBlock) :
    Dst w B n lv v3 (M ++ [((f, [s]), .slice (some ⟨W.heap.size, 0, none⟩) 1 1)]) len w3 := by
  have hb1 : Below B W (W.alloc (.cells #[.int .i64 (s : Int)] 3)) := (Below.refl B W).alloc hW _
  have hb2 : Below B W ((W.alloc (.cells #[.int .i64 (s : Int)] 3)).alloc o) := hb1.alloc (by simp; omega) _
  have hb3 : Below B W w3 := hb2.grown hg (by simp; omega) (fun j hj => (h.on.lt j hj).1)
  refine ⟨ho, fun p hp k hk => ?_, h.le.move fun k hk => hb3.block k (hl k hk), h.bl.trans (hb3.mono hB)⟩
  rcases List.mem_append.1 hp with hp | hp
  · exact h.ap p hp k hk
  · rw [List.mem_singleton.1 hp] at hk
    simp only [Value.ownBlock, Option.some.injEq] at hk
    omega

theorem Dst.pop {w : World} {B n i : Nat} {lv u v5 : Value} {M : List Mnd} {len : Nat → Nat} {W w5 : World} {o : Obj} (h : Dst w B n lv u M len W) (hw : w.heap.size ≤ W.heap.size) (hB : B ≤ W.heap.size)
    (hon : ON w5 (W.alloc o).heap.size v5 (M.eraseIdx i)) (hb : Below (W.alloc o).heap.size (W.alloc o) w5) :
    Dst w B n lv v5 (M.eraseIdx i) len w5 ∧ Below W.heap.size W w5 ∧ w5.heap[W.heap.size]? = some o ∧ W.heap.size < w5.heap.size := by
  have h1 : Below W.heap.size W (W.alloc o) := (Below.refl _ _).alloc (Nat.le_refl _) _
  have h2 : Below W.heap.size W w5 := h1.trans (hb.mono (by simp))
  have h3 := hb.size
  refine ⟨⟨hon.base (by simp; omega), fun p hp => h.ap p (List.mem_of_mem_eraseIdx hp), h.le.below h2 (Nat.le_refl _), h.bl.trans (h2.mono hw)⟩, h2, ?_, by simp at h3; omega⟩
  rw [hb.block _ (by simp)]
  exact heap_alloc_new W o

theorem Dst.below {w : World} {B n : Nat} {lv u : Value} {M : List Mnd} {len : Nat → Nat} {W W' : World} (h : Dst w B n lv u M len W) (hb : Below W.heap.size W W') (hw : w.heap.size ≤ W.heap.size) : Dst w B n lv u M len W' :=
  ⟨h.on.below hb (Nat.le_refl _), h.ap, h.le.below hb (Nat.le_refl _), h.bl.trans (hb.mono hw)⟩

theorem Dst.bump {w : World} {B n gl c s : Nat} {u : Value} {M : List Mnd} {len : Nat → Nat} {W : World} (h : Dst w B n (.slice (some ⟨gl, 0, none⟩) n c) u M len W) (hlt : gl < B) (hs : s < n) :
    W.cell? ⟨gl, s, none⟩ = some (.int .i64 (len s : Int)) ∧ W.frozen? ⟨gl, s, none⟩ = false ∧ ∀ (m : Int) (H' : Nat → Nat), (hls n len).set s m = hls n H' → Dst w B n (.slice (some ⟨gl, 0, none⟩) n c) u M H' (W.setCell ⟨gl, s, none⟩ (.int .i64 m)) := by
  have h1 := h.le.get (b := gl) rfl (i := s) (by rw [hls_len]; exact hs)
  rw [hls_get len hs] at h1
  refine ⟨h1, (h.le.putg (k := s) (by rw [hls_len]; exact hs) 0).2.1, fun m H' hH => ?_⟩
  have h2 := (h.le.putg (k := s) (by rw [hls_len]; exact hs) m).2.2
  rw [hH] at h2
  have mv : ∀ k, B ≤ k → (W.setCell ⟨gl, s, none⟩ (.int .i64 m)).heap[k]? = W.heap[k]? := fun k hk => setCell_others _ _ _ _ k (by show k ≠ gl; omega)
  exact ⟨⟨rown_move h.on.row fun k hk => mv k (h.on.lt k hk).1, fun p hp => (h.on.holds p hp).move fun k hk => mv k (h.ap p hp k hk)⟩, h.ap, h2, h.bl.setCell (p := ⟨gl, s, none⟩) (h.le.lt gl rfl).1 _⟩

theorem Dst.node {w : World} {B n : Nat} {lv u v3 : Value} {M : List Mnd} {p : Mnd} {len : Nat → Nat} {W w3 : World} {o : Obj} (h : Dst w B n lv u M len W) (hB : w.heap.size ≤ B) (hW : B ≤ W.heap.size) (hl : ∀ k, lv.ownBlock = some k → k < B)
    (hp : ∀ k, p.2.ownBlock = some k → B ≤ k) (ho : ON w3 B v3 (M ++ [p])) (hg : (W.alloc o).grownBy w3 u.ownBlock) : Dst w B n lv v3 (M ++ [p]) len w3 := by
  have hb2 : Below B W (W.alloc o) := (Below.refl B W).alloc hW _
  have hb3 : Below B W w3 := hb2.grown hg (by simp; omega) (fun j hj => (h.on.lt j hj).1)
  refine ⟨ho, fun q hq k hk => ?_, h.le.move fun k hk => hb3.block k (hl k hk), h.bl.trans (hb3.mono hB)⟩
  rcases List.mem_append.1 hq with hq | hq
  · exact h.ap q hq k hk
  · rw [List.mem_singleton.1 hq] at hk
    exact hp k hk

/-- One more is held, in a world that differs by its draws. -/
theorem Cst.app2 {wC : World} {gC : Nat} {a : Int} {hv v' : Value} {l : List Nat} {W V w6 : World} {o : Obj} (h : Cst wC gC a hv l W) (x : Nat) (hCs : gC ≤ wC.heap.size) (hV : V.heap = (W.alloc o).heap) (h1 : V.os = W.os) (h2 : V.tape = W.tape) (h3 : V.output = W.output) (ho : OI w6 gC v' (ci l ++ [(x : Int)])) (hg : Grew V w6 hv v') : w6.cell? ⟨gC, 1, none⟩ = some hv ∧ w6.frozen? ⟨gC, 1, none⟩ = false ∧ Cst wC gC a v' (l ++ [x]) (w6.setCell ⟨gC, 1, none⟩ v') := by
  have hlt := h.cells.2.2.2
  have hne : hv.ownBlock ≠ some gC := fun e => by
    rcases h.own.2 with ⟨rfl, _⟩ | ⟨g, cap, cur, rfl, _, hg', _⟩
    · simp [Value.ownBlock] at e
    · simp only [Value.ownBlock, Option.some.injEq] at e
      subst e
      rw [h.box] at hg'
      simp at hg'
  have hbox6 : w6.heap[gC]? = some (.cells #[.int .i64 a, hv] 51 (0, 0)) := by
    rw [hg.by.block gC (by rw [hV]; simp; omega) (fun e => hne e.symm), hV, Below.heap_alloc W o gC hlt]
    exact h.box
  have hne' : v'.ownBlock ≠ some gC := fun e => by
    rcases ho.2 with ⟨rfl, _⟩ | ⟨g, cap, cur, rfl, _, hg', _⟩
    · simp [Value.ownBlock] at e
    · simp only [Value.ownBlock, Option.some.injEq] at e
      subst e
      rw [hbox6] at hg'
      simp at hg'
  refine ⟨by unfold World.cell?; simp only [hbox6]; rfl, by unfold World.frozen?; simp [hbox6], ?_, ?_, ?_⟩
  · have hbA : Below gC wC (W.alloc o) := h.bel.alloc (Nat.le_trans hCs h.bel.size) _
    have hbV : Below gC wC V := ⟨h1.trans h.bel.os, h2.trans h.bel.tape, h3.trans h.bel.output, by rw [hV]; exact hbA.size, fun k hk => by rw [hV]; exact hbA.block k hk⟩
    have hb6 : Below gC wC w6 := hbV.grown hg.by (by have := h.bel.size; rw [hV]; simp; omega) (fun j hj => (h.own.lt j hj).1)
    exact hb6.setCell (p := ⟨gC, 1, none⟩) (Nat.le_refl _) _
  · rw [heap_setCell_at _ hbox6]
    rfl
  · have e : ci (l ++ [x]) = ci l ++ [(x : Int)] := by simp [ci]
    rw [e]
    exact ho.move fun k hk => setCell_others _ _ _ _ k (fun q => hne' (by rw [← q]; exact hk))

theorem Cst.new (W : World) (a : Int) : Cst W W.heap.size a (.slice none 0 0) [] (W.alloc (.cells #[.int .i64 a, .slice none 0 0] 51)) :=
  ⟨(Below.refl _ _).alloc (Nat.le_refl _) _, heap_alloc_new W _, World.ownsRow_nil _ _ _ _⟩

/-- What a round of the joining loop needs. -/
structure Rw1d (gC : Nat) (w7 : World) (hv : Value) (L : List Nat) (x : Nat) (a : Int) (wr : World) : Prop where
  row : ∀ W : World, W.heap = (wr.alloc (.cells #[.int .i64 (x : Int)] 3)).heap → OI W gC hv (ci L)
  src : ∀ W : World, W.heap = (wr.alloc (.cells #[.int .i64 (x : Int)] 3)).heap → Src Try.prog 1 22 (.slice (some ⟨wr.heap.size, 0, none⟩) 1 1) ([(x : Int)] : List Int).length (([(x : Int)] : List Int).map (Value.int .i64)) W
  siz : ∀ W : World, W.heap = (wr.alloc (.cells #[.int .i64 (x : Int)] 3)).heap → gC ≤ W.heap.size
  app : ∀ (V w6 : World) (v' : Value), V.heap = (wr.alloc (.cells #[.int .i64 (x : Int)] 3)).heap → V.os = wr.os → V.tape = wr.tape → V.output = wr.output → OI w6 gC v' (ci L ++ [(x : Int)]) → Grew V w6 hv v' → w6.cell? ⟨gC, 1, none⟩ = some hv ∧ w6.frozen? ⟨gC, 1, none⟩ = false ∧ Cst w7 gC a v' (L ++ [x]) (w6.setCell ⟨gC, 1, none⟩ v')

theorem Cst.rw1d {w7 wr : World} {a : Int} {hv : Value} {L : List Nat} (h : Cst w7 w7.heap.size a hv L wr) (x : Nat) : Rw1d w7.heap.size w7 hv L x a wr :=
  ⟨fun W hW => h.own.move fun k hk => by rw [hW]; exact Below.heap_alloc _ _ k (h.own.lt k hk).2, fun W hW => ((one_oi wr (x : Int)).move (w' := W) fun k hk => by rw [hW]).sb.src, fun W hW => by rw [hW]; have := h.cells.2.2.2; simp; omega, fun V w6 v' e1 e2 e3 e4 ho hg => h.app2 x (Nat.le_refl _) e1 e2 e3 e4 ho hg⟩

/-- The lengths of what the joined node holds go up one by one. -/
structure Est (w : World) (B n gC : Nat) (lv u hv : Value) (M : List Mnd) (len : Nat → Nat) (S : List Nat) (a : Int) (W : World) : Prop where
  d : Dst w B n lv u M len W
  box : W.heap[gC]? = some (.cells #[.int .i64 a, hv] 51 (0, 0))
  own : OI W gC hv (ci S)

theorem Est.bump {w : World} {B n gC gl c s : Nat} {u hv : Value} {M : List Mnd} {len : Nat → Nat} {S : List Nat} {a : Int} {W : World} (h : Est w B n gC (.slice (some ⟨gl, 0, none⟩) n c) u hv M len S a W) (hlt : gl < B) (hB : B ≤ gC) (hs : s < n) (m : Int) (H' : Nat → Nat) (hH : (hls n len).set s m = hls n H') :
    Est w B n gC (.slice (some ⟨gl, 0, none⟩) n c) u hv M H' S a (W.setCell ⟨gl, s, none⟩ (.int .i64 m)) := by
  have mv : ∀ k, gC ≤ k → (W.setCell ⟨gl, s, none⟩ (.int .i64 m)).heap[k]? = W.heap[k]? := fun k hk => setCell_others _ _ _ _ k (by show k ≠ gl; omega)
  exact ⟨(h.d.bump hlt hs).2.2 m H' hH, by rw [mv _ (Nat.le_refl _)]; exact h.box, h.own.move fun k hk => mv k (h.own.lt k hk).1⟩

theorem Est.cells {w : World} {B n gC : Nat} {lv u hv : Value} {M : List Mnd} {len : Nat → Nat} {S : List Nat} {a : Int} {W : World} (h : Est w B n gC lv u hv M len S a W) : W.cell? ⟨gC, 0, none⟩ = some (.int .i64 a) ∧ W.cell? ⟨gC, 1, none⟩ = some hv ∧ gC < W.heap.size := by
  have hlt : gC < W.heap.size := (Array.getElem?_eq_some_iff.1 h.box).1
  refine ⟨?_, ?_, hlt⟩
  · unfold World.cell?; simp only [h.box]; rfl
  · unfold World.cell?; simp only [h.box]; rfl

theorem bmp_none (len : Nat → Nat) (S : List Nat) : bmp len (S.take 0) = len := by
  funext s
  simp [bmp]

set_option maxHeartbeats 4000000 in
theorem xdepths_any (v : Value) (l : List Int) (w : World) (h : SI w v l) :
    Calls Try.prog 20 #[v] w fun e w' => ∃ a c, e = .returned (.tuple #[.slice a (dptL l).length c, .int .i64 (dptE l)]) ∧ OI w' w.heap.size (.slice a (dptL l).length c) (dptL l) ∧ Below w.heap.size w w' := by
  have HS := hide h
  obtain ⟨ao, cap, rfl, hlc, hcm⟩ := h.open
  clear h
  by_cases h1 : 288 < l.length
  · have h1' : (288 : Int) < (l.length : Int) := by omega
    have HE : Hid (dptE l = 1) := if_pos h1
    have HV : Hid (dptL l = []) := if_neg (by rw [HE.out]; decide)
    rw [HE.out, HV.out]
    go_enter Try.func20, Try.ntmps20
    go_wp2
    go_ret2
    exact ⟨none, 0, rfl, World.ownsRow_nil _ _ _ _, Below.refl _ _⟩
  have h1' : ¬ (288 : Int) < (l.length : Int) := by omega
  cases hw : bnb l 4294967296 with
  | false =>
    have HE : Hid (dptE l = 61) := by show dptE l = 61; unfold dptE; rw [if_neg h1, if_pos hw]
    have HV : Hid (dptL l = []) := if_neg (by rw [HE.out]; decide)
    rw [HE.out, HV.out]
    have HW := hide hw
    clear hw
    go_enter Try.func20, Try.ntmps20
    go_wp2_with fail
    refine (weighs_any _ l _ HS.out).mono ?_
    rintro e w1 ⟨rfl, rfl⟩
    rw [HW.out]
    go_wp2
    go_ret2
    exact ⟨none, 0, rfl, World.ownsRow_nil _ _ _ _, Below.refl _ _⟩
  | true =>
    have HE : Hid (dptE l = 0) := by show dptE l = 0; unfold dptE; rw [if_neg h1, if_neg (by rw [hw]; decide)]
    have HV : Hid (dptL l = dpt l) := if_pos HE.out
    rw [HE.out, HV.out, dpt_len]
    have HW := hide hw
    have hbn := bnb_iff.1 hw
    have HNF := hide (Nst.first hbn (by omega))
    have HFQ : Hid (∀ s ∈ us l, l.getD s 0 = (fq l s : Int) ∧ s < l.length) := fun s hs => by
      have := mem_us.1 hs
      exact ⟨by unfold fq; omega, this.1⟩
    have hul := us_le (l := l)
    clear hw hbn
    go_enter Try.func20, Try.ntmps20
    go_wp2_with fail
    refine (weighs_any _ l _ HS.out).mono ?_
    rintro e w1 ⟨rfl, rfl⟩
    rw [HW.out]
    go_wp2_with fail
    refine (zeros_any l.length _ (by omega)).mono ?_
    rintro e w2 ⟨a2, c2, rfl, ho2, hb2⟩
    have HO2 := hide ho2
    have HB2 := hide hb2
    have HS2 := hide (HS.out.below hb2)
    clear ho2 hb2
    go_wp2_with fail
    refine (xused_any _ l _ HS2.out (by omega)).mono ?_
    rintro e w3 ⟨a3, c3, rfl, ho3, hb3⟩
    have HO3 := hide ho3
    have HB23 := hide hb3
    have HB3 := hide (HB2.out.trans (hb3.mono HB2.out.size))
    have HO23 := hide (HO2.out.below hb3 (Nat.le_refl _))
    have HS3 := hide (HS2.out.below hb3)
    clear ho3 hb3
    by_cases hu1 : (us l).length = 1
    · obtain ⟨s0, hs0⟩ := List.length_eq_one_iff.1 hu1
      have hu1' : (((us l).length : Int) == 1) = true := by rw [hu1]; rfl
      have hfq := HFQ.out s0 (by rw [hs0]; simp)
      obtain ⟨g3, d3, hv3, hc3⟩ := HO3.out.form (by rw [ci_len]; omega)
      have hc30 := HO3.out.get (b := g3) (by rw [hv3]; rfl) (i := 0) (by rw [ci_len]; omega)
      rw [hs0] at hc30
      have hc3' : w3.cell? ⟨g3, 0, none⟩ = some (.int .i64 (s0 : Int)) := hc30
      simp only [Value.slice.injEq] at hv3
      obtain ⟨rfl, -, rfl⟩ := hv3
      obtain ⟨g2, d2, hv2, hc2⟩ := HO23.out.form (by rw [List.length_replicate]; omega)
      simp only [Value.slice.injEq] at hv2
      obtain ⟨rfl, -, rfl⟩ := hv2
      obtain ⟨⟨y, hy⟩, hfz, hox⟩ := HO23.out.putg (k := s0) (by rw [List.length_replicate]; exact hfq.2) 1
      have hs0l : (s0 : Int) < (l.length : Int) := by omega
      have hu1'' : ((us l).length : Int) = 1 := by omega
      have HF : Hid (OI (w3.setCell ⟨g2, s0, none⟩ (.int .i64 1)) w1.heap.size (.slice (some ⟨g2, 0, none⟩) l.length c2) (dpt l) ∧ Below w1.heap.size w1 (w3.setCell ⟨g2, s0, none⟩ (.int .i64 1))) := by
        refine ⟨?_, HB3.out.setCell (p := ⟨g2, s0, none⟩) hc2.1 _⟩
        have e : (List.replicate l.length (0 : Int)).set s0 1 = dpt l := by
          rw [← dpt_few (by omega), hs0]
          apply List.ext_getElem
          · simp [spr]
          · intro i h1 h2
            rw [List.getElem_set]
            simp [spr, eq_comm]
        rw [← e]
        exact hox
      clear hc30 hox hc2 hc3
      go_wp2
      go_ret2
      exact ⟨_, _, rfl, HF.out.1, HF.out.2⟩
    · have hu1' : (((us l).length : Int) == 1) = false := by simp; omega
      have hu1'' : ¬ ((us l).length : Int) = 1 := by omega
      have HLB : Hid (∀ k, (Value.slice a2 l.length c2).ownBlock = some k → k < w3.heap.size) := fun k hk => (HO23.out.lt k hk).2
      have hB13 := HB3.out.size
      have HZ : Hid (hls l.length (fun _ => 0) = List.replicate l.length 0) := hls_zero _
      have HFF : Hid (∀ s, dp l s = hrun ((us l).length - 1) (leafs (fq l) (us l)) (fun _ => 0) s) := fun s => if_neg hu1
      go_wp2
      go_loopw [7, 8] (fun u vi wr => ∃ k M, k ≤ (us l).length ∧ vi = .int .i64 (k : Int) ∧ Hid (Dst w1 w3.heap.size l.length (.slice a2 l.length c2) u M (fun _ => 0) wr) ∧ Hid (mro M = leafs (fq l) ((us l).take k)) ∧ Hid (Below w3.heap.size w3 wr)) (fun _ vi _ => (us l).length - (intOf vi).toNat)
      case atStart => exact ⟨0, [], Nat.zero_le _, rfl, ⟨⟨World.ownsRow_nil _ _ _ _, fun p hp => by simp at hp⟩, fun p hp => by simp at hp, by rw [HZ.out]; exact HO23.out, HB3.out⟩, rfl, Below.refl _ _⟩
      case round =>
        obtain ⟨k, M, hk, rfl, HD, HM, HBW⟩ := hrel
        by_cases hlt : k < (us l).length
        · have hlt' : (k : Int) < ((us l).length : Int) := by omega
          have hMl : M.length ≤ 288 := by
            have := congrArg List.length HM.out
            rw [mro_len, leafs_len, List.length_take] at this
            omega
          obtain ⟨g3, d3, hv3, hc3⟩ := HO3.out.form (by rw [ci_len]; omega)
          have hc30 := (HO3.out.below HBW.out (Nat.le_refl _)).get (b := g3) (by rw [hv3]; rfl) (i := k) (by rw [ci_len]; omega)
          rw [ci_get] at hc30
          have hfq := HFQ.out ((us l).getD k 0) (getD_mem hlt)
          have HTK : Hid ((us l).take (k + 1) = (us l).take k ++ [(us l).getD k 0]) := by
            show _ = _
            rw [List.take_succ_eq_append_getElem hlt]
            simp [hlt]
          obtain ⟨s, hs⟩ : ∃ s, s = (us l).getD k 0 := ⟨_, rfl⟩
          rw [← hs] at hfq hc30 HTK
          obtain ⟨b, o, rfl, hcs⟩ := HS3.out.get HBW.out (k := s) hfq.2
          rw [hfq.1] at hcs
          obtain ⟨f, HFE⟩ : ∃ f, Hid (f = fq l s) := ⟨_, hide rfl⟩
          rw [← HFE.out] at hcs
          have hsl : (s : Int) < (l.length : Int) := by omega
          simp only [Value.slice.injEq] at hv3
          obtain ⟨rfl, -, rfl⟩ := hv3
          obtain ⟨a1, p1, hu, _⟩ := HD.out.on.shape
          subst hu
          have hsz := HBW.out.size
          have HNO : Hid (ON (wr.alloc (.cells #[.int .i64 (s : Int)] 3)) w3.heap.size (.slice a1 M.length p1) M) := HD.out.on.alloc _
          have HHO := hide (one_oi wr (s : Int))
          clear hfq hc3 hs
          go_wp2_with (at_builtin; refine wpNode rfl _ _ rfl w3.heap.size (.slice a1 M.length p1) M ((f, [s]), .slice (some ⟨wr.heap.size, 0, none⟩) 1 1) _ rfl HHO.out rfl HNO.out 1 (by simp [Act.eval]) (by omega) (by simp; omega) ?_)
          intro v4 w4 ho4 hg4
          have HD4 : Hid (Dst w1 w3.heap.size l.length (.slice a2 l.length c2) v4 (M ++ [((f, [s]), .slice (some ⟨wr.heap.size, 0, none⟩) 1 1)]) (fun _ => 0) w4) := HD.out.leaf hB13 (by omega) HLB.out ho4 hg4
          have HM4 : Hid (mro (M ++ [((f, [s]), .slice (some ⟨wr.heap.size, 0, none⟩) 1 1)]) = leafs (fq l) ((us l).take (k + 1))) := by
            show _ = _
            rw [HTK.out, leafs_snoc, ← HM.out, HFE.out]
            simp [mro]
          have HB4 : Hid (Below w3.heap.size w3 w4) := grow_node (HBW.out.alloc hsz _) (Nat.le_refl _) HNO.out hg4
          clear ho4 hg4
          go_wp2
          go_roundw
          case rel => exact ⟨k + 1, _, by omega, by go_num, HD4, HM4, HB4⟩
          case measure => simp [intOf]; omega
        · obtain rfl : k = (us l).length := by omega
          have hlt' : ¬ ((us l).length : Int) < ((us l).length : Int) := by omega
          have HM0 : Hid (mro M = leafs (fq l) (us l)) := by
            have := HM.out
            rwa [List.take_of_length_le (Nat.le_refl _)] at this
          have HST : Hid (∃ M' len, Dst w1 w3.heap.size l.length (.slice a2 l.length c2) u7 M' len wr ∧ Nst l.length (mro M') len ∧ hrun (M'.length - 1) (mro M') len = dp l) := by
            refine ⟨M, _, HD.out, by rw [HM0.out]; exact HNF.out, funext fun s => ?_⟩
            rw [HFF.out, ← mro_len, HM0.out, leafs_len]
          clear HD HM HBW HM0 HNF HFF HFQ hlt HO3 HO23 HS2 HS3 HO2
          go_wp2
          go_loopw [7] (fun u wr => Hid (∃ M len, Dst w1 w3.heap.size l.length (.slice a2 l.length c2) u M len wr ∧ Nst l.length (mro M) len ∧ hrun (M.length - 1) (mro M) len = dp l)) (fun u _ => slen u)
          case atStart => exact HST
          case round =>
            clear HST
            obtain ⟨M, len, hD, hN, hR⟩ := hrel.out
            clear hrel
            have HD := hide hD
            have HN := hide hN
            have HR := hide hR
            obtain ⟨a1, p1, hu, _⟩ := hD.on.shape
            subst hu
            clear hD hN hR
            by_cases hM2 : 2 ≤ M.length
            · have hM2' : (2 : Int) ≤ (M.length : Int) := by omega
              have hMl : M.length ≤ 289 := by have := HN.out.ln 0; rw [mro_len] at this; omega
              go_wp2_with fail
              refine (lightest_any _ M _ _ HD.out.on (by omega) (by omega)).mono ?_
              rintro e w4 ⟨rfl, q4, hq4⟩
              have HD4 : Hid (Dst w1 w3.heap.size l.length (.slice a2 l.length c2) (.slice a1 M.length p1) M len w4) := by rw [hq4]; exact HD.out.drewN q4
              clear hq4 HD
              obtain ⟨i, HI⟩ : ∃ i, Hid (i = lgt (mro M)) := ⟨_, hide rfl⟩
              rw [← HI.out]
              have hi : i < M.length := by rw [HI.out, ← mro_len]; exact lgt_lt (by rw [mro_len]; omega)
              have hi' : (i : Int) < (M.length : Int) := by omega
              obtain ⟨g, c, hv, x1, x2⟩ := HD4.out.on.get (i := i) hi
              simp only [Value.slice.injEq] at hv
              obtain ⟨rfl, -, rfl⟩ := hv
              have hho := HD4.out.on.holds _ (md_mem hi)
              obtain ⟨p, HP⟩ : ∃ p, Hid (p = M.getD i mn0) := ⟨_, hide rfl⟩
              rw [← HP.out] at x1 x2 hho
              obtain ⟨⟨pw, ph⟩, pv⟩ := p
              obtain ⟨ap, cp, hpv⟩ := hho.shape
              rw [ci_len] at hpv
              have hpv' : pv = .slice ap ph.length cp := hpv
              subst hpv'
              have x1' : w4.cell? ⟨g, i * 2, none⟩ = some (.int .i64 (pw : Int)) := x1
              have x2' : w4.cell? ⟨g, i * 2 + 1, none⟩ = some (.slice ap ph.length cp) := x2
              have HHA : Hid (OI w4 0 (.slice ap ph.length cp) (ci ph)) := hho
              clear hho hpv x1 x2
              have HPF : Hid ((pw, ph) = fir (mro M)) := by
                show _ = _
                unfold fir
                rw [← HI.out, mro_get, ← HP.out]
              have hsz4 : w3.heap.size ≤ w4.heap.size := by have := HD4.out.on.lt g rfl; omega
              have hw14 := HD4.out.bl.size
              go_wp2_with fail
              refine (without_any _ M i _ _ (HD4.out.on.alloc _) (by omega) (by omega)).mono ?_
              rintro e w5 ⟨v5, rfl, ho5, hb5⟩
              obtain ⟨hD5, hB45, hbx5, hgA⟩ := HD4.out.pop hw14 hsz4 ho5 hb5
              obtain ⟨M1, HM1⟩ : ∃ M1, Hid (M1 = M.eraseIdx i) := ⟨_, hide rfl⟩
              rw [← HM1.out] at hD5
              have HW1 : Hid (mro M1 = wo (mro M)) := by
                show _ = _
                rw [HM1.out]
                unfold wo mro
                rw [erase_map]
                rw [HI.out]
                rfl
              have hM1l : M1.length = M.length - 1 := by rw [← mro_len, HW1.out, wo_len (by rw [mro_len]; omega), mro_len]
              have HD5 := hide hD5
              have HB45 := hide hB45
              have HBX5 := hide hbx5
              have HHA5 := hide (HHA.out.below hB45 (Nat.le_refl _))
              obtain ⟨a5, p5, hu5, _⟩ := hD5.on.shape
              subst hu5
              clear hD5 hB45 hbx5 ho5 hb5 HHA HD4 x1' x2' HM1 HP
              obtain ⟨m1, hm1⟩ : ∃ m, m = M1.length := ⟨_, rfl⟩
              have hm1' : M1.length = m1 := hm1.symm
              rw [hm1'] at HD5 ⊢
              rw [hm1'] at hM1l
              have hM1a : m1 + 1 ≤ M.length ∧ M.length ≤ m1 + 1 := by omega
              clear hm1 hM1l
              go_wp2_with fail
              refine (lightest_any _ M1 _ _ HD5.out.on (by omega) (by omega)).mono ?_
              rintro e w6 ⟨rfl, q6, hq6⟩
              have HD6 : Hid (Dst w1 w3.heap.size l.length (.slice a2 l.length c2) (.slice a5 m1 p5) M1 len w6) := by rw [hq6]; exact HD5.out.drewN q6
              have HB46 : Hid (Below w4.heap.size w4 w6) := by rw [hq6]; exact below_drewN HB45.out q6
              have HBX6 : Hid (w6.heap[w4.heap.size]? = some (.cells #[.int .i64 (pw : Int), .slice ap ph.length cp] 51)) := by rw [hq6]; exact HBX5.out
              have HHA6 : Hid (OI w6 0 (.slice ap ph.length cp) (ci ph)) := by rw [hq6]; exact HHA5.out.move fun _ _ => rfl
              have hgA6 : w4.heap.size < w6.heap.size := by rw [hq6]; exact hgA
              clear hq6 HD5 HB45 HBX5 HHA5 hgA
              obtain ⟨j, HJ⟩ : ∃ i, Hid (i = lgt (mro M1)) := ⟨_, hide rfl⟩
              rw [← HJ.out]
              have hj : j < M1.length := by rw [HJ.out, ← mro_len]; exact lgt_lt (by rw [mro_len]; omega)
              have hj' : (j : Int) < (m1 : Int) := by omega
              obtain ⟨g5, c5, hv5, y1, y2⟩ := HD6.out.on.get (i := j) hj
              simp only [Value.slice.injEq] at hv5
              obtain ⟨rfl, -, rfl⟩ := hv5
              have hho := HD6.out.on.holds _ (md_mem hj)
              obtain ⟨p, HP⟩ : ∃ p, Hid (p = M1.getD j mn0) := ⟨_, hide rfl⟩
              rw [← HP.out] at y1 y2 hho
              obtain ⟨⟨qw, qh⟩, qv⟩ := p
              obtain ⟨aq, cq, hqv⟩ := hho.shape
              rw [ci_len] at hqv
              have hqv' : qv = .slice aq qh.length cq := hqv
              subst hqv'
              have y1' : w6.cell? ⟨g5, j * 2, none⟩ = some (.int .i64 (qw : Int)) := y1
              have y2' : w6.cell? ⟨g5, j * 2 + 1, none⟩ = some (.slice aq qh.length cq) := y2
              have HHB : Hid (OI w6 0 (.slice aq qh.length cq) (ci qh)) := hho
              clear hho hqv y1 y2
              have HQF : Hid ((qw, qh) = fir (wo (mro M))) := by
                show _ = _
                rw [← HW1.out]
                unfold fir
                rw [← HJ.out, mro_get, ← HP.out]
              have hsz6 : w3.heap.size ≤ w6.heap.size := by omega
              have hw16 := HD6.out.bl.size
              go_wp2_with fail
              refine (without_any _ M1 j _ _ (HD6.out.on.alloc _) (by omega) (by omega)).mono ?_
              rintro e w7 ⟨v7, rfl, ho7, hb7⟩
              obtain ⟨hD7, hB67, hbx7, hgB⟩ := HD6.out.pop hw16 hsz6 ho7 hb7
              obtain ⟨M2, HM2⟩ : ∃ M2, Hid (M2 = M1.eraseIdx j) := ⟨_, hide rfl⟩
              rw [← HM2.out] at hD7
              have HW2 : Hid (mro M2 = wo (wo (mro M))) := by
                show _ = _
                rw [HM2.out, ← HW1.out]
                unfold wo mro
                rw [erase_map]
                rw [HJ.out]
                rfl
              have hM2l : M2.length = M.length - 2 := by rw [← mro_len, HW2.out, wo_len (by rw [wo_len (by rw [mro_len]; omega), mro_len]; omega), wo_len (by rw [mro_len]; omega), mro_len]; omega
              have HD7 := hide hD7
              have HHA7 := hide (HHA6.out.below hB67 (Nat.le_refl _))
              have HHB7 := hide (HHB.out.below hB67 (Nat.le_refl _))
              have HBA : Hid (w7.heap[w4.heap.size]? = some (.cells #[.int .i64 (pw : Int), .slice ap ph.length cp] 51)) := by show _ = _; rw [hB67.block _ hgA6]; exact HBX6.out
              have HBB := hide hbx7
              have z1 : w7.cell? ⟨w4.heap.size, 0, none⟩ = some (.int .i64 (pw : Int)) := by unfold World.cell?; simp only [HBA.out]; rfl
              have z2 : w7.cell? ⟨w6.heap.size, 0, none⟩ = some (.int .i64 (qw : Int)) := by unfold World.cell?; simp only [hbx7]; rfl
              obtain ⟨a7, p7, hu7, _⟩ := hD7.on.shape
              subst hu7
              have hgA7 : w4.heap.size < w7.heap.size := by omega
              have hsz7 : w3.heap.size ≤ w7.heap.size := by omega
              have hw17 := HD7.out.bl.size
              clear hD7 hB67 hbx7 ho7 hb7 HD6 HHA6 HHB HBX6 HB46 y1' y2' HP HM2
              obtain ⟨m2, hm2⟩ : ∃ m, m = M2.length := ⟨_, rfl⟩
              have hm2' : M2.length = m2 := hm2.symm
              rw [hm2'] at HD7 ⊢
              rw [hm2'] at hM2l
              have hM2a : m2 + 2 ≤ M.length ∧ M.length ≤ m2 + 2 := by omega
              clear hm2 hM2l
              have HJN : Hid (((pw + qw, ph ++ qh) : Nod) = hjn (mro M)) := by
                show _ = _
                unfold hjn
                rw [← HPF.out, ← HQF.out]
              obtain ⟨hnd, hSlt, hSlen, hws⟩ := HN.out.hold (by rw [mro_len]; exact hM2)
              rw [← HPF.out, ← HQF.out] at hws
              have hws' : (pw : Int) + qw ≤ 1236950581248 := by have : pw + qw ≤ 1236950581248 := hws; omega
              rw [← HJN.out] at hnd hSlt hSlen
              have HND : Hid ((ph ++ qh).Nodup) := hnd
              have HSLT : Hid (∀ s ∈ ph ++ qh, s < l.length) := hSlt
              have hSlen' : ph.length + qh.length ≤ l.length := by have : (ph ++ qh).length ≤ l.length := hSlen; rwa [List.length_append] at this
              clear hnd hSlt hSlen hws HPF HQF
              have HC0 := hide (Cst.new w7 ((pw : Int) + qw))
              go_wp2
              go_loopw [15] (fun vi wr => ∃ k hv, k ≤ ph.length ∧ vi = .int .i64 (k : Int) ∧ Hid (Cst w7 w7.heap.size ((pw : Int) + qw) hv (ph.take k) wr)) (fun vi _ => ph.length - (intOf vi).toNat)
              case atStart => exact ⟨0, .slice none 0 0, Nat.zero_le _, rfl, HC0⟩
              case round =>
                obtain ⟨k, hv, hk, rfl, HC⟩ := hrel
                have hbw := HC.out.bel
                have b1 : wr.cell? ⟨w4.heap.size, 1, none⟩ = some (.slice ap ph.length cp) := by
                  have e : wr.heap[w4.heap.size]? = _ := (hbw.block _ (by omega)).trans HBA.out
                  unfold World.cell?
                  simp only [e]
                  rfl
                by_cases hlt : k < ph.length
                · have hlt' : (k : Int) < (ph.length : Int) := by omega
                  have ho := (HHA7.out.below hbw (Nat.le_refl _))
                  obtain ⟨ga, da, hva, hca⟩ := ho.form (by rw [ci_len]; omega)
                  have hck := ho.get (b := ga) (by rw [hva]; rfl) (i := k) (by rw [ci_len]; omega)
                  rw [ci_get] at hck
                  have HTK : Hid (ph.take (k + 1) = (ph.take k) ++ [ph.getD k 0]) := by
                    show _ = _
                    rw [List.take_succ_eq_append_getElem hlt]
                    simp [hlt]
                  obtain ⟨x, HX⟩ : ∃ x, Hid (x = ph.getD k 0) := ⟨_, hide rfl⟩
                  rw [← HX.out] at hck HTK
                  simp only [Value.slice.injEq] at hva
                  obtain ⟨rfl, -, rfl⟩ := hva
                  obtain ⟨L, HL⟩ : ∃ L, Hid (L = ph.take k) := ⟨_, hide rfl⟩
                  rw [← HL.out] at HC HTK
                  have hLl : (ci L).length ≤ 1000 := by rw [ci_len, HL.out]; simp; omega
                  have HR1 := hide (HC.out.rw1d x)
                  obtain ⟨d0, d1, df, hgl⟩ := HC.out.cells
                  have d1' : (wr.alloc (.cells #[.int .i64 (x : Int)] 3)).cell? ⟨w7.heap.size, 1, none⟩ = some hv := by rw [((Below.refl wr.heap.size wr).alloc (Nat.le_refl _) _).cell hgl]; exact d1
                  have HLEN : Hid ((ci L).length + ([(x : Int)] : List Int).length ≤ 17592186044416) := by show _ ≤ _; simp; omega
                  clear hbw ho hca
                  go_wp2
                  go_region_law (refine step_appI (by rfl) _ _ (by rfl) w7.heap.size hv (.slice (some ⟨wr.heap.size, 0, none⟩) 1 1) (ci L) [(x : Int)] (by simp [Act.eval, Act.put]) (HR1.out.row _ (by rfl)) (by simp [Act.eval, Act.put]) (HR1.out.src _ (by rfl)) HLEN.out (HR1.out.siz _ (by rfl)) ?_; intro v6 wx ho6 hg6; obtain ⟨a6, n6, p6, hv6⟩ := ho6.shp; subst hv6; obtain ⟨t1, tf, hC6⟩ := HR1.out.app _ wx _ (by rfl) (by rfl) (by rfl) (by rfl) ho6 hg6; have HC6 := hide hC6; clear ho6 hg6 hC6)
                  all_goals
                    have HC7 : Hid (Cst w7 w7.heap.size ((pw : Int) + qw) (.slice a6 n6 p6) (ph.take (k + 1)) (wx.setCell ⟨w7.heap.size, 1, none⟩ (.slice a6 n6 p6))) := by rw [HTK.out]; exact HC6.out
                    clear HC6 HR1 d0 d1 df d1' t1 tf HC
                    go_wp2
                    go_roundw
                    case rel => exact ⟨k + 1, _, by omega, by go_num, HC7⟩
                    case measure => simp [intOf]; omega
                · obtain rfl : k = ph.length := by omega
                  have hlt' : ¬ (ph.length : Int) < (ph.length : Int) := by omega
                  have HCE : Hid (Cst w7 w7.heap.size ((pw : Int) + qw) hv (ph) wr) := by
                    have := HC.out
                    rwa [List.take_of_length_le (Nat.le_refl _)] at this
                  clear HC hbw
                  go_wp2
                  go_loopw [16] (fun vi wr => ∃ k hv, k ≤ qh.length ∧ vi = .int .i64 (k : Int) ∧ Hid (Cst w7 w7.heap.size ((pw : Int) + qw) hv (ph ++ qh.take k) wr)) (fun vi _ => qh.length - (intOf vi).toNat)
                  case atStart => exact ⟨0, _, Nat.zero_le _, rfl, by rw [List.take_zero, List.append_nil]; exact HCE⟩
                  case round =>
                    obtain ⟨k, hv, hk, rfl, HC⟩ := hrel
                    have hbw := HC.out.bel
                    have b1 : wr.cell? ⟨w6.heap.size, 1, none⟩ = some (.slice aq qh.length cq) := by
                      have e : wr.heap[w6.heap.size]? = _ := (hbw.block _ (by omega)).trans HBB.out
                      unfold World.cell?
                      simp only [e]
                      rfl
                    by_cases hlt : k < qh.length
                    · have hlt' : (k : Int) < (qh.length : Int) := by omega
                      have ho := (HHB7.out.below hbw (Nat.le_refl _))
                      obtain ⟨ga, da, hva, hca⟩ := ho.form (by rw [ci_len]; omega)
                      have hck := ho.get (b := ga) (by rw [hva]; rfl) (i := k) (by rw [ci_len]; omega)
                      rw [ci_get] at hck
                      have HTK : Hid (ph ++ qh.take (k + 1) = (ph ++ qh.take k) ++ [qh.getD k 0]) := by
                        show _ = _
                        rw [List.take_succ_eq_append_getElem hlt]
                        simp [hlt]
                      obtain ⟨x, HX⟩ : ∃ x, Hid (x = qh.getD k 0) := ⟨_, hide rfl⟩
                      rw [← HX.out] at hck HTK
                      simp only [Value.slice.injEq] at hva
                      obtain ⟨rfl, -, rfl⟩ := hva
                      obtain ⟨L, HL⟩ : ∃ L, Hid (L = ph ++ qh.take k) := ⟨_, hide rfl⟩
                      rw [← HL.out] at HC HTK
                      have hLl : (ci L).length ≤ 1000 := by rw [ci_len, HL.out]; simp; omega
                      have HR1 := hide (HC.out.rw1d x)
                      obtain ⟨d0, d1, df, hgl⟩ := HC.out.cells
                      have d1' : (wr.alloc (.cells #[.int .i64 (x : Int)] 3)).cell? ⟨w7.heap.size, 1, none⟩ = some hv := by rw [((Below.refl wr.heap.size wr).alloc (Nat.le_refl _) _).cell hgl]; exact d1
                      have HLEN : Hid ((ci L).length + ([(x : Int)] : List Int).length ≤ 17592186044416) := by show _ ≤ _; simp; omega
                      clear hbw ho hca
                      go_wp2
                      go_region_law (refine step_appI (by rfl) _ _ (by rfl) w7.heap.size hv (.slice (some ⟨wr.heap.size, 0, none⟩) 1 1) (ci L) [(x : Int)] (by simp [Act.eval, Act.put]) (HR1.out.row _ (by rfl)) (by simp [Act.eval, Act.put]) (HR1.out.src _ (by rfl)) HLEN.out (HR1.out.siz _ (by rfl)) ?_; intro v6 wx ho6 hg6; obtain ⟨a6, n6, p6, hv6⟩ := ho6.shp; subst hv6; obtain ⟨t1, tf, hC6⟩ := HR1.out.app _ wx _ (by rfl) (by rfl) (by rfl) (by rfl) ho6 hg6; have HC6 := hide hC6; clear ho6 hg6 hC6)
                      all_goals
                        have HC7 : Hid (Cst w7 w7.heap.size ((pw : Int) + qw) (.slice a6 n6 p6) (ph ++ qh.take (k + 1)) (wx.setCell ⟨w7.heap.size, 1, none⟩ (.slice a6 n6 p6))) := by rw [HTK.out]; exact HC6.out
                        clear HC6 HR1 d0 d1 df d1' t1 tf HC
                        go_wp2
                        go_roundw
                        case rel => exact ⟨k + 1, _, by omega, by go_num, HC7⟩
                        case measure => simp [intOf]; omega
                    · obtain rfl : k = qh.length := by omega
                      have hlt' : ¬ (qh.length : Int) < (qh.length : Int) := by omega
                      have HCE : Hid (Cst w7 w7.heap.size ((pw : Int) + qw) hv (ph ++ qh) wr) := by
                        have := HC.out
                        rwa [List.take_of_length_le (Nat.le_refl _)] at this
                      clear HC hbw
                      go_wp2
                      obtain ⟨S, HSS⟩ : ∃ S, Hid (S = ph ++ qh) := ⟨_, hide rfl⟩
                      rw [← HSS.out] at HCE HND HSLT HJN
                      have hSl : S.length ≤ l.length := by rw [HSS.out, List.length_append]; exact hSlen'
                      obtain ⟨ah, ch, hhv⟩ := HCE.out.own.shape
                      rw [ci_len] at hhv
                      subst hhv
                      have HE0 : Hid (Est w1 w3.heap.size l.length w7.heap.size (.slice a2 l.length c2) (.slice a7 m2 p7) (.slice ah S.length ch) M2 (bmp len (S.take 0)) S ((pw : Int) + qw) wr) := by
                        rw [bmp_none]
                        exact ⟨HD7.out.below HCE.out.bel hw17, HCE.out.box, HCE.out.own⟩
                      clear HCE b1 HD7 HHA7 HHB7 HBA HBB z1 z2 HC0
                      go_loopw [17] (fun vi wr => ∃ k, k ≤ S.length ∧ vi = .int .i64 (k : Int) ∧ Hid (Est w1 w3.heap.size l.length w7.heap.size (.slice a2 l.length c2) (.slice a7 m2 p7) (.slice ah S.length ch) M2 (bmp len (S.take k)) S ((pw : Int) + qw) wr)) (fun vi _ => S.length - (intOf vi).toNat)
                      case atStart => exact ⟨0, Nat.zero_le _, rfl, HE0⟩
                      case round =>
                        clear HE0
                        obtain ⟨k, hk, rfl, HEE⟩ := hrel
                        obtain ⟨e0, e1, hgl⟩ := HEE.out.cells
                        by_cases hlt : k < S.length
                        · have hlt' : (k : Int) < (S.length : Int) := by omega
                          obtain ⟨gh, dh, hvh, hch⟩ := HEE.out.own.form (by rw [ci_len]; omega)
                          have hck := HEE.out.own.get (b := gh) (by rw [hvh]; rfl) (i := k) (by rw [ci_len]; omega)
                          rw [ci_get] at hck
                          have hsl := HSLT.out _ (getD_mem hlt)
                          obtain ⟨hb1, hb2⟩ := bmp_step (len := len) HND.out hlt hsl
                          obtain ⟨s, HSE⟩ : ∃ s, Hid (s = S.getD k 0) := ⟨_, hide rfl⟩
                          rw [← HSE.out] at hck hsl hb1 hb2
                          simp only [Value.slice.injEq] at hvh
                          obtain ⟨rfl, -, rfl⟩ := hvh
                          obtain ⟨gl, dl, hvl, hcl⟩ := HEE.out.d.le.form (by rw [hls_len]; omega)
                          simp only [Value.slice.injEq] at hvl
                          obtain ⟨rfl, -, rfl⟩ := hvl
                          have hglB : gl < w3.heap.size := HLB.out gl rfl
                          obtain ⟨f1, f2, _⟩ := HEE.out.d.bump hglB hsl
                          rw [hb1] at f1
                          have HEN := hide (HEE.out.bump hglB hsz7 hsl _ _ hb2)
                          have hll : (len s : Int) + 1 ≤ 1000 := by have := HN.out.ln s; omega
                          have hsl' : (s : Int) < (l.length : Int) := by omega
                          obtain ⟨y, HY⟩ : ∃ y, Hid (y = len s) := ⟨_, hide rfl⟩
                          rw [← HY.out] at f1 HEN hll
                          clear hb1 hb2 hch hcl HEE
                          go_wp2
                          go_roundw
                          case rel => exact ⟨k + 1, by omega, by go_num, HEN⟩
                          case measure => simp [intOf]; omega
                        · obtain rfl : k = S.length := by omega
                          have hlt' : ¬ (S.length : Int) < (S.length : Int) := by omega
                          have HEF : Hid (Est w1 w3.heap.size l.length w7.heap.size (.slice a2 l.length c2) (.slice a7 m2 p7) (.slice ah S.length ch) M2 (bmp len S) S ((pw : Int) + qw) wr) := by
                            have := HEE.out
                            rwa [List.take_of_length_le (Nat.le_refl _)] at this
                          clear HEE
                          have hszr : w3.heap.size ≤ wr.heap.size := by omega
                          have HHO : Hid (OI wr 0 (.slice ah S.length ch) (ci S)) := HEF.out.own.base (Nat.zero_le _)
                          have HPW : Hid (((pw : Int) + qw) = ((pw + qw : Nat) : Int)) := by show _ = _; omega
                          have HON : Hid (ON wr w3.heap.size (.slice a7 m2 p7) M2) := HEF.out.d.on
                          go_wp2_with (at_builtin; refine wpNode rfl _ _ rfl w3.heap.size (.slice a7 m2 p7) M2 ((pw + qw, S), .slice ah S.length ch) _ HPW.out HHO.out rfl HON.out _ rfl (by omega) (by omega) ?_)
                          intro v8 w8 ho8 hg8
                          have HD8 : Hid (Dst w1 w3.heap.size l.length (.slice a2 l.length c2) v8 (M2 ++ [((pw + qw, S), .slice ah S.length ch)]) (bmp len S) w8) := HEF.out.d.node hB13 hszr HLB.out (fun k hk => by have := (HEF.out.own.lt k hk).1; omega) ho8 hg8
                          have HMR : Hid (mro (M2 ++ [((pw + qw, S), .slice ah S.length ch)]) = hst (mro M)) := by
                            show _ = _
                            unfold hst
                            rw [← HW2.out, ← HJN.out]
                            simp [mro]
                          have HFN : Hid (∃ M' len', Dst w1 w3.heap.size l.length (.slice a2 l.length c2) v8 M' len' w8 ∧ Nst l.length (mro M') len' ∧ hrun (M'.length - 1) (mro M') len' = dp l) := by
                            have hm : 2 ≤ (mro M).length := by rw [mro_len]; exact hM2
                            have hn := HN.out.next hm
                            have hr := hrun_next hm len
                            rw [← HJN.out] at hn hr
                            refine ⟨_, _, HD8.out, by rw [HMR.out]; exact hn, ?_⟩
                            rw [← mro_len, HMR.out, ← HR.out, ← mro_len]
                            exact hr.symm
                          obtain ⟨a8, p8, hu8, _⟩ := HD8.out.on.shape
                          rw [List.length_append] at hu8
                          subst hu8
                          have HMS : Hid (slen (.slice a8 (M2.length + [(((pw + qw, S), .slice ah S.length ch) : Mnd)].length) p8) < M.length) := by
                            show M2.length + 1 < M.length
                            omega
                          clear ho8 hg8 HD8 HMR HEF HON HHO HPW
                          go_wp2
                          go_roundw
                          case rel => exact HFN
                          case measure => exact HMS.out
            · have hM2' : ¬ (2 : Int) ≤ (M.length : Int) := by omega
              have HF : Hid (OI wr w1.heap.size (.slice a2 l.length c2) (dpt l) ∧ Below w1.heap.size w1 wr) := by
                refine ⟨?_, HD.out.bl⟩
                have e : hls l.length len = dpt l := by
                  have h0 : len = dp l := by rw [← HR.out, show M.length - 1 = 0 by omega]; rfl
                  rw [h0]
                  rfl
                rw [← e]
                exact HD.out.le
              clear HD HN HR
              go_wp2
              go_ret2
              exact ⟨_, _, rfl, HF.out.1, HF.out.2⟩
end Go.Proofs.Ytgengoffkoonfaa

