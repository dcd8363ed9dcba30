import Derived.Test.YtdpoggapenjjfaaGreatDoorG02Bok
namespace Go.Proofs.YtdpoggapenjjfaaGreatDoor
open Go.RowKit Go.Maps
set_option maxRecDepth 20000

def dv (vl vw vs : Value) (f g : Nat → Int) : Array Value := #[vl, vw, vs] ++ av f ++ av g

theorem dv_size (vl vw vs : Value) (f g : Nat → Int) : (dv vl vw vs f g).size = 35 := by simp [dv, av_size]

theorem dv_0 (vl vw vs : Value) (f g : Nat → Int) : (dv vl vw vs f g)[0]? = some vl := by simp [dv, Array.getElem?_append]
theorem dv_1 (vl vw vs : Value) (f g : Nat → Int) : (dv vl vw vs f g)[1]? = some vw := by simp [dv, Array.getElem?_append]
theorem dv_2 (vl vw vs : Value) (f g : Nat → Int) : (dv vl vw vs f g)[2]? = some vs := by simp [dv, Array.getElem?_append]

theorem dv_f (vl vw vs : Value) (f g : Nat → Int) {n : Nat} (h : n < 16) : (dv vl vw vs f g)[3 + n]? = some (.int .i64 (f n)) := by
  simp only [dv, Array.getElem?_append, Array.size_append, av_size]
  rw [if_pos (by simp; omega), if_neg (by simp)]
  simp only [List.size_toArray, List.length_cons, List.length_nil]
  rw [show 3 + n - (0 + 1 + 1 + 1) = n by omega, av_get f h]

theorem dv_g (vl vw vs : Value) (f g : Nat → Int) {n : Nat} (h : n < 16) : (dv vl vw vs f g)[19 + n]? = some (.int .i64 (g n)) := by
  simp only [dv, Array.getElem?_append, Array.size_append, av_size]
  rw [if_neg (by simp)]
  simp only [List.size_toArray, List.length_cons, List.length_nil]
  rw [show 19 + n - (0 + 1 + 1 + 1 + 16) = n by omega, av_get g h]

theorem dv_ext {A : Array Value} {vl vw vs : Value} {f g : Nat → Int} (hs : A.size = 35) (h0 : A[0]? = some vl) (h1 : A[1]? = some vw) (h2 : A[2]? = some vs) (hf : ∀ n, n < 16 → A[3 + n]? = some (.int .i64 (f n))) (hg : ∀ n, n < 16 → A[19 + n]? = some (.int .i64 (g n))) : A = dv vl vw vs f g := by
  apply Array.ext_getElem?
  intro i
  by_cases c0 : i = 0
  · subst c0; rw [h0, dv_0]
  by_cases c1 : i = 1
  · subst c1; rw [h1, dv_1]
  by_cases c2 : i = 2
  · subst c2; rw [h2, dv_2]
  by_cases c3 : i < 19
  · obtain ⟨n, rfl⟩ : ∃ n, i = 3 + n := ⟨i - 3, by omega⟩
    rw [hf n (by omega), dv_f _ _ _ _ _ (by omega)]
  by_cases c4 : i < 35
  · obtain ⟨n, rfl⟩ : ∃ n, i = 19 + n := ⟨i - 19, by omega⟩
    rw [hg n (by omega), dv_g _ _ _ _ _ (by omega)]
  · rw [Array.getElem?_eq_none (by omega), Array.getElem?_eq_none (by rw [dv_size]; omega)]

theorem dv_setf (vl vw vs : Value) (f g : Nat → Int) {n : Nat} (h : n < 16) (x : Int) : (dv vl vw vs f g).setIfInBounds (3 + n) (.int .i64 x) = dv vl vw vs (upf f n x) g := by
  refine dv_ext (by simp [dv_size]) ?_ ?_ ?_ (fun k hk => ?_) (fun k hk => ?_)
  · rw [Array.getElem?_setIfInBounds, if_neg (by omega), dv_0]
  · rw [Array.getElem?_setIfInBounds, if_neg (by omega), dv_1]
  · rw [Array.getElem?_setIfInBounds, if_neg (by omega), dv_2]
  · rw [Array.getElem?_setIfInBounds]
    unfold upf
    by_cases e : n = k
    · subst e; rw [if_pos rfl, if_pos (by rw [dv_size]; omega), if_pos rfl]
    · rw [if_neg (by omega), dv_f _ _ _ _ _ hk, if_neg (fun x => e x.symm)]
  · rw [Array.getElem?_setIfInBounds, if_neg (by omega), dv_g _ _ _ _ _ hk]

theorem dv_setg (vl vw vs : Value) (f g : Nat → Int) {n : Nat} (h : n < 16) (x : Int) : (dv vl vw vs f g).setIfInBounds (19 + n) (.int .i64 x) = dv vl vw vs f (upf g n x) := by
  refine dv_ext (by simp [dv_size]) ?_ ?_ ?_ (fun k hk => ?_) (fun k hk => ?_)
  · rw [Array.getElem?_setIfInBounds, if_neg (by omega), dv_0]
  · rw [Array.getElem?_setIfInBounds, if_neg (by omega), dv_1]
  · rw [Array.getElem?_setIfInBounds, if_neg (by omega), dv_2]
  · rw [Array.getElem?_setIfInBounds, if_neg (by omega), dv_f _ _ _ _ _ hk]
  · rw [Array.getElem?_setIfInBounds]
    unfold upf
    by_cases e : n = k
    · subst e; rw [if_pos rfl, if_pos (by rw [dv_size]; omega), if_pos rfl]
    · rw [if_neg (by omega), dv_g _ _ _ _ _ hk, if_neg (fun x => e x.symm)]

theorem dv_sets (vl vw vs : Value) (f g : Nat → Int) (x : Value) : (dv vl vw vs f g).setIfInBounds 2 x = dv vl vw x f g := by
  refine dv_ext (by simp [dv_size]) ?_ ?_ ?_ (fun k hk => ?_) (fun k hk => ?_)
  · rw [Array.getElem?_setIfInBounds, if_neg (by omega), dv_0]
  · rw [Array.getElem?_setIfInBounds, if_neg (by omega), dv_1]
  · rw [Array.getElem?_setIfInBounds, if_pos rfl, if_pos (by rw [dv_size]; omega)]
  · rw [Array.getElem?_setIfInBounds, if_neg (by omega), dv_f _ _ _ _ _ hk]
  · rw [Array.getElem?_setIfInBounds, if_neg (by omega), dv_g _ _ _ _ _ hk]

def shf (l : List Int) (n : Nat) : Int := (sh l n : Int) - fi l n
def en (l : List Int) (n : Nat) : Int := (fi l n : Int) + cn l n
def upTo (f : Nat → Int) (k n : Nat) : Int := if n < k then f n else 0

theorem upTo_succ (f : Nat → Int) (k : Nat) (x : Int) (hx : x = f k) : upf (upTo f k) k x = upTo f (k + 1) := by
  funext n
  unfold upf upTo
  by_cases e : n = k
  · subst e; rw [if_pos rfl, if_pos (by omega), hx]
  · rw [if_neg e]
    by_cases h : n < k
    · rw [if_pos h, if_pos (by omega)]
    · rw [if_neg h, if_neg (by omega)]

theorem grownBy_drewN {w w' : World} {r : Option Nat} (h : w.grownBy w' r) (n : Nat) : w.grownBy (w'.drewN n) r := ⟨h.os, h.tape, h.output, h.size, h.block⟩

theorem grownBy_at {w w' : World} {g o : Nat} {u : Value} (h : w.grownBy w' (some g)) : w.grownBy (w'.setCell ⟨g, o, none⟩ u) (some g) :=
  ⟨h.os, h.tape, h.output, by rw [size_setCell]; exact h.size, fun k hk hr => (setCell_others w' g o u k (fun e => hr (by rw [e]))).trans (h.block k hk hr)⟩

structure Ar (w : World) (g : Nat) (vl vw : Value) (l : List Int) (a b : Nat) (wr : World) : Prop where
  d : wr.heap[g]? = some (.cells (dv vl vw (.slice none 0 0) (upTo (shf l) a) (upTo (en l) b)) 127 (0, 0))
  f : wr.heap[w.heap.size + 1]? = some (.cells (av fun n => (fi l n : Int)) 125 (0, 0))
  g : w.grownBy wr (some g)

theorem Ar.drewN {w : World} {g : Nat} {vl vw : Value} {l : List Int} {a b : Nat} {wr : World} (h : Ar w g vl vw l a b wr) (n : Nat) : Ar w g vl vw l a b (wr.drewN n) := ⟨h.d, h.f, grownBy_drewN h.g n⟩

theorem Ar.setf {w : World} {g : Nat} {vl vw : Value} {l : List Int} {a b : Nat} {wr : World} (h : Ar w g vl vw l a b wr) (hg : g < w.heap.size) (ha : a < 16) (x : Int) (hx : x = shf l a) : Ar w g vl vw l (a + 1) b (wr.setCell ⟨g, 3 + a, none⟩ (.int .i64 x)) := by
  refine ⟨?_, (setCell_others wr g _ _ _ (by omega)).trans h.f, grownBy_at h.g⟩
  rw [heap_setCell_same _ _ _ _ _ _ h.d, dv_setf _ _ _ _ _ ha, upTo_succ _ _ _ hx]

theorem Ar.setg {w : World} {g : Nat} {vl vw : Value} {l : List Int} {a b : Nat} {wr : World} (h : Ar w g vl vw l a b wr) (hg : g < w.heap.size) (ha : b < 16) (x : Int) (hx : x = en l b) : Ar w g vl vw l a (b + 1) (wr.setCell ⟨g, 19 + b, none⟩ (.int .i64 x)) := by
  refine ⟨?_, (setCell_others wr g _ _ _ (by omega)).trans h.f, grownBy_at h.g⟩
  rw [heap_setCell_same _ _ _ _ _ _ h.d, dv_setg _ _ _ _ _ ha, upTo_succ _ _ _ hx]

theorem Ar.cf {w : World} {g : Nat} {vl vw : Value} {l : List Int} {a b : Nat} {wr : World} (h : Ar w g vl vw l a b wr) {n : Nat} (hn : n < 16) : wr.cell? ⟨w.heap.size + 1, n, none⟩ = some (.int .i64 (fi l n)) := by
  rw [cell_of_row _ _ _ _ _ _ h.f, av_get _ hn]

theorem Ar.c3 {w : World} {g : Nat} {vl vw : Value} {l : List Int} {a b : Nat} {wr : World} (h : Ar w g vl vw l a b wr) {n : Nat} (hn : n < 16) : wr.cell? ⟨g, 3 + n, none⟩ = some (.int .i64 (upTo (shf l) a n)) := by
  rw [cell_of_row _ _ _ _ _ _ h.d, dv_f _ _ _ _ _ hn]

theorem Ar.c19 {w : World} {g : Nat} {vl vw : Value} {l : List Int} {a b : Nat} {wr : World} (h : Ar w g vl vw l a b wr) {n : Nat} (hn : n < 16) : wr.cell? ⟨g, 19 + n, none⟩ = some (.int .i64 (upTo (en l) b n)) := by
  rw [cell_of_row _ _ _ _ _ _ h.d, dv_g _ _ _ _ _ hn]

theorem Ar.fz {w : World} {g : Nat} {vl vw : Value} {l : List Int} {a b : Nat} {wr : World} (h : Ar w g vl vw l a b wr) (n : Nat) : wr.frozen? ⟨g, n, none⟩ = false := frozen_of_row _ _ _ _ _ h.d

def SymOk (l sy : List Int) : Prop := sy.length = sh l 16 ∧ ∀ s, Has l s → sy.getD (ix l s) 0 = (s : Int)

structure As (w : World) (g : Nat) (vl vw : Value) (l : List Int) (gS z k : Nat) (wr : World) : Prop where
  d : wr.heap[g]? = some (.cells (dv vl vw (.slice (some ⟨gS, 0, none⟩) z z) (shf l) (en l)) 127 (0, 0))
  s : ∃ sy : List Int, wr.heap[gS]? = some (.cells (sy.map (Value.int .i64)).toArray 3 (0, 0)) ∧ sy.length = z ∧ ∀ s, s < k → Has l s → sy.getD (ix l s) 0 = (s : Int)
  g : w.grownBy wr (some g)

theorem As.drewN {w : World} {g : Nat} {vl vw : Value} {l : List Int} {gS z k : Nat} {wr : World} (h : As w g vl vw l gS z k wr) (n : Nat) : As w g vl vw l gS z k (wr.drewN n) := ⟨h.d, h.s, grownBy_drewN h.g n⟩

theorem As.skip {w : World} {g : Nat} {vl vw : Value} {l : List Int} {gS z k : Nat} {wr : World} (h : As w g vl vw l gS z k wr) (h0 : ¬ Has l k) : As w g vl vw l gS z (k + 1) wr := by
  obtain ⟨sy, h1, h2, h3⟩ := h.s
  refine ⟨h.d, ⟨sy, h1, h2, fun s hs hh => ?_⟩, h.g⟩
  by_cases e : s = k
  · subst e; exact absurd hh h0
  · exact h3 s (by omega) hh

theorem As.put {w : World} {g : Nat} {vl vw : Value} {l : List Int} {gS z k : Nat} {wr : World} (h : As w g vl vw l gS z k wr) (hl : Lens l) (hh : Has l k) (hne : gS ≠ g) (hge : w.heap.size ≤ gS) (hj : ix l k < z) : As w g vl vw l gS z (k + 1) (wr.setCell ⟨gS, ix l k, none⟩ (.int .i64 k)) := by
  obtain ⟨sy, h1, h2, h3⟩ := h.s
  refine ⟨(setCell_others wr gS _ _ _ (fun e => hne e.symm)).trans h.d, ⟨sy.set (ix l k) k, ?_, by simp [h2], fun s hs hs2 => ?_⟩, grownBy_new h.g hge⟩
  · rw [heap_setCell_same _ _ _ _ _ _ h1, map_set]
  · by_cases e : s = k
    · subst e
      simp [List.getD, h2, hj]
    · have hi : ix l k ≠ ix l s := fun e2 => e (ix_inj hl hs2 hh e2.symm)
      rw [← h3 s (by omega) hs2]
      simp [List.getD, hi]

theorem As.c {w : World} {g : Nat} {vl vw : Value} {l : List Int} {gS z k : Nat} {wr : World} (h : As w g vl vw l gS z k wr) : wr.cell? ⟨g, 0, none⟩ = some vl ∧ wr.cell? ⟨g, 1, none⟩ = some vw ∧ wr.cell? ⟨g, 2, none⟩ = some (.slice (some ⟨gS, 0, none⟩) z z) ∧ (∀ n, n < 16 → wr.cell? ⟨g, 3 + n, none⟩ = some (.int .i64 (shf l n))) ∧ (∀ j, j < z → ∃ u, wr.cell? ⟨gS, j, none⟩ = some u) ∧ ∀ j, wr.frozen? ⟨gS, j, none⟩ = false := by
  obtain ⟨sy, h1, h2, _⟩ := h.s
  refine ⟨by rw [cell_of_row _ _ _ _ _ _ h.d, dv_0], by rw [cell_of_row _ _ _ _ _ _ h.d, dv_1], by rw [cell_of_row _ _ _ _ _ _ h.d, dv_2], fun n hn => by rw [cell_of_row _ _ _ _ _ _ h.d, dv_f _ _ _ _ _ hn], fun j hj => ?_, fun j => frozen_of_row _ _ _ _ _ h1⟩
  rw [cell_of_row _ _ _ _ _ _ h1]
  have : j < sy.length := by omega
  exact ⟨_, by simp [this]; rfl⟩

theorem OI.still {w wr : World} {g : Nat} {v : Value} {L : List Int} (h : OI w 0 v L) (hg : w.grownBy wr (some g)) (hn : v.ownBlock ≠ some g) : OI wr 0 v L :=
  h.move fun k hk => hg.block k (h.lt k hk).2 (fun e => hn (by rw [hk, e]))

theorem ix_eq {l : List Int} {k : Nat} (hh : Has l k) : shf l (ln l k) + (wd l k : Int) = (ix l k : Int) := by
  rw [hh.wd]
  unfold shf ix
  push_cast
  omega

def Arranged (w : World) (g : Nat) (vl vw : Value) (l : List Int) (w' : World) : Prop := ∃ vs sy, w'.heap[g]? = some (.cells (dv vl vw vs (shf l) (en l)) 127 (0, 0)) ∧ OI w' w.heap.size vs sy ∧ SymOk l sy ∧ w.grownBy w' (some g)

set_option maxHeartbeats 1000000 in
theorem arrange_any (g : Nat) (vl vw : Value) (l : List Int) (w : World) (hd : w.heap[g]? = some (.cells (dv vl vw (.slice none 0 0) (fun _ => 0) (fun _ => 0)) 127 (0, 0))) (hgl : g < w.heap.size) (hl : Lens l) (h1 : OI w 0 vl l) (h2 : OI w 0 vw (wds l)) (n1 : vl.ownBlock ≠ some g) (n2 : vw.ownBlock ≠ some g) :
    Calls Tryz.prog 87 #[.pointer (some ⟨g, 0, none⟩), .agg (av fun n => (cn l n : Int)), .agg (av fun n => (fi l n : Int))] w fun e w' => e = .returned (.tuple #[]) ∧ Arranged w g vl vw l w' := by
  have HD := hide hd
  have HL := hide hl
  have H1 := hide h1
  have H2 := hide h2
  have N1 := hide n1
  have N2 := hide n2
  clear hd hl h1 h2 n1 n2
  obtain ⟨C, HC⟩ : ∃ C, Hid (C = av fun n => (cn l n : Int)) := ⟨_, rfl⟩
  obtain ⟨F, HF⟩ : ∃ F, Hid (F = av fun n => (fi l n : Int)) := ⟨_, rfl⟩
  rw [← HC.out, ← HF.out]
  obtain ⟨W, HW⟩ : ∃ W, Hid (W = (w.alloc (.cells C 125)).alloc (.cells F 125)) := ⟨_, rfl⟩
  have HG : Hid (((w.alloc (.cells C 125)).alloc (.cells F 125)).heap[w.heap.size]? = some (.cells (av fun n => (cn l n : Int)) 125 (0, 0))) := by rw [← HC.out]; exact (heap_two w _ _).2
  have HA : Hid (Ar w g vl vw l 0 0 W) := by
    rw [HW.out]
    refine ⟨?_, by rw [← HF.out]; exact (heap_two w _ _).1, ?_⟩
    · rw [Below.heap_alloc _ _ _ (by simp; omega), Below.heap_alloc _ _ _ hgl, HD.out]
      rfl
    · refine ⟨rfl, rfl, rfl, by simp; omega, fun k hk _ => ?_⟩
      rw [Below.heap_alloc _ _ _ (by simp; omega), Below.heap_alloc _ _ _ hk]
  go_enter Tryz.func87, Tryz.ntmps87
  go_wp2_with ((with_reducible refine wpList_loadP w.heap.size _ ?hx HG.out ?_); (case hx => rfl))
  rw [← HW.out]
  clear HG
  go_loopw [6, 12] (fun u i wr => ∃ k : Nat, k ≤ 16 ∧ i = .int .i64 k ∧ u = .int .i64 (sh l k) ∧ Hid (Ar w g vl vw l k k wr)) (fun _ i _ => 16 - (intOf i).toNat)
  case atStart => exact ⟨0, Nat.zero_le _, rfl, rfl, HA⟩
  case round =>
    clear HA
    obtain ⟨k, hk, rfl, rfl, HT⟩ := hrel
    have bs : sh l k ≤ 288 := Nat.le_trans (sh_le l k) HL.out.1
    by_cases hlt : k < 16
    · have hlt' : (k : Int) < 16 := by omega
      have hg := fun W => run_index (fun n => (cn l n : Int)) hlt W
      have b1 := fi_top HL.out (n := k) (by omega)
      have b2 : cn l k ≤ 288 := by have := cn_le l k; have := HL.out.1; omega
      have c1 := HT.out.cf hlt
      have c2 := HT.out.c3 hlt
      have f2 := HT.out.fz (3 + k)
      obtain ⟨x, HX⟩ : ∃ x : Nat, Hid (x = fi l k) := ⟨_, rfl⟩
      obtain ⟨y, HY⟩ : ∃ y : Nat, Hid (y = cn l k) := ⟨_, rfl⟩
      obtain ⟨z, HZ⟩ : ∃ z : Nat, Hid (z = sh l k) := ⟨_, rfl⟩
      rw [← HX.out] at c1 b1
      rw [← HY.out] at b2 hg
      rw [← HZ.out] at bs ⊢
      obtain ⟨W1, HW1⟩ : ∃ W1, Hid (W1 = (wr.setCell ⟨g, 3 + k, none⟩ (.int .i64 ((z : Int) - x))).drew) := ⟨_, rfl⟩
      have HA1 : Hid (Ar w g vl vw l (k + 1) k W1) := by rw [HW1.out]; exact (HT.out.setf hgl hlt _ (by rw [HZ.out, HX.out]; rfl)).drewN 1
      clear HT
      go_wp2
      go_region
      rw [← HW1.out]
      have d1 := HA1.out.cf hlt
      have d2 := HA1.out.c19 hlt
      have d3 := HA1.out.fz (19 + k)
      rw [← HX.out] at d1
      have HN : Hid (Ar w g vl vw l (k + 1) (k + 1) ((W1.setCell ⟨g, 19 + k, none⟩ (.int .i64 ((x : Int) + y))).drew)) := (HA1.out.setg hgl hlt _ (by rw [HX.out, HY.out]; rfl)).drewN 1
      have HSS : Hid (sh l (k + 1) = z + y) := by show _ = _; rw [HZ.out, HY.out]; rfl
      clear HA1 c1 c2 f2 HW1
      go_wp2
      go_region
      go_wp2
      go_roundw
      case rel => exact ⟨k + 1, by omega, by go_num, by rw [HSS.out]; push_cast; rfl, HN⟩
      case measure => simp [intOf]; omega
    · obtain rfl : k = 16 := by omega
      have hlt' : ¬ ((16 : Nat) : Int) < 16 := by omega
      have HDD : Hid (wr.heap[g]? = some (.cells (dv vl vw (.slice none 0 0) (shf l) (en l)) 127 (0, 0))) := by
        have := HT.out.d
        have e : ∀ f : Nat → Int, av (upTo f 16) = av f := fun f => av_congr fun i hi => if_pos hi
        unfold dv at this
        rw [e, e] at this
        exact this
      have HGR := hide HT.out.g
      clear HT
      obtain ⟨z, HZ⟩ : ∃ z : Nat, Hid (z = sh l 16) := ⟨_, rfl⟩
      rw [← HZ.out] at bs ⊢
      go_wp2_with (at_make; refine wpList_mkI rfl _ _ rfl _ _ _ _ z z rfl rfl rfl rfl (Nat.le_refl _) (by omega) ?_)
      intro w2 hg2 hb2
      obtain ⟨gS, hgS⟩ : ∃ gS, gS = wr.heap.size := ⟨_, rfl⟩
      rw [← hgS] at hg2 hb2 ⊢
      have HGS := hide hgS
      clear hgS
      have hgw : g < gS := by rw [HGS.out]; have := HGR.out.size; omega
      have hge : w.heap.size ≤ gS := by rw [HGS.out]; exact HGR.out.size
      have HD2 : Hid (w2.heap[g]? = some (.cells (dv vl vw (.slice none 0 0) (shf l) (en l)) 127 (0, 0))) := (hb2.block _ hgw).trans HDD.out
      have c2 : w2.cell? ⟨g, 2, none⟩ = some (.slice none 0 0) := by rw [cell_of_row _ _ _ _ _ _ HD2.out, dv_2]
      have f2 : w2.frozen? ⟨g, 2, none⟩ = false := frozen_of_row _ _ _ _ _ HD2.out
      obtain ⟨W2, HW2⟩ : ∃ W2, Hid (W2 = w2.setCell ⟨g, 2, none⟩ (.slice (some ⟨gS, 0, none⟩) z z)) := ⟨_, rfl⟩
      have HS2 : Hid (As w g vl vw l gS z 0 W2) := by
        rw [HW2.out]
        refine ⟨by rw [heap_setCell_same _ _ _ _ _ _ HD2.out, dv_sets], ⟨List.replicate z 0, ?_, by simp, fun s hs => by omega⟩, ?_⟩
        · rw [setCell_others w2 g _ _ _ (by omega), hg2]; simp
        · refine grownBy_at ⟨hb2.os.trans HGR.out.os, hb2.tape.trans HGR.out.tape, hb2.output.trans HGR.out.output, Nat.le_trans HGR.out.size hb2.size, fun k hk hr => (hb2.block k (by omega)).trans (HGR.out.block k hk hr)⟩
      have k0 : w2.cell? ⟨g, 0, none⟩ = some vl := by rw [cell_of_row _ _ _ _ _ _ HD2.out, dv_0]
      obtain ⟨al, cl, hvl⟩ := H1.out.shape
      obtain ⟨aw, cw, hvw⟩ := H2.out.shape
      rw [wds_len] at hvw
      subst hvl hvw
      clear hg2 hb2 HDD HGR
      have hcl : l.length ≤ cl ∧ cl ≤ 9223372036854775807 := by
        obtain ⟨ao', cap', e1, e2, e3, _⟩ := H1.out.sb
        simp only [Value.slice.injEq] at e1
        obtain ⟨-, -, rfl⟩ := e1
        unfold maxLen at e3
        exact ⟨e2, by omega⟩
      obtain ⟨hcl1, hcl2⟩ := hcl
      go_wp2
      rw [← HW2.out]
      clear HD2 c2 f2 HW2 k0
      go_loopw [51] (fun i wr2 => ∃ k : Nat, k ≤ l.length ∧ i = .int .i64 k ∧ Hid (As w g (.slice al l.length cl) (.slice aw l.length cw) l gS z k wr2)) (fun i _ => l.length - (intOf i).toNat)
      case atStart => exact ⟨0, Nat.zero_le _, rfl, HS2⟩
      case round =>
        clear HS2
        obtain ⟨k, hk, rfl, HT⟩ := hrel
        by_cases hkl : k < l.length
        · have hkl' : (k : Int) < (l.length : Int) := by omega
          obtain ⟨n, HN⟩ : ∃ n, Hid (ln l k = n) := ⟨_, rfl⟩
          have hn15 : n < 16 := by rw [← HN.out]; have := (HL.out.ln k).2; omega
          obtain ⟨bl, _, hal, _⟩ := H1.out.form (by omega)
          simp only [Value.slice.injEq] at hal
          obtain ⟨rfl, -, rfl⟩ := hal
          have hc := (H1.out.still HT.out.g N1.out).get (b := bl) rfl hkl
          rw [(HL.out.ln k).1, HN.out] at hc
          by_cases h0 : n = 0
          · have HX := hide (HT.out.skip (fun hh => by have := hh.2; rw [HN.out] at this; omega))
            subst h0
            clear HT
            go_wp2
            go_roundw
            case rel => exact ⟨k + 1, by omega, by go_num, HX⟩
            case measure => simp [intOf]; omega
          · have h0' : (0 : Int) < n := by omega
            have hh : Has l k := ⟨hkl, by rw [HN.out]; omega⟩
            obtain ⟨bw, _, haw, _⟩ := H2.out.form (by rw [wds_len]; omega)
            simp only [Value.slice.injEq] at haw
            obtain ⟨rfl, -, rfl⟩ := haw
            have hcw := (H2.out.still HT.out.g N2.out).get (b := bw) rfl (i := k) (by rw [wds_len]; exact hkl)
            rw [wds_get hkl] at hcw
            have hj : ix l k < z := by rw [HZ.out]; exact ix_lt HL.out hh
            have hix := ix_eq hh
            obtain ⟨_, q1, q2, q3, q4, q5⟩ := HT.out.c
            have q3' := q3 n hn15
            obtain ⟨u, q4'⟩ := q4 _ hj
            have q5' := q5 (ix l k)
            have HX := hide ((HT.out.put HL.out hh (by omega) hge hj).drewN 1)
            have bw1 : wd l k ≤ 100000000 := by
              have h1 := hh.rk_lt HL.out
              have h2 := cn_le l (ln l k)
              have h3 := HL.out.1
              have h4 := fi_top HL.out (n := ln l k) (HL.out.ln k).2
              rw [hh.wd]; omega
            have bx : shf l n = (ix l k : Int) - wd l k := by rw [← HN.out]; omega
            obtain ⟨y, HY⟩ : ∃ y : Nat, Hid (y = wd l k) := ⟨_, rfl⟩
            obtain ⟨j, HJ⟩ : ∃ j : Nat, Hid (j = ix l k) := ⟨_, rfl⟩
            rw [← HY.out] at hcw bw1 bx
            rw [← HJ.out] at hj q4' q5' HX bx
            rw [bx] at q3'
            have e1 : (j : Int) - y + y = j := by omega
            clear HT hix q3 q4 q5 bx hh
            go_wp2
            go_region
            go_wp2
            go_roundw
            case rel => exact ⟨k + 1, by omega, by go_num, HX⟩
            case measure => simp [intOf]; omega
        · obtain rfl : k = l.length := by omega
          have hkl' : ¬ (l.length : Int) < (l.length : Int) := by omega
          go_wp2
          (try simp only [Exit.inBlock, Exit.then]); refine bodyPost_end (results_none rfl _ _ _) rfl ?_
          obtain ⟨sy, s1, s2, s3⟩ := HT.out.s
          refine ⟨rfl, _, sy, HT.out.d, ?_, ⟨by rw [s2, HZ.out], fun s hs => s3 s hs.1 hs⟩, HT.out.g⟩
          have := OI.of_full (base := w.heap.size) s1 hge (by rw [s2]; unfold maxLen; omega)
          rwa [s2] at this
end Go.Proofs.YtdpoggapenjjfaaGreatDoor

