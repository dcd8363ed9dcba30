import Derived.Test.YtegoienjikjhkaaDoorGA30
import Derived.Deep.RegionLaw
import Derived.Test.YtegoienjikjhkaaDoorGA02
namespace Go.Proofs.YtegoienjikjhkaaDoor
open Go.RowKit Go.Maps
set_option maxRecDepth 20000

/-- A decoder's cells. -/
def dv (vl vw vs : Value) (f g : Nat → Int) : Array Value := #[vl, vw, vs] ++ av f ++ av g

theorem dv_size (vl vw vs : Value) (f g : Nat → Int) : (dv vl vw vs f g).size = 35 := by simp [dv, av_size]

theorem dv_0 (vl vw vs : Value) (f g : Nat → Int) : (dv vl vw vs f g)[0]? = some vl := by simp [dv, Array.getElem?_append]
theorem dv_1 (vl vw vs : Value) (f g : Nat → Int) : (dv vl vw vs f g)[1]? = some vw := by simp [dv, Array.getElem?_append]
theorem dv_2 (vl vw vs : Value) (f g : Nat → Int) : (dv vl vw vs f g)[2]? = some vs := by simp [dv, Array.getElem?_append]

theorem dv_f (vl vw vs : Value) (f g : Nat → Int) {n : Nat} (h : n < 16) : (dv vl vw vs f g)[3 + n]? = some (.int .i64 (f n)) := by
  simp only [dv, Array.getElem?_append, Array.size_append, av_size]
  rw [if_pos (by simp; omega), if_neg (by simp)]
  simp only [List.size_toArray, List.length_cons, List.length_nil]
  rw [show 3 + n - (0 + 1 + 1 + 1) = n by omega, av_get f h]

theorem dv_g (vl vw vs : Value) (f g : Nat → Int) {n : Nat} (h : n < 16) : (dv vl vw vs f g)[19 + n]? = some (.int .i64 (g n)) := by
  simp only [dv, Array.getElem?_append, Array.size_append, av_size]
  rw [if_neg (by simp)]
  simp only [List.size_toArray, List.length_cons, List.length_nil]
  rw [show 19 + n - (0 + 1 + 1 + 1 + 16) = n by omega, av_get g h]

theorem dv_ext {A : Array Value} {vl vw vs : Value} {f g : Nat → Int} (hs : A.size = 35) (h0 : A[0]? = some vl) (h1 : A[1]? = some vw) (h2 : A[2]? = some vs) (hf : ∀ n, n < 16 → A[3 + n]? = some (.int .i64 (f n))) (hg : ∀ n, n < 16 → A[19 + n]? = some (.int .i64 (g n))) : A = dv vl vw vs f g := by
  apply Array.ext_getElem?
  intro i
  by_cases c0 : i = 0
  · subst c0; rw [h0, dv_0]
  by_cases c1 : i = 1
  · subst c1; rw [h1, dv_1]
  by_cases c2 : i = 2
  · subst c2; rw [h2, dv_2]
  by_cases c3 : i < 19
  · obtain ⟨n, rfl⟩ : ∃ n, i = 3 + n := ⟨i - 3, by omega⟩
    rw [hf n (by omega), dv_f _ _ _ _ _ (by omega)]
  by_cases c4 : i < 35
  · obtain ⟨n, rfl⟩ : ∃ n, i = 19 + n := ⟨i - 19, by omega⟩
    rw [hg n (by omega), dv_g _ _ _ _ _ (by omega)]
  · rw [Array.getElem?_eq_none (by omega), Array.getElem?_eq_none (by rw [dv_size]; omega)]

theorem dv_setf (vl vw vs : Value) (f g : Nat → Int) {n : Nat} (h : n < 16) (x : Int) : (dv vl vw vs f g).setIfInBounds (3 + n) (.int .i64 x) = dv vl vw vs (upf f n x) g := by
  refine dv_ext (by simp [dv_size]) ?_ ?_ ?_ (fun k hk => ?_) (fun k hk => ?_)
  · rw [Array.getElem?_setIfInBounds, if_neg (by omega), dv_0]
  · rw [Array.getElem?_setIfInBounds, if_neg (by omega), dv_1]
  · rw [Array.getElem?_setIfInBounds, if_neg (by omega), dv_2]
  · rw [Array.getElem?_setIfInBounds]
    unfold upf
    by_cases e : n = k
    · subst e; rw [if_pos rfl, if_pos (by rw [dv_size]; omega), if_pos rfl]
    · rw [if_neg (by omega), dv_f _ _ _ _ _ hk, if_neg (fun x => e x.symm)]
  · rw [Array.getElem?_setIfInBounds, if_neg (by omega), dv_g _ _ _ _ _ hk]

theorem dv_setg (vl vw vs : Value) (f g : Nat → Int) {n : Nat} (h : n < 16) (x : Int) : (dv vl vw vs f g).setIfInBounds (19 + n) (.int .i64 x) = dv vl vw vs f (upf g n x) := by
  refine dv_ext (by simp [dv_size]) ?_ ?_ ?_ (fun k hk => ?_) (fun k hk => ?_)
  · rw [Array.getElem?_setIfInBounds, if_neg (by omega), dv_0]
  · rw [Array.getElem?_setIfInBounds, if_neg (by omega), dv_1]
  · rw [Array.getElem?_setIfInBounds, if_neg (by omega), dv_2]
  · rw [Array.getElem?_setIfInBounds, if_neg (by omega), dv_f _ _ _ _ _ hk]
  · rw [Array.getElem?_setIfInBounds]
    unfold upf
    by_cases e : n = k
    · subst e; rw [if_pos rfl, if_pos (by rw [dv_size]; omega), if_pos rfl]
    · rw [if_neg (by omega), dv_g _ _ _ _ _ hk, if_neg (fun x => e x.symm)]

theorem dv_sets (vl vw vs : Value) (f g : Nat → Int) (x : Value) : (dv vl vw vs f g).setIfInBounds 2 x = dv vl vw x f g := by
  refine dv_ext (by simp [dv_size]) ?_ ?_ ?_ (fun k hk => ?_) (fun k hk => ?_)
  · rw [Array.getElem?_setIfInBounds, if_neg (by omega), dv_0]
  · rw [Array.getElem?_setIfInBounds, if_neg (by omega), dv_1]
  · rw [Array.getElem?_setIfInBounds, if_pos rfl, if_pos (by rw [dv_size]; omega)]
  · rw [Array.getElem?_setIfInBounds, if_neg (by omega), dv_f _ _ _ _ _ hk]
  · rw [Array.getElem?_setIfInBounds, if_neg (by omega), dv_g _ _ _ _ _ hk]

def shf (l : List Int) (n : Nat) : Int := (sh l n : Int) - fi l n
def en (l : List Int) (n : Nat) : Int := (fi l n : Int) + cn l n
def upTo (f : Nat → Int) (k n : Nat) : Int := if n < k then f n else 0

theorem upTo_succ (f : Nat → Int) (k : Nat) (x : Int) (hx : x = f k) : upf (upTo f k) k x = upTo f (k + 1) := by
  funext n
  unfold upf upTo
  by_cases e : n = k
  · subst e; rw [if_pos rfl, if_pos (by omega), hx]
  · rw [if_neg e]
    by_cases h : n < k
    · rw [if_pos h, if_pos (by omega)]
    · rw [if_neg h, if_neg (by omega)]

theorem grownBy_drewN {w w' : World} {r : Option Nat} (h : w.grownBy w' r) (n : Nat) : w.grownBy (w'.drewN n) r := ⟨h.os, h.tape, h.output, h.size, h.block⟩

theorem grownBy_at {w w' : World} {g o : Nat} {u : Value} (h : w.grownBy w' (some g)) : w.grownBy (w'.setCell ⟨g, o, none⟩ u) (some g) :=
  ⟨h.os, h.tape, h.output, by rw [size_setCell]; exact h.size, fun k hk hr => (setCell_others w' g o u k (fun e => hr (by rw [e]))).trans (h.block k hk hr)⟩

/-- The decoder's block, and the first words in their box. -/
structure Ar (w : World) (g : Nat) (vl vw : Value) (l : List Int) (a b : Nat) (wr : World) : Prop where
  d : wr.heap[g]? = some (.cells (dv vl vw (.slice none 0 0) (upTo (shf l) a) (upTo (en l) b)) 130 (0, 0))
  f : wr.heap[w.heap.size + 1]? = some (.cells (av fun n => (fi l n : Int)) 106 (0, 0))
  g : w.grownBy wr (some g)

theorem Ar.drewN {w : World} {g : Nat} {vl vw : Value} {l : List Int} {a b : Nat} {wr : World} (h : Ar w g vl vw l a b wr) (n : Nat) : Ar w g vl vw l a b (wr.drewN n) := ⟨h.d, h.f, grownBy_drewN h.g n⟩

theorem Ar.setf {w : World} {g : Nat} {vl vw : Value} {l : List Int} {a b : Nat} {wr : World} (h : Ar w g vl vw l a b wr) (hg : g < w.heap.size) (ha : a < 16) (x : Int) (hx : x = shf l a) : Ar w g vl vw l (a + 1) b (wr.setCell ⟨g, 3 + a, none⟩ (.int .i64 x)) := by
  refine ⟨?_, (setCell_others wr g _ _ _ (by omega)).trans h.f, grownBy_at h.g⟩
  rw [heap_setCell_same _ _ _ _ _ _ h.d, dv_setf _ _ _ _ _ ha, upTo_succ _ _ _ hx]

theorem Ar.setg {w : World} {g : Nat} {vl vw : Value} {l : List Int} {a b : Nat} {wr : World} (h : Ar w g vl vw l a b wr) (hg : g < w.heap.size) (ha : b < 16) (x : Int) (hx : x = en l b) : Ar w g vl vw l a (b + 1) (wr.setCell ⟨g, 19 + b, none⟩ (.int .i64 x)) := by
  refine ⟨?_, (setCell_others wr g _ _ _ (by omega)).trans h.f, grownBy_at h.g⟩
  rw [heap_setCell_same _ _ _ _ _ _ h.d, dv_setg _ _ _ _ _ ha, upTo_succ _ _ _ hx]

theorem Ar.cf {w : World} {g : Nat} {vl vw : Value} {l : List Int} {a b : Nat} {wr : World} (h : Ar w g vl vw l a b wr) {n : Nat} (hn : n < 16) : wr.cell? ⟨w.heap.size + 1, n, none⟩ = some (.int .i64 (fi l n)) := by
  rw [cell_of_row _ _ _ _ _ _ h.f, av_get _ hn]

theorem Ar.c3 {w : World} {g : Nat} {vl vw : Value} {l : List Int} {a b : Nat} {wr : World} (h : Ar w g vl vw l a b wr) {n : Nat} (hn : n < 16) : wr.cell? ⟨g, 3 + n, none⟩ = some (.int .i64 (upTo (shf l) a n)) := by
  rw [cell_of_row _ _ _ _ _ _ h.d, dv_f _ _ _ _ _ hn]

theorem Ar.c19 {w : World} {g : Nat} {vl vw : Value} {l : List Int} {a b : Nat} {wr : World} (h : Ar w g vl vw l a b wr) {n : Nat} (hn : n < 16) : wr.cell? ⟨g, 19 + n, none⟩ = some (.int .i64 (upTo (en l) b n)) := by
  rw [cell_of_row _ _ _ _ _ _ h.d, dv_g _ _ _ _ _ hn]

theorem Ar.fz {w : World} {g : Nat} {vl vw : Value} {l : List Int} {a b : Nat} {wr : World} (h : Ar w g vl vw l a b wr) (n : Nat) : wr.frozen? ⟨g, n, none⟩ = false := frozen_of_row _ _ _ _ _ h.d

def SymOk (l sy : List Int) : Prop := sy.length = sh l 16 ∧ ∀ s, Has l s → sy.getD (ix l s) 0 = (s : Int)

/-- The decoder's block, and the symbols that have found their place. -/
structure As (w : World) (g : Nat) (vl vw : Value) (l : List Int) (gS z k : Nat) (wr : World) : Prop where
  d : wr.heap[g]? = some (.cells (dv vl vw (.slice (some ⟨gS, 0, none⟩) z z) (shf l) (en l)) 130 (0, 0))
  s : ∃ sy : List Int, wr.heap[gS]? = some (.cells (sy.map (Value.int .i64)).toArray 3 (0, 0)) ∧ sy.length = z ∧ ∀ s, s < k → Has l s → sy.getD (ix l s) 0 = (s : Int)
  g : w.grownBy wr (some g)

theorem As.drewN {w : World} {g : Nat} {vl vw : Value} {l : List Int} {gS z k : Nat} {wr : World} (h : As w g vl vw l gS z k wr) (n : Nat) : As w g vl vw l gS z k (wr.drewN n) := ⟨h.d, h.s, grownBy_drewN h.g n⟩

theorem As.skip {w : World} {g : Nat} {vl vw : Value} {l : List Int} {gS z k : Nat} {wr : World} (h : As w g vl vw l gS z k wr) (h0 : ¬ Has l k) : As w g vl vw l gS z (k + 1) wr := by
  obtain ⟨sy, h1, h2, h3⟩ := h.s
  refine ⟨h.d, ⟨sy, h1, h2, fun s hs hh => ?_⟩, h.g⟩
  by_cases e : s = k
  · subst e; exact absurd hh h0
  · exact h3 s (by omega) hh

theorem As.put {w : World} {g : Nat} {vl vw : Value} {l : List Int} {gS z k : Nat} {wr : World} (h : As w g vl vw l gS z k wr) (hl : Lens l) (hh : Has l k) (hne : gS ≠ g) (hge : w.heap.size ≤ gS) (hj : ix l k < z) : As w g vl vw l gS z (k + 1) (wr.setCell ⟨gS, ix l k, none⟩ (.int .i64 k)) := by
  obtain ⟨sy, h1, h2, h3⟩ := h.s
  refine ⟨(setCell_others wr gS _ _ _ (fun e => hne e.symm)).trans h.d, ⟨sy.set (ix l k) k, ?_, by simp [h2], fun s hs hs2 => ?_⟩, grownBy_new h.g hge⟩
  · rw [heap_setCell_same _ _ _ _ _ _ h1, map_set]
  · by_cases e : s = k
    · subst e
      simp [List.getD, h2, hj]
    · have hi : ix l k ≠ ix l s := fun e2 => e (ix_inj hl hs2 hh e2.symm)
      rw [← h3 s (by omega) hs2]
      simp [List.getD, hi]

theorem As.c {w : World} {g : Nat} {vl vw : Value} {l : List Int} {gS z k : Nat} {wr : World} (h : As w g vl vw l gS z k wr) : wr.cell? ⟨g, 0, none⟩ = some vl ∧ wr.cell? ⟨g, 1, none⟩ = some vw ∧ wr.cell? ⟨g, 2, none⟩ = some (.slice (some ⟨gS, 0, none⟩) z z) ∧ (∀ n, n < 16 → wr.cell? ⟨g, 3 + n, none⟩ = some (.int .i64 (shf l n))) ∧ (∀ j, j < z → ∃ u, wr.cell? ⟨gS, j, none⟩ = some u) ∧ ∀ j, wr.frozen? ⟨gS, j, none⟩ = false := by
  obtain ⟨sy, h1, h2, _⟩ := h.s
  refine ⟨by rw [cell_of_row _ _ _ _ _ _ h.d, dv_0], by rw [cell_of_row _ _ _ _ _ _ h.d, dv_1], by rw [cell_of_row _ _ _ _ _ _ h.d, dv_2], fun n hn => by rw [cell_of_row _ _ _ _ _ _ h.d, dv_f _ _ _ _ _ hn], fun j hj => ?_, fun j => frozen_of_row _ _ _ _ _ h1⟩
  rw [cell_of_row _ _ _ _ _ _ h1]
  have : j < sy.length := by omega
  exact ⟨_, by simp [this]; rfl⟩

theorem OI.still {w wr : World} {g : Nat} {v : Value} {L : List Int} (h : OI w 0 v L) (hg : w.grownBy wr (some g)) (hn : v.ownBlock ≠ some g) : OI wr 0 v L :=
  h.move fun k hk => hg.block k (h.lt k hk).2 (fun e => hn (by rw [hk, e]))

theorem ix_eq {l : List Int} {k : Nat} (hh : Has l k) : shf l (ln l k) + (wd l k : Int) = (ix l k : Int) := by
  rw [hh.wd]
  unfold shf ix
  push_cast
  omega

def Arranged (w : World) (g : Nat) (vl vw : Value) (l : List Int) (w' : World) : Prop := ∃ vs sy, w'.heap[g]? = some (.cells (dv vl vw vs (shf l) (en l)) 130 (0, 0)) ∧ OI w' w.heap.size vs sy ∧ SymOk l sy ∧ w.grownBy w' (some g)

set_option maxHeartbeats 1000000 in
theorem arrange_any (g : Nat) (vl vw : Value) (l : List Int) (w : World) (hd : w.heap[g]? = some (.cells (dv vl vw (.slice none 0 0) (fun _ => 0) (fun _ => 0)) 130 (0, 0))) (hgl : g < w.heap.size) (hl : Lens l) (h1 : OI w 0 vl l) (h2 : OI w 0 vw (wds l)) (n1 : vl.ownBlock ≠ some g) (n2 : vw.ownBlock ≠ some g) :
    Calls Tryd.prog 76 #[.pointer (some ⟨g, 0, none⟩), .agg (av fun n => (cn l n : Int)), .agg (av fun n => (fi l n : Int))] w fun e w' => e = .returned (.tuple #[]) ∧ Arranged w g vl vw l w' := by
  have HD := hide hd
  have HL := hide hl
  have H1 := hide h1
  have H2 := hide h2
  have N1 := hide n1
  have N2 := hide n2
  clear hd hl h1 h2 n1 n2
  obtain ⟨C, HC⟩ : ∃ C, Hid (C = av fun n => (cn l n : Int)) := ⟨_, rfl⟩
  obtain ⟨F, HF⟩ : ∃ F, Hid (F = av fun n => (fi l n : Int)) := ⟨_, rfl⟩
  rw [← HC.out, ← HF.out]
  obtain ⟨W, HW⟩ : ∃ W, Hid (W = (w.alloc (.cells C 106)).alloc (.cells F 106)) := ⟨_, rfl⟩
  have HG : Hid (((w.alloc (.cells C 106)).alloc (.cells F 106)).heap[w.heap.size]? = some (.cells (av fun n => (cn l n : Int)) 106 (0, 0))) := by rw [← HC.out]; exact (heap_two w _ _).2
  have HA : Hid (Ar w g vl vw l 0 0 W) := by
    rw [HW.out]
    refine ⟨?_, by rw [← HF.out]; exact (heap_two w _ _).1, ?_⟩
    · rw [Below.heap_alloc _ _ _ (by simp; omega), Below.heap_alloc _ _ _ hgl, HD.out]
      rfl
    · refine ⟨rfl, rfl, rfl, by simp; omega, fun k hk _ => ?_⟩
      rw [Below.heap_alloc _ _ _ (by simp; omega), Below.heap_alloc _ _ _ hk]
  go_enter Tryd.func76, Tryd.ntmps76
  go_wp2_with ((with_reducible refine wpList_loadP w.heap.size _ ?hx HG.out ?_); (case hx => rfl))
  rw [← HW.out]
  clear HG
  go_loopw [6, 12] (fun u i wr => ∃ k : Nat, k ≤ 16 ∧ i = .int .i64 k ∧ u = .int .i64 (sh l k) ∧ Hid (Ar w g vl vw l k k wr)) (fun _ i _ => 16 - (intOf i).toNat)
  case atStart => exact ⟨0, Nat.zero_le _, rfl, rfl, HA⟩
  case round =>
    clear HA
    obtain ⟨k, hk, rfl, rfl, HT⟩ := hrel
    have bs : sh l k ≤ 288 := Nat.le_trans (sh_le l k) HL.out.1
    by_cases hlt : k < 16
    · have hlt' : (k : Int) < 16 := by omega
      have hg := fun W => run_index (fun n => (cn l n : Int)) hlt W
      have b1 := fi_top HL.out (n := k) (by omega)
      have b2 : cn l k ≤ 288 := by have := cn_le l k; have := HL.out.1; omega
      have c1 := HT.out.cf hlt
      have c2 := HT.out.c3 hlt
      have f2 := HT.out.fz (3 + k)
      obtain ⟨x, HX⟩ : ∃ x : Nat, Hid (x = fi l k) := ⟨_, rfl⟩
      obtain ⟨y, HY⟩ : ∃ y : Nat, Hid (y = cn l k) := ⟨_, rfl⟩
      obtain ⟨z, HZ⟩ : ∃ z : Nat, Hid (z = sh l k) := ⟨_, rfl⟩
      rw [← HX.out] at c1 b1
      rw [← HY.out] at b2 hg
      rw [← HZ.out] at bs ⊢
      obtain ⟨W1, HW1⟩ : ∃ W1, Hid (W1 = (wr.setCell ⟨g, 3 + k, none⟩ (.int .i64 ((z : Int) - x))).drew) := ⟨_, rfl⟩
      have HA1 : Hid (Ar w g vl vw l (k + 1) k W1) := by rw [HW1.out]; exact (HT.out.setf hgl hlt _ (by rw [HZ.out, HX.out]; rfl)).drewN 1
      clear HT
      go_wp2
      go_region
      rw [← HW1.out]
      have d1 := HA1.out.cf hlt
      have d2 := HA1.out.c19 hlt
      have d3 := HA1.out.fz (19 + k)
      rw [← HX.out] at d1
      have HN : Hid (Ar w g vl vw l (k + 1) (k + 1) ((W1.setCell ⟨g, 19 + k, none⟩ (.int .i64 ((x : Int) + y))).drew)) := (HA1.out.setg hgl hlt _ (by rw [HX.out, HY.out]; rfl)).drewN 1
      have HSS : Hid (sh l (k + 1) = z + y) := by show _ = _; rw [HZ.out, HY.out]; rfl
      clear HA1 c1 c2 f2 HW1
      go_wp2
      go_region
      go_wp2
      go_roundw
      case rel => exact ⟨k + 1, by omega, by go_num, by rw [HSS.out]; push_cast; rfl, HN⟩
      case measure => simp [intOf]; omega
    · obtain rfl : k = 16 := by omega
      have hlt' : ¬ ((16 : Nat) : Int) < 16 := by omega
      have HDD : Hid (wr.heap[g]? = some (.cells (dv vl vw (.slice none 0 0) (shf l) (en l)) 130 (0, 0))) := by
        have := HT.out.d
        have e : ∀ f : Nat → Int, av (upTo f 16) = av f := fun f => av_congr fun i hi => if_pos hi
        unfold dv at this
        rw [e, e] at this
        exact this
      have HGR := hide HT.out.g
      clear HT
      obtain ⟨z, HZ⟩ : ∃ z : Nat, Hid (z = sh l 16) := ⟨_, rfl⟩
      rw [← HZ.out] at bs ⊢
      go_wp2_with (at_make; refine wpList_mkI rfl _ _ rfl _ _ _ _ z z rfl rfl rfl rfl (Nat.le_refl _) (by omega) ?_)
      intro w2 hg2 hb2
      obtain ⟨gS, hgS⟩ : ∃ gS, gS = wr.heap.size := ⟨_, rfl⟩
      rw [← hgS] at hg2 hb2 ⊢
      have HGS := hide hgS
      clear hgS
      have hgw : g < gS := by rw [HGS.out]; have := HGR.out.size; omega
      have hge : w.heap.size ≤ gS := by rw [HGS.out]; exact HGR.out.size
      have HD2 : Hid (w2.heap[g]? = some (.cells (dv vl vw (.slice none 0 0) (shf l) (en l)) 130 (0, 0))) := (hb2.block _ hgw).trans HDD.out
      have c2 : w2.cell? ⟨g, 2, none⟩ = some (.slice none 0 0) := by rw [cell_of_row _ _ _ _ _ _ HD2.out, dv_2]
      have f2 : w2.frozen? ⟨g, 2, none⟩ = false := frozen_of_row _ _ _ _ _ HD2.out
      obtain ⟨W2, HW2⟩ : ∃ W2, Hid (W2 = w2.setCell ⟨g, 2, none⟩ (.slice (some ⟨gS, 0, none⟩) z z)) := ⟨_, rfl⟩
      have HS2 : Hid (As w g vl vw l gS z 0 W2) := by
        rw [HW2.out]
        refine ⟨by rw [heap_setCell_same _ _ _ _ _ _ HD2.out, dv_sets], ⟨List.replicate z 0, ?_, by simp, fun s hs => by omega⟩, ?_⟩
        · rw [setCell_others w2 g _ _ _ (by omega), hg2]; simp
        · refine grownBy_at ⟨hb2.os.trans HGR.out.os, hb2.tape.trans HGR.out.tape, hb2.output.trans HGR.out.output, Nat.le_trans HGR.out.size hb2.size, fun k hk hr => (hb2.block k (by omega)).trans (HGR.out.block k hk hr)⟩
      have k0 : w2.cell? ⟨g, 0, none⟩ = some vl := by rw [cell_of_row _ _ _ _ _ _ HD2.out, dv_0]
      obtain ⟨al, cl, hvl⟩ := H1.out.shape
      obtain ⟨aw, cw, hvw⟩ := H2.out.shape
      rw [wds_len] at hvw
      subst hvl hvw
      clear hg2 hb2 HDD HGR
      have hcl : l.length ≤ cl ∧ cl ≤ 9223372036854775807 := by
        obtain ⟨ao', cap', e1, e2, e3, _⟩ := H1.out.sb
        simp only [Value.slice.injEq] at e1
        obtain ⟨-, -, rfl⟩ := e1
        unfold maxLen at e3
        exact ⟨e2, by omega⟩
      obtain ⟨hcl1, hcl2⟩ := hcl
      go_wp2
      rw [← HW2.out]
      clear HD2 c2 f2 HW2 k0
      go_loopw [51] (fun i wr2 => ∃ k : Nat, k ≤ l.length ∧ i = .int .i64 k ∧ Hid (As w g (.slice al l.length cl) (.slice aw l.length cw) l gS z k wr2)) (fun i _ => l.length - (intOf i).toNat)
      case atStart => exact ⟨0, Nat.zero_le _, rfl, HS2⟩
      case round =>
        clear HS2
        obtain ⟨k, hk, rfl, HT⟩ := hrel
        by_cases hkl : k < l.length
        · have hkl' : (k : Int) < (l.length : Int) := by omega
          obtain ⟨n, HN⟩ : ∃ n, Hid (ln l k = n) := ⟨_, rfl⟩
          have hn15 : n < 16 := by rw [← HN.out]; have := (HL.out.ln k).2; omega
          obtain ⟨bl, _, hal, _⟩ := H1.out.form (by omega)
          simp only [Value.slice.injEq] at hal
          obtain ⟨rfl, -, rfl⟩ := hal
          have hc := (H1.out.still HT.out.g N1.out).get (b := bl) rfl hkl
          rw [(HL.out.ln k).1, HN.out] at hc
          by_cases h0 : n = 0
          · have HX := hide (HT.out.skip (fun hh => by have := hh.2; rw [HN.out] at this; omega))
            subst h0
            clear HT
            go_wp2
            go_roundw
            case rel => exact ⟨k + 1, by omega, by go_num, HX⟩
            case measure => simp [intOf]; omega
          · have h0' : (0 : Int) < n := by omega
            have hh : Has l k := ⟨hkl, by rw [HN.out]; omega⟩
            obtain ⟨bw, _, haw, _⟩ := H2.out.form (by rw [wds_len]; omega)
            simp only [Value.slice.injEq] at haw
            obtain ⟨rfl, -, rfl⟩ := haw
            have hcw := (H2.out.still HT.out.g N2.out).get (b := bw) rfl (i := k) (by rw [wds_len]; exact hkl)
            rw [wds_get hkl] at hcw
            have hj : ix l k < z := by rw [HZ.out]; exact ix_lt HL.out hh
            have hix := ix_eq hh
            obtain ⟨_, q1, q2, q3, q4, q5⟩ := HT.out.c
            have q3' := q3 n hn15
            obtain ⟨u, q4'⟩ := q4 _ hj
            have q5' := q5 (ix l k)
            have HX := hide ((HT.out.put HL.out hh (by omega) hge hj).drewN 1)
            have bw1 : wd l k ≤ 100000000 := by
              have h1 := hh.rk_lt HL.out
              have h2 := cn_le l (ln l k)
              have h3 := HL.out.1
              have h4 := fi_top HL.out (n := ln l k) (HL.out.ln k).2
              rw [hh.wd]; omega
            have bx : shf l n = (ix l k : Int) - wd l k := by rw [← HN.out]; omega
            obtain ⟨y, HY⟩ : ∃ y : Nat, Hid (y = wd l k) := ⟨_, rfl⟩
            obtain ⟨j, HJ⟩ : ∃ j : Nat, Hid (j = ix l k) := ⟨_, rfl⟩
            rw [← HY.out] at hcw bw1 bx
            rw [← HJ.out] at hj q4' q5' HX bx
            rw [bx] at q3'
            have e1 : (j : Int) - y + y = j := by omega
            clear HT hix q3 q4 q5 bx hh
            go_wp2
            go_region
            go_wp2
            go_roundw
            case rel => exact ⟨k + 1, by omega, by go_num, HX⟩
            case measure => simp [intOf]; omega
        · obtain rfl : k = l.length := by omega
          have hkl' : ¬ (l.length : Int) < (l.length : Int) := by omega
          go_wp2
          (try simp only [Exit.inBlock, Exit.then]); refine bodyPost_end (results_none rfl _ _ _) rfl ?_
          obtain ⟨sy, s1, s2, s3⟩ := HT.out.s
          refine ⟨rfl, _, sy, HT.out.d, ?_, ⟨by rw [s2, HZ.out], fun s hs => s3 s hs.1 hs⟩, HT.out.g⟩
          have := OI.of_full (base := w.heap.size) s1 hge (by rw [s2]; unfold maxLen; omega)
          rwa [s2] at this
end Go.Proofs.YtegoienjikjhkaaDoor

namespace Go.Proofs.YtegoienjikjhkaaDoor
open Go.RowKit Go.Maps
set_option maxRecDepth 20000

theorem wpList_loadB {ops : Array Oper} {rest : List Oper} {a : Act} {w : World} {Q : Exit → Act → World → Prop} {dst : Option Tmp} {x : Operand} {ty : TypeId} {pos : String} {after : Array Edge} (g : Nat) (vl vw : Value)
    (hx : a.eval x = .pointer (some ⟨g, 0, none⟩)) (hg : w.heap[g]? = some (.cells #[vl, vw] 121 (0, 0))) (h : wpList Tryd.prog ops Q rest (a.put dst (.agg #[vl, vw])) w) :
    wpList Tryd.prog ops Q ({ dst := dst, op := .load 121 x, type := ty, pos := pos, after := after, guard := none } :: rest) a w :=
  wpList_load_row rfl 121 x rfl g hx 121 #[vl, vw] (0, 0) _ hg Tryd.underlying121 rfl (by kernel_rfl) h

theorem step_loadP {ops : Array Oper} {o : Oper} {a : Act} {w : World} {K : Act → World → Prop} {Q : Exit → Act → World → Prop} {E : Prop} (hgd : o.guard = none) (x : Operand) (ho : o.op = .load 106 x) (g : Nat) (f : Nat → Int)
    (hx : a.eval x = .pointer (some ⟨g, 0, none⟩)) (hg : w.heap[g]? = some (.cells (av f) 106 (0, 0))) (h : K (a.put o.dst (.agg (av f))) w) :
    if Region.wanted o (yielded ops a.tmps) = true then Oper.wp Tryd.prog o a w K Q else E := by
  have hw : Region.wanted o (yielded ops a.tmps) = true := by simp [Region.wanted, hgd]
  rw [if_pos hw]
  exact wp_load_row 106 x ho g hx 106 (av f) (0, 0) _ hg Tryd.underlying106 rfl (sizePer f) h

theorem step_call1 {P : Program} {ops : Array Oper} {o : Oper} {a : Act} {w : World} {K : Act → World → Prop} {Q : Exit → Act → World → Prop} {E : Prop} (hgd : o.guard = none) (x0 : Operand) (t0 : TypeId) (f : FuncId)
    (ho : o.op = .call { callee := .value (.func f), args := #[x0], argTypes := #[t0] }) (hcall : ∀ args w, (callFunc f args).run P w = .ok (.enter f args) w) (v0 : Value) (h0 : a.eval x0 = v0) {R : Value → World → Prop}
    (hc : Calls P f #[v0] w fun e w' => ∃ u, e = .returned u ∧ R u w') (h : ∀ v w', R v w' → K (a.put o.dst v) w') :
    if Region.wanted o (yielded ops a.tmps) = true then Oper.wp P o a w K Q else E := by
  have hw : Region.wanted o (yielded ops a.tmps) = true := by simp [Region.wanted, hgd]
  rw [if_pos hw]
  have hrun : (execOp a.eval o).run P w = .ok (.enter f #[v0]) w := by
    obtain ⟨dst, op, type, pos, after, guard⟩ := o
    simp only [] at ho
    subst ho
    rw [execOp_call_go, hcall]
    simp [h0]
  unfold Oper.wp
  rw [hrun, Oper.upon_enter]
  refine hc.mono fun e w'' hh => ?_
  obtain ⟨v, rfl, hr⟩ := hh
  exact h _ _ hr

theorem step_call3 {P : Program} {ops : Array Oper} {o : Oper} {a : Act} {w : World} {K : Act → World → Prop} {Q : Exit → Act → World → Prop} {E : Prop} (hgd : o.guard = none) (x y z : Operand) (t u s : TypeId) (f : FuncId)
    (ho : o.op = .call { callee := .value (.func f), args := #[x, y, z], argTypes := #[t, u, s] }) (hcall : ∀ args w, (callFunc f args).run P w = .ok (.enter f args) w) (v1 v2 v3 : Value) (hx : a.eval x = v1) (hy : a.eval y = v2) (hz : a.eval z = v3) {R : Value → World → Prop}
    (hc : Calls P f #[v1, v2, v3] w fun e w' => ∃ u, e = .returned u ∧ R u w') (h : ∀ v w', R v w' → K (a.put o.dst v) w') :
    if Region.wanted o (yielded ops a.tmps) = true then Oper.wp P o a w K Q else E := by
  have hw : Region.wanted o (yielded ops a.tmps) = true := by simp [Region.wanted, hgd]
  rw [if_pos hw]
  have hrun : (execOp a.eval o).run P w = .ok (.enter f #[v1, v2, v3]) w := by
    obtain ⟨dst, op, type, pos, after, guard⟩ := o
    simp only [] at ho
    subst ho
    rw [execOp_call_go, hcall]
    simp [hx, hy, hz]
  unfold Oper.wp
  rw [hrun, Oper.upon_enter]
  refine hc.mono fun e w'' hh => ?_
  obtain ⟨v, rfl, hr⟩ := hh
  exact h _ _ hr

def dcE (l : List Int) : Int := if bkE l ≠ 0 then bkE l else if shp l = 0 then 53 else 0

/-- A decoder in memory. -/
structure Dp (w : World) (K : Nat → Nat) (g : Nat) (l : List Int) : Prop where
  d : ∃ vl vw vs sy, w.heap[g]? = some (.cells (dv vl vw vs (shf l) (en l)) 130 (0, 0)) ∧ OI w 0 vl l ∧ OI w 0 vw (wds l) ∧ OI w 0 vs sy ∧ SymOk l sy ∧ (∀ k, vl.ownBlock = some k → K k ≠ 0) ∧ (∀ k, vw.ownBlock = some k → K k ≠ 0) ∧ (∀ k, vs.ownBlock = some k → K k ≠ 0)
  k : K g ≠ 0
  sup : ∀ k, K k ≠ 0 → k < w.heap.size
  ok : dcE l = 0

theorem Dp.far {w w' : World} {K : Nat → Nat} {g : Nat} {l : List Int} (h : Dp w K g l) (hsz : w.heap.size ≤ w'.heap.size) (hb : ∀ k, K k ≠ 0 → w'.heap[k]? = w.heap[k]?) : Dp w' K g l := by
  obtain ⟨vl, vw, vs, sy, a1, a2, a3, a4, a5, a6, a7, a8⟩ := h.d
  exact ⟨⟨vl, vw, vs, sy, (hb g h.k).trans a1, a2.move fun k hk => hb k (a6 k hk), a3.move fun k hk => hb k (a7 k hk), a4.move fun k hk => hb k (a8 k hk), a5, a6, a7, a8⟩, h.k, fun k hk => Nat.lt_of_lt_of_le (h.sup k hk) hsz, h.ok⟩

def MadeD (w : World) (l : List Int) (e : Ending) (w' : World) : Prop := Below w.heap.size w w' ∧ ((dcE l ≠ 0 ∧ e = .returned (.tuple #[.pointer none, .int .i64 (dcE l)])) ∨ (dcE l = 0 ∧ ∃ g K, e = .returned (.tuple #[.pointer (some ⟨g, 0, none⟩), .int .i64 0]) ∧ Dp w' K g l ∧ ∀ k, K k ≠ 0 → w.heap.size ≤ k))

theorem dv_new (vl vw : Value) : dv vl vw (.slice none 0 0) (fun _ => 0) (fun _ => 0) = #[vl, vw, .slice none 0 0, .int .i64 0, .int .i64 0, .int .i64 0, .int .i64 0, .int .i64 0, .int .i64 0, .int .i64 0, .int .i64 0, .int .i64 0, .int .i64 0, .int .i64 0, .int .i64 0, .int .i64 0, .int .i64 0, .int .i64 0, .int .i64 0, .int .i64 0, .int .i64 0, .int .i64 0, .int .i64 0, .int .i64 0, .int .i64 0, .int .i64 0, .int .i64 0, .int .i64 0, .int .i64 0, .int .i64 0, .int .i64 0, .int .i64 0, .int .i64 0, .int .i64 0, .int .i64 0] := by
  simp [dv, av_zero]

set_option linter.unusedSimpArgs false in
set_option maxHeartbeats 1000000 in
theorem newDecoder_any (v : Value) (l : List Int) (w : World) (h : SI w v l) :
    Calls Tryd.prog 59 #[v] w fun e w' => MadeD w l e w' := by
  have HS := hide h
  obtain ⟨ao, cap, rfl, hlc, hcm⟩ := h.open
  clear h
  go_enter Tryd.func59, Tryd.ntmps59
  go_wp2_with fail
  refine (newBook_any _ l _ HS.out).mono ?_
  rintro e w1 ⟨vl, vw, rfl, hbk, hb1⟩
  have HB1 := hide hb1
  have HBK := hide hbk
  clear hb1 hbk
  have HA : Hid ((w1.alloc (.cells #[.slice none 0 0, .slice none 0 0] 121)).heap[w1.heap.size]? = some (.cells #[.slice none 0 0, .slice none 0 0] 121 (0, 0))) := heap_alloc_new w1 _
  have HBA : Hid (Below w.heap.size w (w1.alloc (.cells #[.slice none 0 0, .slice none 0 0] 121))) := HB1.out.alloc HB1.out.size _
  have o1 : Hid (vl.oneCell' = true ∧ vw.oneCell' = true) := by
    rcases HBK.out with ⟨_, rfl, rfl⟩ | ⟨_, h1, h2⟩
    · exact ⟨rfl, rfl⟩
    · obtain ⟨_, _, e1⟩ := h1.shape
      obtain ⟨_, _, e2⟩ := h2.shape
      rw [e1, e2]; exact ⟨rfl, rfl⟩
  obtain ⟨w2, HW2⟩ : ∃ w2, Hid (w2 = (w1.alloc (.cells #[.slice none 0 0, .slice none 0 0] 121)).setRow w1.heap.size #[vl, vw]) := ⟨_, rfl⟩
  have HA2 : Hid (w2.heap[w1.heap.size]? = some (.cells #[vl, vw] 121 (0, 0))) := by rw [HW2.out]; exact setRow_heap _ _ _ _ _ _ HA.out
  have hb12 : Below w1.heap.size w1 w2 := by rw [HW2.out]; exact below_setRow ((Below.refl _ _).alloc (Nat.le_refl _) _) (Nat.le_refl _)
  have HB12 := hide hb12
  have HB2 : Hid (Below w.heap.size w w2) := HB1.out.trans (hb12.mono HB1.out.size)
  have hsz2 : w2.heap.size = w1.heap.size + 1 := by rw [HW2.out]; simp
  have HSZ2 := hide hsz2
  clear hb12 hsz2
  by_cases h0 : bkE l = 0
  case neg =>
    have h0' : (bkE l == 0) = false := by simpa using h0
    have HE : Hid (dcE l = bkE l) := if_pos h0
    have HNE : Hid (dcE l ≠ 0) := by show _ ≠ _; rw [HE.out]; exact h0
    obtain ⟨q, HQ⟩ : ∃ q, Hid (q = bkE l) := ⟨_, rfl⟩
    rw [← HQ.out] at h0 h0' HE ⊢
    go_wp2_with ((with_reducible refine wpList_storeB w1.heap.size vl vw _ _ ?hx ?hy HA.out ?h1 ?h2 ?_); (case hx => rfl); (case hy => rfl); (case h1 => exact o1.out.1); (case h2 => exact o1.out.2))
    rw [← HW2.out]
    go_ret2
    exact ⟨HB2.out, .inl ⟨HNE.out, by rw [HE.out]; rfl⟩⟩
  rw [h0]
  obtain ⟨hl, s2, s3⟩ := bkE_zero h0
  have HL := hide hl
  have HBO := hide (show OI w1 w.heap.size vl l ∧ OI w1 w.heap.size vw (wds l) from by
    rcases HBK.out with ⟨hne, _⟩ | ⟨_, h1, h2⟩
    · exact absurd h0 hne
    · exact ⟨h1, h2⟩)
  have H0 := hide h0
  clear hl s2 s3 h0 HBK
  have HSL : Hid (SI w2 vl l) := (HBO.out.1.below HB12.out (Nat.le_refl _)).sb
  have k0 : w2.cell? ⟨w1.heap.size, 0, none⟩ = some vl := by rw [cell_of_row _ _ _ _ _ _ HA2.out]; rfl
  have HK0 := hide k0
  clear k0
  obtain ⟨al, cl, hvl⟩ := HBO.out.1.shape
  obtain ⟨aw, cw, hvw⟩ := HBO.out.2.shape
  rw [wds_len] at hvw
  subst hvl hvw
  have kz : ((w1.alloc (.cells #[.slice none 0 0, .slice none 0 0] 121)).setRow w1.heap.size #[.slice al l.length cl, .slice aw l.length cw]).cell? ⟨w1.heap.size, 0, none⟩ = some (.slice al l.length cl) := by rw [← HW2.out]; exact HK0.out
  go_wp2_with ((with_reducible refine wpList_storeB w1.heap.size (.slice al l.length cl) (.slice aw l.length cw) _ _ ?hx ?hy HA.out ?h1 ?h2 ?_); (case hx => rfl); (case hy => rfl); (case h1 => rfl); (case h2 => rfl))
  rw [← HW2.out]
  clear kz
  refine (count_any _ l _ HSL.out HL.out).mono ?_
  rintro e w3 ⟨rfl, hb3⟩
  have HA3 : Hid (w3.heap[w1.heap.size]? = some (.cells #[.slice al l.length cl, .slice aw l.length cw] 121 (0, 0))) := (hb3.block _ (by rw [HSZ2.out]; omega)).trans HA2.out
  have HB13 : Hid (Below w1.heap.size w1 w3) := HB12.out.trans (hb3.mono (by rw [HSZ2.out]; omega))
  have hw3 : w1.heap.size < w3.heap.size := by have := hb3.size; rw [HSZ2.out] at this; omega
  clear hb3
  have HZ : Hid ((w3.alloc (.cells #[.int .i64 0, .int .i64 0, .int .i64 0, .int .i64 0, .int .i64 0, .int .i64 0, .int .i64 0, .int .i64 0, .int .i64 0, .int .i64 0, .int .i64 0, .int .i64 0, .int .i64 0, .int .i64 0, .int .i64 0, .int .i64 0] 106)).heap[w3.heap.size]? = some (.cells (av fun _ => 0) 106 (0, 0))) := by rw [av_zero]; exact heap_alloc_new w3 _
  obtain ⟨w4, HW4⟩ : ∃ w4, Hid (w4 = (w3.alloc (.cells #[.int .i64 0, .int .i64 0, .int .i64 0, .int .i64 0, .int .i64 0, .int .i64 0, .int .i64 0, .int .i64 0, .int .i64 0, .int .i64 0, .int .i64 0, .int .i64 0, .int .i64 0, .int .i64 0, .int .i64 0, .int .i64 0] 106)).setRow w3.heap.size (av fun n => (cn l n : Int))) := ⟨_, rfl⟩
  have HC4 : Hid (w4.heap[w3.heap.size]? = some (.cells (av fun n => (cn l n : Int)) 106 (0, 0))) := by rw [HW4.out]; exact setRow_heap _ _ _ _ _ _ HZ.out
  have hb34 : Below w3.heap.size w3 w4 := by rw [HW4.out]; exact below_setRow ((Below.refl _ _).alloc (Nat.le_refl _) _) (Nat.le_refl _)
  have HSZ4 : Hid (w4.heap.size = w3.heap.size + 1) := by show _ = _; rw [HW4.out]; simp
  have HB34 := hide hb34
  clear hb34
  have HCR : Hid (((w3.alloc (.cells #[.int .i64 0, .int .i64 0, .int .i64 0, .int .i64 0, .int .i64 0, .int .i64 0, .int .i64 0, .int .i64 0, .int .i64 0, .int .i64 0, .int .i64 0, .int .i64 0, .int .i64 0, .int .i64 0, .int .i64 0, .int .i64 0] 106)).setRow w3.heap.size (av fun n => (cn l n : Int))).heap[w3.heap.size]? = some (.cells (av fun n => (cn l n : Int)) 106 (0, 0))) := by rw [← HW4.out]; exact HC4.out
  go_wp2_with (first | ((with_reducible refine wpList_storeP w3.heap.size (fun n => (cn l n : Int)) _ ?hx ?hy HZ.out ?_); (case hx => rfl); (case hy => rfl)) | ((with_reducible refine wpList_loadP w3.heap.size _ ?hx HCR.out ?_); (case hx => rfl)))
  rw [← HW4.out]
  clear HCR
  refine (shape_any l _ HL.out).mono ?_
  rintro e w5 ⟨rfl, hb5⟩
  have HB35 : Hid (Below w3.heap.size w3 w5) := HB34.out.trans (hb5.mono (by rw [HSZ4.out]; omega))
  have HC5 : Hid (w5.heap[w3.heap.size]? = some (.cells (av fun n => (cn l n : Int)) 106 (0, 0))) := (hb5.block _ (by rw [HSZ4.out]; omega)).trans HC4.out
  have hw5 : w3.heap.size < w5.heap.size := by have := hb5.size; rw [HSZ4.out] at this; omega
  clear hb5
  have HB15 : Hid (Below w1.heap.size w1 w5) := HB13.out.trans (HB35.out.mono (by omega))
  have HB5 : Hid (Below w.heap.size w w5) := HB1.out.trans (HB15.out.mono HB1.out.size)
  have HA5 : Hid (w5.heap[w1.heap.size]? = some (.cells #[.slice al l.length cl, .slice aw l.length cw] 121 (0, 0))) := (HB35.out.block _ hw3).trans HA3.out
  have HO5 : Hid (OI w5 w.heap.size (.slice al l.length cl) l ∧ OI w5 w.heap.size (.slice aw l.length cw) (wds l)) := ⟨HBO.out.1.below HB15.out (Nat.le_refl _), HBO.out.2.below HB15.out (Nat.le_refl _)⟩
  by_cases hs : shp l = 0
  · have HE : Hid (dcE l = 53) := by show _ = _; unfold dcE; rw [if_neg (by have := H0.out; simp [this]), if_pos hs]
    rw [hs]
    go_wp2
    go_ret2
    exact ⟨HB5.out, .inl ⟨by rw [HE.out]; decide, by rw [HE.out]; rfl⟩⟩
  have HE : Hid (dcE l = 0) := by show _ = _; unfold dcE; rw [if_neg (by have := H0.out; simp [this]), if_neg hs]
  obtain ⟨r, HR⟩ : ∃ r, Hid (r = shp l) := ⟨_, rfl⟩
  rw [← HR.out] at hs ⊢
  have hs' : (r == 0) = false := by simpa using hs
  go_wp2_with ((with_reducible refine wpList_loadB w1.heap.size _ _ ?hx HA5.out ?_); (case hx => rfl))
  rw [← dv_new]
  obtain ⟨V, HV⟩ : ∃ V, Hid (V = w5.alloc (.cells (dv (.slice al l.length cl) (.slice aw l.length cw) (.slice none 0 0) (fun _ => 0) (fun _ => 0)) 130)) := ⟨_, rfl⟩
  rw [← HV.out]
  obtain ⟨gD, hgD⟩ : ∃ gD, gD = w5.heap.size := ⟨_, rfl⟩
  rw [← hgD]
  have HDV : Hid (V.heap[gD]? = some (.cells (dv (.slice al l.length cl) (.slice aw l.length cw) (.slice none 0 0) (fun _ => 0) (fun _ => 0)) 130 (0, 0))) := by rw [HV.out, hgD]; exact heap_alloc_new w5 _
  have hbV : Below w5.heap.size w5 V := by rw [HV.out]; exact (Below.refl _ _).alloc (Nat.le_refl _) _
  have HSV : Hid (V.heap.size = gD + 1) := by show _ = _; rw [HV.out, hgD]; simp
  have HCV : Hid (V.heap[w3.heap.size]? = some (.cells (av fun n => (cn l n : Int)) 106 (0, 0))) := (hbV.block _ hw5).trans HC5.out
  have HOV : Hid (OI V w.heap.size (.slice al l.length cl) l ∧ OI V w.heap.size (.slice aw l.length cw) (wds l)) := ⟨HO5.out.1.below hbV (Nat.le_refl _), HO5.out.2.below hbV (Nat.le_refl _)⟩
  have HBV : Hid (Below w.heap.size w V) := HB5.out.trans (hbV.mono HB5.out.size)
  have hwg : w.heap.size ≤ gD := by rw [hgD]; exact HB5.out.size
  have hwc : w3.heap.size < gD := by rw [hgD]; exact hw5
  have N1 : Hid ((Value.slice al l.length cl).ownBlock ≠ some gD ∧ (Value.slice aw l.length cw).ownBlock ≠ some gD) := ⟨fun e => by have := (HO5.out.1.lt _ e).2; omega, fun e => by have := (HO5.out.2.lt _ e).2; omega⟩
  clear hbV hgD HBA HA HA2 HA3 HA5 HC4 HC5 HB12 HB13 HB34 HB35 HB15 HO5 HSL HK0 HBO HZ hw5 hw3
  obtain ⟨gC, HGC⟩ : ∃ gC, Hid (gC = w3.heap.size) := ⟨_, rfl⟩
  rw [← HGC.out] at hwc HCV ⊢
  obtain ⟨CC, HCC⟩ : ∃ CC : Nat → Int, Hid (CC = fun n => (cn l n : Int)) := ⟨_, rfl⟩
  obtain ⟨FF, HFF⟩ : ∃ FF : Nat → Int, Hid (FF = fun n => (fi l n : Int)) := ⟨_, rfl⟩
  rw [← HCC.out] at HCV ⊢
  have HROW : Hid (∀ W, Below V.heap.size V W → W.heap[gC]? = some (.cells (av CC) 106 (0, 0))) := fun W hW => (hW.block _ (by rw [HSV.out]; omega)).trans HCV.out
  have HF0 : Hid (Below V.heap.size V V.drew) := (Below.refl _ _).drew
  have HCE : Hid (∀ W, Below V.heap.size V W → W.cell? ⟨gC, 0, none⟩ = some (.int .i64 (CC 0)) ∧ W.cell? ⟨gC, 1, none⟩ = some (.int .i64 (CC 1)) ∧ W.cell? ⟨gC, 2, none⟩ = some (.int .i64 (CC 2)) ∧ W.cell? ⟨gC, 3, none⟩ = some (.int .i64 (CC 3)) ∧ W.cell? ⟨gC, 4, none⟩ = some (.int .i64 (CC 4)) ∧ W.cell? ⟨gC, 5, none⟩ = some (.int .i64 (CC 5)) ∧ W.cell? ⟨gC, 6, none⟩ = some (.int .i64 (CC 6)) ∧ W.cell? ⟨gC, 7, none⟩ = some (.int .i64 (CC 7)) ∧ W.cell? ⟨gC, 8, none⟩ = some (.int .i64 (CC 8)) ∧ W.cell? ⟨gC, 9, none⟩ = some (.int .i64 (CC 9)) ∧ W.cell? ⟨gC, 10, none⟩ = some (.int .i64 (CC 10)) ∧ W.cell? ⟨gC, 11, none⟩ = some (.int .i64 (CC 11)) ∧ W.cell? ⟨gC, 12, none⟩ = some (.int .i64 (CC 12)) ∧ W.cell? ⟨gC, 13, none⟩ = some (.int .i64 (CC 13)) ∧ W.cell? ⟨gC, 14, none⟩ = some (.int .i64 (CC 14)) ∧ W.cell? ⟨gC, 15, none⟩ = some (.int .i64 (CC 15))) := fun W hW => by
    have h := HROW.out W hW
    have hc : ∀ n, n < 16 → W.cell? ⟨gC, n, none⟩ = some (.int .i64 (CC n)) := fun n hn => by rw [cell_of_row _ _ _ _ _ _ h, av_get _ hn]
    exact ⟨hc 0 (by omega), hc 1 (by omega), hc 2 (by omega), hc 3 (by omega), hc 4 (by omega), hc 5 (by omega), hc 6 (by omega), hc 7 (by omega), hc 8 (by omega), hc 9 (by omega), hc 10 (by omega), hc 11 (by omega), hc 12 (by omega), hc 13 (by omega), hc 14 (by omega), hc 15 (by omega)⟩
  have HLIT : Hid ((#[.int .i64 (CC 0), .int .i64 (CC 1), .int .i64 (CC 2), .int .i64 (CC 3), .int .i64 (CC 4), .int .i64 (CC 5), .int .i64 (CC 6), .int .i64 (CC 7), .int .i64 (CC 8), .int .i64 (CC 9), .int .i64 (CC 10), .int .i64 (CC 11), .int .i64 (CC 12), .int .i64 (CC 13), .int .i64 (CC 14), .int .i64 (CC 15)] : Array Value) = av CC) := rfl
  have HFI : Hid (∀ W, Calls Tryd.prog 77 #[.agg #[.int .i64 (CC 0), .int .i64 (CC 1), .int .i64 (CC 2), .int .i64 (CC 3), .int .i64 (CC 4), .int .i64 (CC 5), .int .i64 (CC 6), .int .i64 (CC 7), .int .i64 (CC 8), .int .i64 (CC 9), .int .i64 (CC 10), .int .i64 (CC 11), .int .i64 (CC 12), .int .i64 (CC 13), .int .i64 (CC 14), .int .i64 (CC 15)]] W fun e w' => ∃ u, e = .returned u ∧ (u = .agg (av FF) ∧ Below W.heap.size W w')) := fun W => by
    rw [HLIT.out, HCC.out, HFF.out]
    exact (firsts_any l W HL.out).mono fun e w' h => ⟨_, h.1, rfl, h.2⟩
  have HAR : Hid (∀ W, Below V.heap.size V W → Calls Tryd.prog 76 #[.pointer (some ⟨gD, 0, none⟩), .agg #[.int .i64 (CC 0), .int .i64 (CC 1), .int .i64 (CC 2), .int .i64 (CC 3), .int .i64 (CC 4), .int .i64 (CC 5), .int .i64 (CC 6), .int .i64 (CC 7), .int .i64 (CC 8), .int .i64 (CC 9), .int .i64 (CC 10), .int .i64 (CC 11), .int .i64 (CC 12), .int .i64 (CC 13), .int .i64 (CC 14), .int .i64 (CC 15)], .agg (av FF)] W fun e w' => ∃ u, e = .returned u ∧ (u = .tuple #[] ∧ Arranged W gD (.slice al l.length cl) (.slice aw l.length cw) l w')) := fun W hW => by
    rw [HLIT.out, HCC.out, HFF.out]
    have hs := HSV.out
    refine (arrange_any gD _ _ l W ((hW.block _ (by omega)).trans HDV.out) (by have := hW.size; omega) HL.out ((HOV.out.1.base (Nat.zero_le _)).below hW (Nat.le_refl _)) ((HOV.out.2.base (Nat.zero_le _)).below hW (Nat.le_refl _)) N1.out.1 N1.out.2).mono fun e w' h => ⟨_, h.1, rfl, h.2⟩
  have HFIN : Hid (∀ W w7, Below V.heap.size V W → Arranged W gD (.slice al l.length cl) (.slice aw l.length cw) l w7 → Below w.heap.size w w7 ∧ ∃ K, Dp w7 K gD l ∧ ∀ k, K k ≠ 0 → w.heap.size ≤ k) := fun W w7 hW h => by
    obtain ⟨vs, sy, a1, a2, a3, a4⟩ := h
    have hs := HSV.out
    have hBW : Below w.heap.size w W := HBV.out.trans (hW.mono (by omega))
    have o1 := (HOV.out.1.below hW (Nat.le_refl _))
    have o2 := (HOV.out.2.below hW (Nat.le_refl _))
    have p1 : OI w7 w.heap.size (.slice al l.length cl) l := o1.move fun k hk => a4.block k (o1.lt k hk).2 (fun e => N1.out.1 (by rw [hk, e]))
    have p2 : OI w7 w.heap.size (.slice aw l.length cw) (wds l) := o2.move fun k hk => a4.block k (o2.lt k hk).2 (fun e => N1.out.2 (by rw [hk, e]))
    have p3 : OI w7 w.heap.size vs sy := a2.base hBW.size
    have hg7 : gD < w7.heap.size := by have := a4.size; have := hW.size; omega
    refine ⟨⟨a4.os.trans hBW.os, a4.tape.trans hBW.tape, a4.output.trans hBW.output, Nat.le_trans hBW.size a4.size, fun k hk => (a4.block k (by have := hBW.size; omega) (by simp; omega)).trans (hBW.block k hk)⟩, fun k => if k = gD ∨ (Value.slice al l.length cl).ownBlock = some k ∨ (Value.slice aw l.length cw).ownBlock = some k ∨ vs.ownBlock = some k then 1 else 0, ⟨⟨_, _, vs, sy, a1, p1.base (Nat.zero_le _), p2.base (Nat.zero_le _), p3.base (Nat.zero_le _), a3, fun k hk => by simp [hk], fun k hk => by simp [hk], fun k hk => by simp [hk]⟩, by simp, fun k hk => ?_, HE.out⟩, fun k hk => ?_⟩
    · by_cases c : k = gD ∨ (Value.slice al l.length cl).ownBlock = some k ∨ (Value.slice aw l.length cw).ownBlock = some k ∨ vs.ownBlock = some k
      · rcases c with rfl | c | c | c
        · exact hg7
        · exact (p1.lt k c).2
        · exact (p2.lt k c).2
        · exact (p3.lt k c).2
      · simp [c] at hk
    · by_cases c : k = gD ∨ (Value.slice al l.length cl).ownBlock = some k ∨ (Value.slice aw l.length cw).ownBlock = some k ∨ vs.ownBlock = some k
      · rcases c with rfl | c | c | c
        · exact hwg
        · exact (p1.lt k c).1
        · exact (p2.lt k c).1
        · exact (p3.lt k c).1
      · simp [c] at hk
  clear HDV HCV HOV HBV N1 HSV
  obtain ⟨z0, z1, z2, z3, z4, z5, z6, z7, z8, z9, z10, z11, z12, z13, z14, z15⟩ := HCE.out V (Below.refl _ _)
  go_region_law (first
    | (refine step_call1 (by rfl) (.tmp 27) 106 77 (by rfl) Tryd.call77 (.agg #[.int .i64 (CC 0), .int .i64 (CC 1), .int .i64 (CC 2), .int .i64 (CC 3), .int .i64 (CC 4), .int .i64 (CC 5), .int .i64 (CC 6), .int .i64 (CC 7), .int .i64 (CC 8), .int .i64 (CC 9), .int .i64 (CC 10), .int .i64 (CC 11), .int .i64 (CC 12), .int .i64 (CC 13), .int .i64 (CC 14), .int .i64 (CC 15)]) (by simp [Act.eval, Act.put]) (HFI.out _) ?_; rintro v6 w6 ⟨rfl, hb6⟩; have HF6 : Hid (Below V.heap.size V w6) := HF0.out.trans hb6; obtain ⟨y0, y1, y2, y3, y4, y5, y6, y7, y8, y9, y10, y11, y12, y13, y14, y15⟩ := HCE.out w6 HF6.out; clear hb6)
    | (refine step_call3 (by rfl) (.tmp 25) (.tmp 26) (.tmp 28) 75 106 106 76 (by rfl) Tryd.call76 (.pointer (some ⟨gD, 0, none⟩)) (.agg #[.int .i64 (CC 0), .int .i64 (CC 1), .int .i64 (CC 2), .int .i64 (CC 3), .int .i64 (CC 4), .int .i64 (CC 5), .int .i64 (CC 6), .int .i64 (CC 7), .int .i64 (CC 8), .int .i64 (CC 9), .int .i64 (CC 10), .int .i64 (CC 11), .int .i64 (CC 12), .int .i64 (CC 13), .int .i64 (CC 14), .int .i64 (CC 15)]) (.agg (av FF)) (by simp [Act.eval, Act.put]) (by simp [Act.eval, Act.put]) (by simp [Act.eval, Act.put]) (HAR.out _ HF6.out) ?_; rintro v7 w7 ⟨rfl, har⟩; have HX := hide (HFIN.out _ _ HF6.out har); clear har))
  all_goals
    clear HROW HF0 HFI HAR HFIN HF6 HCE
    clear z0 z1 z2 z3 z4 z5 z6 z7 z8 z9 z10 z11 z12 z13 z14 z15
    clear y0 y1 y2 y3 y4 y5 y6 y7 y8 y9 y10 y11 y12 y13 y14 y15
    go_wp2
    go_ret2
    obtain ⟨x1, K, x2, x3⟩ := HX.out
    exact ⟨x1, .inr ⟨HE.out, gD, K, rfl, x2, x3⟩⟩
end Go.Proofs.YtegoienjikjhkaaDoor

namespace Go.Proofs.YtegoienjikjhkaaDoor
open Go.RowKit Go.Maps
set_option maxRecDepth 20000

/-- The first bits as a number, the first one the highest. -/
def mir (v : Int) (n : Nat) : Int := val (bts v n).reverse

theorem mir_succ (v : Int) (k : Nat) : mir v (k + 1) = v / 2 ^ k % 2 + 2 * mir v k := rev_snoc v k

theorem mir_bound (v : Int) (k : Nat) : 0 ≤ mir v k ∧ mir v k < 2 ^ k := rev_bound v k

def rowN (v : Int) : Nat := (mir v 15).toNat

theorem mir_div (v : Int) : ∀ m k, mir v k = mir v (k + m) / 2 ^ m
  | 0, k => by simp
  | m + 1, k => by
    rw [mir_div v m k, show k + (m + 1) = (k + m) + 1 by omega, mir_succ, pow_add1, ← Int.ediv_ediv_of_nonneg (by omega)]
    congr 1
    omega

theorem mir_row (v : Int) {n : Nat} (h : n ≤ 15) : mir v n = ((rowN v / 2 ^ (15 - n) : Nat) : Int) := by
  rw [mir_div v (15 - n) n, show n + (15 - n) = 15 by omega]
  unfold rowN
  have := (mir_bound v 15).1
  rw [Int.natCast_ediv, Int.toNat_of_nonneg this]
  push_cast
  rfl

theorem row_lt (v : Int) : rowN v < 32768 := by
  have := mir_bound v 15
  unfold rowN
  omega

noncomputable def fdS (l : List Int) (R : Nat) : Nat := by
  classical
  exact if h : ∃ s, Hit l R s then h.choose else 0

noncomputable def fdB (l : List Int) (R : Nat) : Bool := by
  classical
  exact decide (∃ s, Hit l R s)

theorem fd_hit {l : List Int} (hl : Lens l) {R s : Nat} (h : Hit l R s) : fdS l R = s ∧ fdB l R = true := by
  have he : ∃ s, Hit l R s := ⟨s, h⟩
  constructor
  · unfold fdS
    rw [dif_pos he]
    exact he.choose_spec.one hl h
  · unfold fdB
    exact @decide_eq_true _ (Classical.propDecidable _) he

theorem fd_none {l : List Int} {R : Nat} (h : ¬ ∃ s, Hit l R s) : fdS l R = 0 ∧ fdB l R = false := by
  constructor
  · unfold fdS
    rw [dif_neg h]
  · unfold fdB
    exact @decide_eq_false _ (Classical.propDecidable _) h

theorem i64_or1 {t b : Int} (h0 : 0 ≤ t) (h1 : t < 2147483648) (hb : b = 0 ∨ b = 1) : bits .or .i64 (t * 2) b = 2 * t + b := by
  rw [bits_join .i64 63 (by decide) (fun n a b => by rw [IntKind.wrap_i64]; omega) 1 (t * 2) b (by omega) (by omega) (by omega) (by omega) (by omega) (by omega)]
  omega

theorem dcE_zero {l : List Int} (h : dcE l = 0) : Lens l ∧ shp l ≠ 0 ∧ shp l ≠ 2 ∧ shp l ≠ 3 := by
  unfold dcE at h
  by_cases h0 : bkE l = 0
  · rw [if_neg (by simp [h0])] at h
    by_cases h2 : shp l = 0
    · rw [if_pos h2] at h; omega
    · have := bkE_zero h0
      exact ⟨this.1, h2, this.2⟩
  · rw [if_pos h0] at h; exact absurd h h0

theorem hit_sym {l sy : List Int} (hl : Lens l) (hs : SymOk l sy) {R n : Nat} (hn : n ≤ 15) (h0 : us l n ≤ R) (h1 : R < us l (n + 1)) : ∃ s j : Nat, Hit l R s ∧ shf l n + ((R / 2 ^ (15 - n) : Nat) : Int) = (j : Int) ∧ j < sy.length ∧ sy.getD j 0 = (s : Int) := by
  obtain ⟨s, a1, a2, a3⟩ := hit_at (l := l) hn h0 h1
  refine ⟨s, ix l s, a1, ?_, by rw [hs.1]; exact ix_lt hl a1.1, hs.2 s a1.1⟩
  rw [a3]
  unfold shf ix
  rw [a2]
  push_cast
  omega

set_option maxHeartbeats 1000000 in
theorem find_any {w : World} {K : Nat → Nat} {g : Nat} {l : List Int} (h : Dp w K g l) (v : Int) (hv0 : 0 ≤ v) (hv1 : v < 32768) :
    Calls Tryd.prog 87 #[.pointer (some ⟨g, 0, none⟩), .int .u32 v] w fun e w' => e = .returned (.tuple #[.int .i64 (fdS l (rowN v)), .bool (fdB l (rowN v))]) ∧ ∃ n, w' = w.drewN n := by
  obtain ⟨vl, vw, vs, sy, a1, a2, a3, a4, a5, _⟩ := h.d
  have hl := (dcE_zero h.ok).1
  have HL := hide hl
  have HD := hide a1
  have HV := hide a4
  have HS := hide a5
  clear h a1 a2 a3 a4 a5 hl
  obtain ⟨R, HR⟩ : ∃ R, Hid (R = rowN v) := ⟨_, rfl⟩
  rw [← HR.out]
  go_enter Tryd.func87, Tryd.ntmps87
  go_wp2
  go_loopw [1, 6, 7] (fun x t i wr => ∃ k : Nat, k ≤ 15 ∧ i = .int .i64 ((k : Int) + 1) ∧ x = .int .u32 (v / 2 ^ k) ∧ t = .int .i64 (mir v k) ∧ wr = w ∧ Hid (us l (k + 1) ≤ R)) (fun _ _ i _ => 16 - (intOf i).toNat)
  case atStart => exact ⟨0, Nat.zero_le _, rfl, by simp, rfl, rfl, by show _ ≤ _; simp [us, cn]⟩
  case round =>
    obtain ⟨k, hk, rfl, rfl, rfl, rfl, HU⟩ := hrel
    by_cases hlt : k < 15
    · have hlt' : (k : Int) + 1 ≤ 15 := by omega
      have hb := mir_bound v k
      have h15 : (2 : Int) ^ k ≤ 2 ^ 15 := pow_le (by omega)
      have hms := mir_succ v k
      have hrow := mir_row v (n := k + 1) (by omega)
      rw [← HR.out] at hrow
      obtain ⟨t, HT⟩ : ∃ t, Hid (t = mir v k) := ⟨_, rfl⟩
      obtain ⟨q, HQ⟩ : ∃ q, Hid (q = v / 2 ^ k) := ⟨_, rfl⟩
      obtain ⟨y, HY⟩ : ∃ y : Nat, Hid (y = R / 2 ^ (15 - (k + 1))) := ⟨_, rfl⟩
      rw [← HT.out] at hb hms ⊢
      rw [← HQ.out] at hms ⊢
      rw [← HY.out] at hrow
      have hy : 2 * t + q % 2 = (y : Int) := by omega
      have hq0 : 0 ≤ q := by rw [HQ.out]; exact Int.ediv_nonneg hv0 (Int.le_of_lt (pow_pos k))
      have hq1 : q < 4294967296 := by rw [HQ.out]; exact Int.lt_of_le_of_lt (Int.ediv_le_self _ hv0) (by omega)
      obtain ⟨t0, t1⟩ := hb
      have ht2 : t < 2147483648 := by omega
      have hand := u32_and1 hq0 hq1
      have hwc : IntKind.i64.wrap (q % 2) = q % 2 := by rw [IntKind.wrap_i64]; omega
      have hor := i64_or1 t0 ht2 (b := q % 2) (by omega)
      rw [hy] at hor
      have HQ2 : Hid (v / 2 ^ (k + 1) = q / 2) := by show _ = _; rw [HQ.out, Int.pow_succ, Int.ediv_ediv_of_nonneg (Int.le_of_lt (pow_pos k))]
      have HMR := hide hrow
      have ce : wr.cell? ⟨g, 19 + (k + 1), none⟩ = some (.int .i64 (en l (k + 1))) := by rw [cell_of_row _ _ _ _ _ _ HD.out, dv_g _ _ _ _ _ (by omega)]
      have hbe := below_end (l := l) (R := R) (n := k + 1) (by omega)
      rw [← HY.out] at hbe
      have he : en l (k + 1) = ((fi l (k + 1) + cn l (k + 1) : Nat) : Int) := by unfold en; push_cast; rfl
      have hyb : y < 32768 := by have := row_lt v; rw [← HR.out] at this; rw [HY.out]; exact Nat.lt_of_le_of_lt (Nat.div_le_self _ _) this
      obtain ⟨E, HEE⟩ : ∃ E : Nat, Hid (E = fi l (k + 1) + cn l (k + 1)) := ⟨_, rfl⟩
      rw [← HEE.out] at hbe he
      rw [he] at ce
      by_cases hin : y < E
      · have hin' : (y : Int) < (E : Int) := by omega
        obtain ⟨s, j, s1, s2, s3, s4⟩ := hit_sym HL.out HS.out (R := R) (n := k + 1) (by omega) HU.out (hbe.1 hin)
        rw [← HY.out] at s2
        obtain ⟨f1, f2⟩ := fd_hit HL.out s1
        have HF : Hid (fdS l R = s ∧ fdB l R = true) := ⟨f1, f2⟩
        obtain ⟨gs, c, hvs, _, _, hc1, hc2⟩ := HV.out.form (by omega)
        have cs := HV.out.get (b := gs) (by rw [hvs]; rfl) s3
        rw [s4] at cs
        have c2 : wr.cell? ⟨g, 2, none⟩ = some vs := by rw [cell_of_row _ _ _ _ _ _ HD.out, dv_2]
        have c3 : wr.cell? ⟨g, 3 + (k + 1), none⟩ = some (.int .i64 (shf l (k + 1))) := by rw [cell_of_row _ _ _ _ _ _ HD.out, dv_f _ _ _ _ _ (by omega)]
        have hx : shf l (k + 1) = (j : Int) - y := by omega
        rw [hx] at c3
        rw [hvs] at c2
        have e1 : (j : Int) - y + y = j := by omega
        have hjl : j < sy.length := s3
        have hj2 : sy.length ≤ 288 := by rw [HS.out.1]; exact Nat.le_trans (sh_le l 16) HL.out.1
        clear hbe he hms hrow hy t1 h15 s1 s2 s3 s4 hx f1 f2 HMR HU
        go_wp2
        go_quiet (fail)
        go_wp2
        go_ret2
        rw [HF.out.1, HF.out.2]
        exact ⟨rfl, _, rfl⟩
      · have hin' : ¬ (y : Int) < (E : Int) := by omega
        have HN : Hid (us l (k + 1 + 1) ≤ R) := by
          show _ ≤ _
          have := fun h => hin (hbe.2 h)
          omega
        clear hbe he hms hrow hy t1 h15 HU
        go_wp2
        go_roundw
        case rel => exact ⟨k + 1, by omega, by go_num, by rw [HQ2.out], by rw [HMR.out], by trivial, HN⟩
        case measure => simp [intOf]; omega
    · obtain rfl : k = 15 := by omega
      have hlt' : ¬ ((15 : Nat) : Int) + 1 ≤ 15 := by omega
      have hn : ¬ ∃ s, Hit l R s := fun ⟨s, hs⟩ => by have h1 := hs.top HL.out; have h2 : us l 16 ≤ R := HU.out; omega
      obtain ⟨f1, f2⟩ := fd_none hn
      have HF : Hid (fdS l R = 0 ∧ fdB l R = false) := ⟨f1, f2⟩
      clear hn f1 f2 HU
      go_wp2
      go_ret2
      rw [HF.out.1, HF.out.2]
      exact ⟨rfl, 0, rfl⟩
end Go.Proofs.YtegoienjikjhkaaDoor

