import Derived.Test.YtecimcpaoobknaaGTtw
import Derived.Test.YtecimcpaoobknaaGEx
import Derived.Test.YtecimcpaoobknaaGMn
import Derived.Test.YtecimcpaoobknaaGBn
import Derived.Test.YtecimcpaoobknaaGTnr
import Derived.BigQuiet
import Derived.Deep.DeepCutAuto
namespace Go.Proofs.Ytecimcpaoobknaa
open Go.RowKit Go.Maps
set_option maxRecDepth 20000
set_option linter.unusedVariables false

/-- A byte of an owned list is written. -/
theorem OB.wrote {w : World} {base : Nat} {v : Value} {l : List Int} (h : OB w base v l) {B i : Nat} (hv : v.ownBlock = some B) (z : Int) : OB (w.setCell ⟨B, i, none⟩ (.int .u8 z)) base v (l.set i z) := by
  refine ⟨by simp, ?_⟩
  rcases h.2 with ⟨rfl, _⟩ | ⟨gb, cap, cur, rfl, k1, k2, k3, k4, k5, k6⟩
  · simp [Value.ownBlock] at hv
  · simp [Value.ownBlock] at hv
    subst hv
    refine .inr ⟨gb, cap, cur.setIfInBounds i (.int .u8 z), by simp, k1, heap_setCell_at _ k2, by simpa using k3, k4, by simpa using k5, ?_⟩
    rw [Array.toList_setIfInBounds, List.take_set, List.length_set, k6, List.map_set]

theorem OB.loose {w : World} {base : Nat} {v : Value} {l : List Int} (h : OB w base v l) {B : Nat} (hv : v.ownBlock = some B) (i : Nat) : w.frozen? ⟨B, i, none⟩ = false := by
  rcases h.2 with ⟨rfl, _⟩ | ⟨gb, cap, cur, rfl, k1, k2, _⟩
  · simp [Value.ownBlock] at hv
  · simp [Value.ownBlock] at hv
    subst hv
    simp [World.frozen?, k2]

theorem OB.cellAt {w : World} {base g n c : Nat} {l : List Int} (h : OB w base (.slice (some ⟨g, 0, none⟩) n c) l) {i : Nat} (hi : i < l.length) : w.cell? ⟨g, i, none⟩ = some (.int .u8 (l.getD i 0)) := by
  obtain ⟨ao, cap, hv, _, _, _, hc⟩ := h.sb
  simp only [Value.slice.injEq] at hv
  have := hc ⟨g, 0, none⟩ hv.1.symm i hi
  rw [Addr.add_lit, Nat.zero_add] at this
  exact this

theorem rep_fill {n i : Nat} {b : Int} (h : i < n) : (List.replicate i b ++ List.replicate (n - i) 0).set i b = List.replicate (i + 1) b ++ List.replicate (n - (i + 1)) 0 := by
  rw [List.set_append_right _ _ (by simp), List.length_replicate, Nat.sub_self, show n - i = (n - (i + 1)) + 1 by omega, List.replicate_succ, List.set_cons_zero, List.replicate_succ', List.append_assoc]
  rfl

/-- The bytes under way. -/
def rfl2 (n i : Nat) (b : Int) : List Int := List.replicate i b ++ List.replicate (n - i) 0

theorem rfl2_len {n i : Nat} {b : Int} (h : i ≤ n) : (rfl2 n i b).length = n := by simp [rfl2]; omega
theorem rfl2_full {n : Nat} {b : Int} : rfl2 n n b = List.replicate n b := by simp [rfl2]
theorem rfl2_zero {n : Nat} {b : Int} : rfl2 n 0 b = List.replicate n 0 := by simp [rfl2]

set_option maxHeartbeats 8000000 in
theorem matchRuns_walk (n b x y : Int) (z : Bool) (w : World) (hb0 : 0 ≤ b) (hb1 : b < 256) :
    Calls Try.prog 5 #[.int .i64 n, .int .u8 b, .agg #[.int .i64 x, .int .i64 y, .bool z]] w fun e w' => e = .returned (.bool true) ∧ Below w.heap.size w w' := by
  have HB : Hid (Below w.heap.size w (w.alloc (.cells #[.int .i64 x, .int .i64 y, .bool z] 41))) := (Below.refl _ _).alloc (Nat.le_refl _) _
  obtain ⟨wb, hwb⟩ : ∃ wb, w.alloc (.cells #[.int .i64 x, .int .i64 y, .bool z] 41) = wb := ⟨_, rfl⟩
  have hbl : w.heap.size < wb.heap.size := by rw [← hwb]; simp
  have d1 : wb.cell? ⟨w.heap.size, 0, none⟩ = some (.int .i64 x) := by rw [← hwb]; unfold World.cell?; simp only [heap_alloc_new]; rfl
  have d2 : wb.cell? ⟨w.heap.size, 1, none⟩ = some (.int .i64 y) := by rw [← hwb]; unfold World.cell?; simp only [heap_alloc_new]; rfl
  have d3 : wb.cell? ⟨w.heap.size, 2, none⟩ = some (.bool z) := by rw [← hwb]; unfold World.cell?; simp only [heap_alloc_new]; rfl
  rw [hwb] at HB
  have HC : Hid (∀ wx, Below wb.heap.size wb wx → wx.cell? ⟨w.heap.size, 0, none⟩ = some (.int .i64 x) ∧ wx.cell? ⟨w.heap.size, 1, none⟩ = some (.int .i64 y) ∧ wx.cell? ⟨w.heap.size, 2, none⟩ = some (.bool z)) := fun wx q => ⟨(q.cell hbl).trans d1, (q.cell hbl).trans d2, (q.cell hbl).trans d3⟩
  have HFI : Hid (∀ wx, Below wb.heap.size wb wx → Below w.heap.size w wx) := fun wx q => HB.out.trans (q.mono HB.out.size)
  have HB0 : Hid (Below wb.heap.size wb wb) := Below.refl _ _
  by_cases h0 : n < 0
  · go_enter Try.func5, Try.ntmps5
    go_wp2
    go_ret
    exact ⟨rfl, HFI.out _ HB0.out⟩
  by_cases h1 : (1048576 : Int) < n
  · go_enter Try.func5, Try.ntmps5
    go_wp2
    go_ret
    exact ⟨rfl, HFI.out _ HB0.out⟩
  obtain ⟨n, rfl⟩ := Int.eq_ofNat_of_zero_le (show 0 ≤ n by omega)
  have HLD := hide (ldom_any x y z wb)
  go_enter Try.func5, Try.ntmps5
  go_wp2_with fail
  refine HLD.out.mono ?_
  rintro e w2 ⟨rfl, b2⟩
  have HB2 := hide b2
  obtain ⟨f1, f2, f3⟩ := HC.out _ HB2.out
  clear b2 hwb d1 d2 d3 HLD HB0
  by_cases h2 : Dmn x y
  · have HDD : Hid (dmn x y = true) := decide_eq_true h2
    rw [HDD.out]
    have HDM := hide h2
    unfold Dmn at h2
    obtain ⟨W, rfl⟩ := Int.eq_ofNat_of_zero_le (show 0 ≤ x by omega)
    obtain ⟨C, rfl⟩ := Int.eq_ofNat_of_zero_le (show 0 ≤ y by omega)
    have hWb : 1 ≤ W ∧ W ≤ 32768 ∧ C ≤ 4096 := by omega
    clear h2
    by_cases h3 : C = 0
    · have g3 : ((C : Int) == 0) = true := by simp [h3]
      go_wp2
      go_ret
      exact ⟨rfl, HFI.out _ HB2.out⟩
    · have g3 : ((C : Int) == 0) = false := by simp; omega
      have hn0 : n ≤ 1048576 := by omega
      go_wp2_with (at_make; refine wpList_mk rfl _ _ rfl _ _ _ _ n n rfl rfl rfl rfl (Nat.le_refl _) (by omega) ?_)
      intro w3 hw3 b3
      have HB3 := hide (HB2.out.trans (b3.mono HB2.out.size))
      obtain ⟨g, hg⟩ : ∃ g, w2.heap.size = g := ⟨_, rfl⟩
      have HGB : Hid (wb.heap.size ≤ g) := by rw [← hg]; exact HB2.out.size
      rw [hg] at hw3
      have HO3 : Hid (OB w3 wb.heap.size (.slice (some ⟨g, 0, none⟩) n n) (rfl2 n 0 b)) := by
        have := OB.of_full (w := w3) (base := wb.heap.size) (g := g) (l := List.replicate n 0) (by rw [List.map_replicate]; exact hw3) HGB.out (by simp; unfold maxLen; omega)
        rw [List.length_replicate] at this
        rw [rfl2_zero]
        exact this
      clear hw3 b3 f1 f2 f3
      go_wp2
      go_loopw [8] (fun t wr => ∃ i : Nat, i ≤ n ∧ t = .int .i64 (i : Int) ∧ Hid (OB wr wb.heap.size (.slice (some ⟨g, 0, none⟩) n n) (rfl2 n i b)) ∧ Hid (Below wb.heap.size wb wr)) (fun t _ => n - (intOf t).toNat)
      case atStart => exact ⟨0, Nat.zero_le _, rfl, HO3, HB3⟩
      case round =>
        obtain ⟨i, hi, rfl, HOi, HBi⟩ := hrel
        by_cases hlt : i < n
        · have hlt' : (i : Int) < (n : Int) := by omega
          have hff : wr.frozen? ⟨g, i, none⟩ = false := HOi.out.loose rfl i
          have hq := HOi.out.cellAt (i := i) (by rw [rfl2_len hi]; exact hlt)
          obtain ⟨q, hqq⟩ : ∃ q, (rfl2 n i b).getD i 0 = q := ⟨_, rfl⟩
          rw [hqq] at hq
          have HON : Hid (OB (wr.setCell ⟨g, i, none⟩ (.int .u8 b)) wb.heap.size (.slice (some ⟨g, 0, none⟩) n n) (rfl2 n (i + 1) b)) := by
            have := HOi.out.wrote (B := g) (i := i) rfl b
            unfold rfl2 at this
            rw [rep_fill hlt] at this
            exact this
          have HBN : Hid (Below wb.heap.size wb (wr.setCell ⟨g, i, none⟩ (.int .u8 b))) := ⟨HBi.out.os, HBi.out.tape, HBi.out.output, by rw [size_setCell]; exact HBi.out.size, fun j hj => by rw [setCell_others _ _ _ _ j (by have := HGB.out; omega)]; exact HBi.out.block j hj⟩
          go_wp2
          go_roundw
          case rel => exact ⟨i + 1, by omega, by go_num, HON, HBN⟩
          case measure => simp [intOf]; omega
        · obtain rfl : i = n := by omega
          have hlt' : ¬ (i : Int) < (i : Int) := by omega
          have HBY : Hid (Byt (List.replicate i b)) := fun k => by
            by_cases hk : k < i
            · rw [rep_get hk]; omega
            · rw [List.getD_eq_getElem?_getD, List.getElem?_eq_none (by simp; omega)]; simp
          obtain ⟨D, HD⟩ : ∃ D, Hid (D = List.replicate i b) := ⟨_, rfl⟩
          have HDL : Hid (D.length = i) := by show _ = _; rw [HD.out]; simp
          have HOD := HOi
          rw [rfl2_full, ← HD.out] at HOD
          rw [← HD.out] at HBY
          have HTO := hide (tokens_yes _ D W C z wr HOD.out.sb HBY.out (by rw [HDL.out]; omega) (by omega) (by omega) (by omega))
          obtain ⟨L, HL⟩ : ∃ L, Hid (L = tkl D W C z) := ⟨_, rfl⟩
          rw [← HL.out] at HTO
          obtain ⟨f1, f2, f3⟩ := HC.out _ HBi.out
          clear HOi
          go_wp2_with fail
          refine HTO.out.mono ?_
          rintro e w5 ⟨u5, rfl, o5, b5⟩
          have HB5 := hide (HBi.out.trans (b5.mono HBi.out.size))
          have HO5 : Hid (OK w5 wb.heap.size u5 L) := o5.base HBi.out.size
          obtain ⟨a5, c5, hu5, hl5, hm5⟩ := o5.shape
          subst hu5
          clear o5 b5 HTO f1 f2 f3 hlt hi
          have HTR : Hid (∀ j, j < i → tok D W C z j = if 0 < j ∧ j + 3 ≤ i then (((min 258 (i - j) : Nat) : Int), 1, 0) else (0, 0, b)) := fun j hj => by
            rw [HD.out]
            exact rep_tok (by omega) (by omega) hj
          have hgd := tok_guard
          go_wp2
          go_loopw [11, 12] (fun s t wr => ∃ (k j : Nat), k ≤ j ∧ j ≤ i ∧ k ≤ L.length ∧ s = .int .i64 (k : Int) ∧ t = .int .i64 (j : Int) ∧ Hid (L.drop k = tks D W C z (D.length - k) j) ∧ Hid (OK wr wb.heap.size (.slice a5 L.length c5) L) ∧ Hid (Below wb.heap.size wb wr)) (fun _ t _ => i - (intOf t).toNat)
          case atStart => exact ⟨0, 0, Nat.le_refl _, Nat.zero_le _, Nat.zero_le _, rfl, rfl, HL.out, HO5, HB5⟩
          case round =>
            obtain ⟨k, j, hkj, hji, hkL, rfl, rfl, HDR, HOk, HBk⟩ := hrel
            by_cases hj : j < i
            · have hj' : (j : Int) < (i : Int) := by omega
              have hdr := HDR.out
              rw [show D.length - k = (D.length - (k + 1)) + 1 by have := HDL.out; omega, tks_go (by rw [HDL.out]; exact hj)] at hdr
              obtain ⟨hk1, hk2, hk3⟩ := drop_cons hdr
              have htr := HTR.out j hj
              have hen := tok_end (D := D) (W := W) (C := C) (z := z) (i := j) (by rw [HDL.out]; exact hj)
              have hsn := tok_snd (D := D) (W := W) (C := C) (z := z) (i := j) (by rw [HDL.out]; exact hj) (by omega)
              rw [HDL.out] at hen
              obtain ⟨sy, hsy⟩ : ∃ sy, says (tok D W C z j) = sy := ⟨_, rfl⟩
              rw [hsy] at hk3 hen
              have hs1 : 1 ≤ sy := by rw [← hsy]; exact says_pos _
              have HK3 := hide hk3
              obtain ⟨bb, o, rfl, c0, c1, c2⟩ := HOk.out.sk.get (Below.refl _ _) hk1
              rw [hk2] at c0 c1 c2
              have hkL' : ¬ (L.length : Int) ≤ (k : Int) := by omega
              have hkL2 : (k : Int) < (L.length : Int) := by omega
              clear hdr hk2 hk3
              by_cases hc : 0 < j ∧ j + 3 ≤ i
              · rw [if_pos hc] at htr
                obtain ⟨hc1, hc2⟩ := hc
                have g4 : (0 : Int) < (j : Int) := by omega
                have g5 : (3 : Int) ≤ (i : Int) - (j : Int) := by omega
                obtain ⟨mm, hmm⟩ : ∃ mm, min 258 (i - j) = mm := ⟨_, rfl⟩
                have hmi : min (258 : Int) ((i : Int) - (j : Int)) = (mm : Int) := by omega
                have hmb : 3 ≤ mm ∧ mm ≤ 258 := by omega
                rw [hmm] at htr
                rw [htr] at c0 c1 c2 hsn hsy
                simp only at c0 c1 c2
                have hsy1 : sy = mm := by rw [← hsy]; show max 1 (mm : Int).toNat = mm; omega
                subst hsy1
                have HSY := hide (fun wx => says_any (sy : Int) 1 0 wx hsn)
                rw [hsy] at HSY
                have hnq := fun W => tk_neq W (sy : Int) 1 0 (sy : Int) 1 0
                have hb' : (!((sy : Int) == (sy : Int) && ((1 : Int) == 1 && (0 : Int) == 0))) = false := by simp
                rw [hb'] at hnq
                clear htr hsn hsy hb' hc1 hc2
                by_cases hm : (i : Int) - (j : Int) < 258
                · have esy : (sy : Int) = (i : Int) - (j : Int) := by omega
                  rw [esy] at c0 HSY hnq
                  have e258 : ¬ (258 : Int) ≤ (i : Int) - (j : Int) := by omega
                  go_wp2
                  have hx : wr.heap.size < (wr.alloc (.cells #[.int .i64 ((i : Int) - (j : Int)), .int .i64 1, .int .u8 0] 25)).heap.size := by simp
                  have HB6 : Hid (Below wr.heap.size wr (wr.alloc (.cells #[.int .i64 ((i : Int) - (j : Int)), .int .i64 1, .int .u8 0] 25))) := (Below.refl _ _).alloc (Nat.le_refl _) _
                  have HN6 : Hid ((wr.alloc (.cells #[.int .i64 ((i : Int) - (j : Int)), .int .i64 1, .int .u8 0] 25)).heap[wr.heap.size]? = some (.cells #[.int .i64 ((i : Int) - (j : Int)), .int .i64 1, .int .u8 0] 25 (0, 0))) := heap_alloc_new wr _
                  obtain ⟨w6, hw6⟩ : ∃ w6, wr.alloc (.cells #[.int .i64 ((i : Int) - (j : Int)), .int .i64 1, .int .u8 0] 25) = w6 := ⟨_, rfl⟩
                  rw [hw6] at HB6 HN6 ⊢
                  have hblt : bb < wr.heap.size := World.block_lt_of_cell? wr _ c0
                  have z0 := (HB6.out.cell (show (⟨bb, o + k * 3, none⟩ : Addr).block < wr.heap.size from hblt)).trans c0
                  have z1 := (HB6.out.cell (show (⟨bb, o + k * 3 + 1, none⟩ : Addr).block < wr.heap.size from hblt)).trans c1
                  have z2 := (HB6.out.cell (show (⟨bb, o + k * 3 + 2, none⟩ : Addr).block < wr.heap.size from hblt)).trans c2
                  have y0 : w6.cell? ⟨wr.heap.size, 0, none⟩ = some (.int .i64 ((i : Int) - (j : Int))) := cellIn HN6.out rfl
                  have y1 : w6.cell? ⟨wr.heap.size, 1, none⟩ = some (.int .i64 1) := cellIn HN6.out rfl
                  have y2 : w6.cell? ⟨wr.heap.size, 2, none⟩ = some (.int .u8 0) := cellIn HN6.out rfl
                  have HB7 := hide (HBk.out.trans (HB6.out.mono HBk.out.size))
                  have HO7 := hide (HOk.out.below HB6.out (Nat.le_refl _))
                  clear hw6 c0 c1 c2 HB6 HN6 HOk HBk hx
                  go_quiet (fail)
                  go_wp2_with fail
                  refine (HSY.out _).mono ?_
                  rintro e w8 ⟨rfl, b8⟩
                  have HB8 := hide ((below_drewN HB7.out _).trans (b8.mono HB7.out.size))
                  have HO8 := hide ((HO7.out.drewN _).below b8 (Nat.le_refl _))
                  clear b8 z0 z1 z2 y0 y1 y2 HB7 HO7 HSY
                  go_wp2
                  go_roundw
                  case rel => exact ⟨k + 1, j + sy, by omega, by omega, by omega, by go_num, by go_num, HK3, HO8, HB8⟩
                  case measure => simp [intOf]; omega
                · have esy : (sy : Int) = 258 := by omega
                  rw [esy] at c0 HSY hnq
                  have e258 : (258 : Int) ≤ (i : Int) - (j : Int) := by omega
                  go_wp2
                  have hx : wr.heap.size < (wr.alloc (.cells #[.int .i64 258, .int .i64 1, .int .u8 0] 25)).heap.size := by simp
                  have HB6 : Hid (Below wr.heap.size wr (wr.alloc (.cells #[.int .i64 258, .int .i64 1, .int .u8 0] 25))) := (Below.refl _ _).alloc (Nat.le_refl _) _
                  have HN6 : Hid ((wr.alloc (.cells #[.int .i64 258, .int .i64 1, .int .u8 0] 25)).heap[wr.heap.size]? = some (.cells #[.int .i64 258, .int .i64 1, .int .u8 0] 25 (0, 0))) := heap_alloc_new wr _
                  obtain ⟨w6, hw6⟩ : ∃ w6, wr.alloc (.cells #[.int .i64 258, .int .i64 1, .int .u8 0] 25) = w6 := ⟨_, rfl⟩
                  rw [hw6] at HB6 HN6 ⊢
                  have hblt : bb < wr.heap.size := World.block_lt_of_cell? wr _ c0
                  have z0 := (HB6.out.cell (show (⟨bb, o + k * 3, none⟩ : Addr).block < wr.heap.size from hblt)).trans c0
                  have z1 := (HB6.out.cell (show (⟨bb, o + k * 3 + 1, none⟩ : Addr).block < wr.heap.size from hblt)).trans c1
                  have z2 := (HB6.out.cell (show (⟨bb, o + k * 3 + 2, none⟩ : Addr).block < wr.heap.size from hblt)).trans c2
                  have y0 : w6.cell? ⟨wr.heap.size, 0, none⟩ = some (.int .i64 258) := cellIn HN6.out rfl
                  have y1 : w6.cell? ⟨wr.heap.size, 1, none⟩ = some (.int .i64 1) := cellIn HN6.out rfl
                  have y2 : w6.cell? ⟨wr.heap.size, 2, none⟩ = some (.int .u8 0) := cellIn HN6.out rfl
                  have HB7 := hide (HBk.out.trans (HB6.out.mono HBk.out.size))
                  have HO7 := hide (HOk.out.below HB6.out (Nat.le_refl _))
                  clear hw6 c0 c1 c2 HB6 HN6 HOk HBk hx
                  go_quiet (fail)
                  go_wp2_with fail
                  refine (HSY.out _).mono ?_
                  rintro e w8 ⟨rfl, b8⟩
                  have HB8 := hide ((below_drewN HB7.out _).trans (b8.mono HB7.out.size))
                  have HO8 := hide ((HO7.out.drewN _).below b8 (Nat.le_refl _))
                  clear b8 z0 z1 z2 y0 y1 y2 HB7 HO7 HSY
                  go_wp2
                  go_roundw
                  case rel => exact ⟨k + 1, j + sy, by omega, by omega, by omega, by go_num, by go_num, HK3, HO8, HB8⟩
                  case measure => simp [intOf]; omega
              · rw [if_neg hc] at htr
                rw [htr] at c0 c1 c2 hsn hsy
                simp only at c0 c1 c2
                have hsy1 : sy = 1 := by rw [← hsy]; rfl
                subst hsy1
                have HSY := hide (fun wx => says_any 0 0 b wx hsn)
                rw [hsy] at HSY
                have hnq := fun W => tk_neq W 0 0 b 0 0 b
                have hb' : (!((0 : Int) == 0 && ((0 : Int) == 0 && b == b))) = false := by simp
                rw [hb'] at hnq
                clear htr hsn hsy hb'
                by_cases hj0 : 0 < j
                · have g4 : (0 : Int) < (j : Int) := by omega
                  have g5 : ¬ (3 : Int) ≤ (i : Int) - (j : Int) := by omega
                  go_wp2
                  have hx : wr.heap.size < (wr.alloc (.cells #[.int .i64 0, .int .i64 0, .int .u8 b] 25)).heap.size := by simp
                  have HB6 : Hid (Below wr.heap.size wr (wr.alloc (.cells #[.int .i64 0, .int .i64 0, .int .u8 b] 25))) := (Below.refl _ _).alloc (Nat.le_refl _) _
                  have HN6 : Hid ((wr.alloc (.cells #[.int .i64 0, .int .i64 0, .int .u8 b] 25)).heap[wr.heap.size]? = some (.cells #[.int .i64 0, .int .i64 0, .int .u8 b] 25 (0, 0))) := heap_alloc_new wr _
                  obtain ⟨w6, hw6⟩ : ∃ w6, wr.alloc (.cells #[.int .i64 0, .int .i64 0, .int .u8 b] 25) = w6 := ⟨_, rfl⟩
                  rw [hw6] at HB6 HN6 ⊢
                  have hblt : bb < wr.heap.size := World.block_lt_of_cell? wr _ c0
                  have z0 := (HB6.out.cell (show (⟨bb, o + k * 3, none⟩ : Addr).block < wr.heap.size from hblt)).trans c0
                  have z1 := (HB6.out.cell (show (⟨bb, o + k * 3 + 1, none⟩ : Addr).block < wr.heap.size from hblt)).trans c1
                  have z2 := (HB6.out.cell (show (⟨bb, o + k * 3 + 2, none⟩ : Addr).block < wr.heap.size from hblt)).trans c2
                  have y0 : w6.cell? ⟨wr.heap.size, 0, none⟩ = some (.int .i64 0) := cellIn HN6.out rfl
                  have y1 : w6.cell? ⟨wr.heap.size, 1, none⟩ = some (.int .i64 0) := cellIn HN6.out rfl
                  have y2 : w6.cell? ⟨wr.heap.size, 2, none⟩ = some (.int .u8 b) := cellIn HN6.out rfl
                  have HB7 := hide (HBk.out.trans (HB6.out.mono HBk.out.size))
                  have HO7 := hide (HOk.out.below HB6.out (Nat.le_refl _))
                  clear hw6 c0 c1 c2 HB6 HN6 HOk HBk hx
                  go_quiet (fail)
                  go_wp2_with fail
                  refine (HSY.out _).mono ?_
                  rintro e w8 ⟨rfl, b8⟩
                  have HB8 := hide ((below_drewN HB7.out _).trans (b8.mono HB7.out.size))
                  have HO8 := hide ((HO7.out.drewN _).below b8 (Nat.le_refl _))
                  clear b8 z0 z1 z2 y0 y1 y2 HB7 HO7 HSY
                  go_wp2
                  go_roundw
                  case rel => exact ⟨k + 1, j + 1, by omega, by omega, by omega, by go_num, by go_num, HK3, HO8, HB8⟩
                  case measure => simp [intOf]; omega
                · have g4 : ¬ (0 : Int) < (j : Int) := by omega
                  go_wp2
                  have hx : wr.heap.size < (wr.alloc (.cells #[.int .i64 0, .int .i64 0, .int .u8 b] 25)).heap.size := by simp
                  have HB6 : Hid (Below wr.heap.size wr (wr.alloc (.cells #[.int .i64 0, .int .i64 0, .int .u8 b] 25))) := (Below.refl _ _).alloc (Nat.le_refl _) _
                  have HN6 : Hid ((wr.alloc (.cells #[.int .i64 0, .int .i64 0, .int .u8 b] 25)).heap[wr.heap.size]? = some (.cells #[.int .i64 0, .int .i64 0, .int .u8 b] 25 (0, 0))) := heap_alloc_new wr _
                  obtain ⟨w6, hw6⟩ : ∃ w6, wr.alloc (.cells #[.int .i64 0, .int .i64 0, .int .u8 b] 25) = w6 := ⟨_, rfl⟩
                  rw [hw6] at HB6 HN6 ⊢
                  have hblt : bb < wr.heap.size := World.block_lt_of_cell? wr _ c0
                  have z0 := (HB6.out.cell (show (⟨bb, o + k * 3, none⟩ : Addr).block < wr.heap.size from hblt)).trans c0
                  have z1 := (HB6.out.cell (show (⟨bb, o + k * 3 + 1, none⟩ : Addr).block < wr.heap.size from hblt)).trans c1
                  have z2 := (HB6.out.cell (show (⟨bb, o + k * 3 + 2, none⟩ : Addr).block < wr.heap.size from hblt)).trans c2
                  have y0 : w6.cell? ⟨wr.heap.size, 0, none⟩ = some (.int .i64 0) := cellIn HN6.out rfl
                  have y1 : w6.cell? ⟨wr.heap.size, 1, none⟩ = some (.int .i64 0) := cellIn HN6.out rfl
                  have y2 : w6.cell? ⟨wr.heap.size, 2, none⟩ = some (.int .u8 b) := cellIn HN6.out rfl
                  have HB7 := hide (HBk.out.trans (HB6.out.mono HBk.out.size))
                  have HO7 := hide (HOk.out.below HB6.out (Nat.le_refl _))
                  clear hw6 c0 c1 c2 HB6 HN6 HOk HBk hx
                  go_quiet (fail)
                  go_wp2_with fail
                  refine (HSY.out _).mono ?_
                  rintro e w8 ⟨rfl, b8⟩
                  have HB8 := hide ((below_drewN HB7.out _).trans (b8.mono HB7.out.size))
                  have HO8 := hide ((HO7.out.drewN _).below b8 (Nat.le_refl _))
                  clear b8 z0 z1 z2 y0 y1 y2 HB7 HO7 HSY
                  go_wp2
                  go_roundw
                  case rel => exact ⟨k + 1, j + 1, by omega, by omega, by omega, by go_num, by go_num, HK3, HO8, HB8⟩
                  case measure => simp [intOf]; omega
            · have hj' : ¬ (j : Int) < (i : Int) := by omega
              have hdr := HDR.out
              rw [tks_end (by rw [HDL.out]; exact hj)] at hdr
              have hkl : L.length = k := by
                have := congrArg List.length hdr
                simp at this
                omega
              have g6 : ((k : Int) == (L.length : Int)) = true := by simp [hkl]
              clear hdr
              go_wp2
              go_ret
              exact ⟨rfl, HFI.out _ HBk.out⟩
  · have HDD : Hid (dmn x y = false) := decide_eq_false h2
    rw [HDD.out]
    go_wp2
    go_ret
    exact ⟨rfl, HFI.out _ HB2.out⟩
end Go.Proofs.Ytecimcpaoobknaa

