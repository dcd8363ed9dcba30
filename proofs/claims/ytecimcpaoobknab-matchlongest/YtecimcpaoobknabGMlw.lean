import Derived.Test.YtecimcpaoobknabGTtw
import Derived.Test.YtecimcpaoobknabGLnb
import Derived.Test.YtecimcpaoobknabGEx
import Derived.Test.YtecimcpaoobknabGMn
import Derived.Test.YtecimcpaoobknabGCnt
import Derived.Test.YtecimcpaoobknabGBn
import Derived.Test.YtecimcpaoobknabGNxc
import Derived.BigQuiet
import Derived.Deep.DeepCutAuto
import Derived.Deep.RegionWith
namespace Go.Proofs.Ytecimcpaoobknab
open Go.RowKit Go.Maps
set_option maxRecDepth 20000
set_option linter.unusedVariables false

theorem tkl_len2 {D : List Int} {W C : Nat} {z : Bool} : (tkl D W C z).length ≤ D.length := by
  have := tks_len (D := D) (W := W) (C := C) (z := z) D.length 0 (Nat.zero_le _)
  show (tks D W C z D.length 0).length ≤ _
  omega

set_option maxHeartbeats 8000000 in
theorem matchLongest_walk (v pv : Value) (D P : List Int) (x y : Int) (z : Bool) (w : World) (h : SB w v D) (hp : SI w pv P) (hB : Byt D) (hr : D.length ≤ 140737488351232) (hpl : P.length ≤ 17592186043904) :
    Calls Try.prog 5 #[v, .agg #[.int .i64 x, .int .i64 y, .bool z], pv] w fun e w' => e = .returned (.bool true) ∧ Below w.heap.size w w' := by
  have HB : Hid (Below w.heap.size w (w.alloc (.cells #[.int .i64 x, .int .i64 y, .bool z] 24))) := (Below.refl _ _).alloc (Nat.le_refl _) _
  have HS := hide (h.below HB.out)
  have HPI := hide (hp.below HB.out)
  obtain ⟨wb, hwb⟩ : ∃ wb, w.alloc (.cells #[.int .i64 x, .int .i64 y, .bool z] 24) = wb := ⟨_, rfl⟩
  have hbl : w.heap.size < wb.heap.size := by rw [← hwb]; simp
  have d1 : wb.cell? ⟨w.heap.size, 0, none⟩ = some (.int .i64 x) := by rw [← hwb]; unfold World.cell?; simp only [heap_alloc_new]; rfl
  have d2 : wb.cell? ⟨w.heap.size, 1, none⟩ = some (.int .i64 y) := by rw [← hwb]; unfold World.cell?; simp only [heap_alloc_new]; rfl
  have d3 : wb.cell? ⟨w.heap.size, 2, none⟩ = some (.bool z) := by rw [← hwb]; unfold World.cell?; simp only [heap_alloc_new]; rfl
  rw [hwb] at HB HS HPI
  have HBT := hide hB
  have HC : Hid (∀ wx, Below wb.heap.size wb wx → wx.cell? ⟨w.heap.size, 0, none⟩ = some (.int .i64 x) ∧ wx.cell? ⟨w.heap.size, 1, none⟩ = some (.int .i64 y) ∧ wx.cell? ⟨w.heap.size, 2, none⟩ = some (.bool z)) := fun wx q => ⟨(q.cell hbl).trans d1, (q.cell hbl).trans d2, (q.cell hbl).trans d3⟩
  have HFI : Hid (∀ wx, Below wb.heap.size wb wx → Below w.heap.size w wx) := fun wx q => HB.out.trans (q.mono HB.out.size)
  have HSB : Hid (∀ wx, Below wb.heap.size wb wx → SB wx v D) := fun wx q => HS.out.below q
  obtain ⟨ao, cap, rfl, hlc, hcm⟩ := h.open
  obtain ⟨po, pcap, rfl, hpc, hpm⟩ := hp.open
  clear h hB hp
  by_cases h1 : (D.length : Int) ≤ 16777216
  · have g1 : ¬ (16777216 : Int) < (D.length : Int) := by omega
    have HLD := hide (ldom_any x y z wb)
    go_enter Try.func5, Try.ntmps5
    go_wp2_with fail
    refine HLD.out.mono ?_
    rintro e w2 ⟨rfl, b2⟩
    have HB2 := hide b2
    obtain ⟨f1, f2, f3⟩ := HC.out _ HB2.out
    clear b2 hwb d1 d2 d3 HLD
    by_cases h2 : Dmn x y
    · have HDD : Hid (dmn x y = true) := decide_eq_true h2
      rw [HDD.out]
      unfold Dmn at h2
      obtain ⟨W, rfl⟩ := Int.eq_ofNat_of_zero_le (show 0 ≤ x by omega)
      obtain ⟨C, rfl⟩ := Int.eq_ofNat_of_zero_le (show 0 ≤ y by omega)
      have hWb : 1 ≤ W ∧ W ≤ 32768 ∧ C ≤ 4096 := by omega
      have hDb : D.length ≤ 16777216 := by omega
      obtain ⟨L, HL⟩ : ∃ L, Hid (L = tkl D W C z) := ⟨_, rfl⟩
      have hLl : L.length ≤ D.length := by rw [HL.out]; exact tkl_len2
      have HCP := hide (copied_any _ D w2.drew ((HSB.out _ HB2.out).below (Below.refl _ _).drew) hr)
      have HTO : Hid (∀ wx u, SB wx u D → Calls Try.prog 9 #[u, .agg #[.int .i64 (W : Int), .int .i64 (C : Int), .bool z]] wx fun e w' => ∃ u, e = .returned (.tuple #[u, .int .i64 0]) ∧ OK w' wx.heap.size u L ∧ Below wx.heap.size wx w') := fun wx u q => by
        have := tokens_yes u D W C z wx q HBT.out (by omega) (by omega) (by omega) (by omega)
        rw [← HL.out] at this
        exact this
      have HB3D : Hid (Below wb.heap.size wb w2.drew) := HB2.out.drew
      have e1 : w2.drew.cell? ⟨w.heap.size, 0, none⟩ = some (.int .i64 (W : Int)) := f1
      have e2 : w2.drew.cell? ⟨w.heap.size, 1, none⟩ = some (.int .i64 (C : Int)) := f2
      have e3 : w2.drew.cell? ⟨w.heap.size, 2, none⟩ = some (.bool z) := f3
      clear h2
      go_wp2
      go_cut [7, 8] (fun s5 s6 wx => ∃ ta tc, s5 = .slice ta L.length tc ∧ s6 = .int .i64 0 ∧ tc ≤ 9223372036854775807 ∧ L.length ≤ tc ∧ Hid (OK wx wb.heap.size (.slice ta L.length tc) L) ∧ Hid (Below wb.heap.size wb wx))
      case first =>
        go_region_with (first
          | (go_at_call 8; refine HCP.out.mono ?_; rintro e w4 ⟨a4, c4, rfl, o4, b4⟩; have HO4 := hide o4.sb; have HB4 := hide (HB3D.out.trans (b4.mono HB3D.out.size)); obtain ⟨k1, k2, k3⟩ := HC.out _ HB4.out; clear o4 b4)
          | (go_at_call 9; refine (HTO.out _ _ HO4.out).mono ?_; rintro e w5 ⟨u5, rfl, o5, b5⟩; have HB5 := hide (HB4.out.trans (b5.mono HB4.out.size)); have HO5 : Hid (OK w5 wb.heap.size u5 L) := o5.base HB4.out.size; obtain ⟨a5, c5, hu5, hl5, hm5⟩ := o5.shape; subst hu5; clear o5 b5))
        all_goals
          go_wp2_with fail
          go_meet
          exact ⟨_, _, rfl, rfl, hm5, hl5, HO5, HB5⟩
      case rest =>
      obtain ⟨ta, tc, rfl, rfl, hm5, hl5, HO5, HB5⟩ := hcut
      clear e1 e2 e3 f1 f2 f3 HTO HCP HB3D HB2
      obtain ⟨q1, q2⟩ := tkl_all (D := D) (W := W) (C := C) (z := z) (by omega)
      rw [← HL.out] at q1 q2
      have HMN := hide (means_any _ _ L D (D.length : Int) wc HO5.out.sk (HSB.out _ HB5.out) q1 q2.symm (by omega))
      clear q1 q2
      go_wp2_with fail
      refine HMN.out.mono ?_
      rintro e w7 ⟨rfl, b7⟩
      have HB7 := hide (HB5.out.trans (b7.mono HB5.out.size))
      have HO7 := hide (HO5.out.below b7 (Nat.le_refl _))
      clear b7 HMN HO5 HB5
      go_wp2
      go_loopw [9, 10] (fun t s wr => ∃ (k i : Nat), k ≤ i ∧ i ≤ D.length ∧ k ≤ L.length ∧ s = .int .i64 (k : Int) ∧ t = .int .i64 (i : Int) ∧ Hid (L.drop k = tks D W C z (D.length - k) i) ∧ Hid (OK wr wb.heap.size (.slice ta L.length tc) L) ∧ Hid (Below wb.heap.size wb wr)) (fun _ s _ => L.length - (intOf s).toNat)
      case atStart => exact ⟨0, 0, Nat.le_refl _, Nat.zero_le _, Nat.zero_le _, rfl, rfl, HL.out, HO7, HB7⟩
      case round =>
        obtain ⟨k, i, hki, hil, hkL, rfl, rfl, HDR, HOk, HBk⟩ := hrel
        by_cases hk : k < L.length
        · have hk' : (k : Int) < (L.length : Int) := by omega
          by_cases hP : 0 < P.length
          · have hP' : (0 : Int) < (P.length : Int) := by omega
            have hi : i < D.length := by
              by_cases e : i < D.length
              · exact e
              · have hdr := HDR.out
                rw [tks_end e] at hdr
                have := congrArg List.length hdr
                simp at this
                omega
            have hdr := HDR.out
            rw [show D.length - k = (D.length - (k + 1)) + 1 by omega, tks_go hi] at hdr
            obtain ⟨hk1, hk2, hk3⟩ := drop_cons hdr
            have hen := tok_end (D := D) (W := W) (C := C) (z := z) hi
            have hsn := tok_snd (D := D) (W := W) (C := C) (z := z) hi (by omega)
            obtain ⟨sy, hsy⟩ : ∃ sy, says (tok D W C z i) = sy := ⟨_, rfl⟩
            rw [hsy] at hk3 hen
            have hs1 : 1 ≤ sy := by rw [← hsy]; exact says_pos _
            have HK3 := hide hk3
            obtain ⟨bb, o, rfl, c0, c1, c2⟩ := HOk.out.sk.get (Below.refl _ _) hk1
            rw [hk2] at c0 c1 c2
            obtain ⟨⟨t1, t2, t3⟩, HT⟩ : ∃ t, Hid (tok D W C z i = t) := ⟨_, hide rfl⟩
            rw [HT.out] at c0 c1 c2 hsn hsy
            simp only at c0 c1 c2
            have HSY := hide (fun wx => says_any t1 t2 t3 wx hsn)
            rw [hsy] at HSY
            have HB6 : Hid (Below wr.heap.size wr (wr.alloc (.cells #[.int .i64 t1, .int .i64 t2, .int .u8 t3] 38))) := (Below.refl _ _).alloc (Nat.le_refl _) _
            have HN6 : Hid ((wr.alloc (.cells #[.int .i64 t1, .int .i64 t2, .int .u8 t3] 38)).heap[wr.heap.size]? = some (.cells #[.int .i64 t1, .int .i64 t2, .int .u8 t3] 38 (0, 0))) := heap_alloc_new wr _
            obtain ⟨bx, hbx⟩ : ∃ bx, wr.heap.size = bx := ⟨_, rfl⟩
            have hbx2 : bx < (wr.alloc (.cells #[.int .i64 t1, .int .i64 t2, .int .u8 t3] 38)).heap.size := by simp; omega
            rw [hbx] at HN6
            clear hdr hk2 hk3
            go_wp2_with fail
            obtain ⟨w6, hw6⟩ : ∃ w6, wr.alloc (.cells #[.int .i64 t1, .int .i64 t2, .int .u8 t3] 38) = w6 := ⟨_, rfl⟩
            rw [hw6] at HB6 HN6 hbx2 ⊢
            refine (HSY.out _).mono ?_
            rintro e w8 ⟨rfl, b8⟩
            have HN8 := hide ((b8.block bx hbx2).trans HN6.out)
            have HB8 := hide ((HBk.out.trans (HB6.out.mono HBk.out.size)).trans (b8.mono (Nat.le_trans HBk.out.size HB6.out.size)))
            have HO8 := hide ((HOk.out.below HB6.out (Nat.le_refl _)).below b8 (Nat.le_refl _))
            have hx8 : bx < w8.heap.size := Nat.lt_of_lt_of_le hbx2 b8.size
            clear b8 hw6 HN6 HB6 HOk HBk HSY c0 c1 c2
            have hii : IntKind.i64.wrap ((i : Int) + (sy : Int)) = (i : Int) + (sy : Int) := by go_arith
            by_cases hi0 : i = 0
            · have g2 : (i : Int) = 0 := by omega
              go_wp2
              go_roundw
              case rel => exact ⟨k + 1, i + sy, by omega, hen, by omega, by go_num, by go_num, HK3, HO8, HB8⟩
              case measure => simp [intOf]; omega
            · have g2 : ¬ (i : Int) = 0 := by omega
              have HW1 := hide (which_any (k : Int) (P.length : Int) hP' (by omega))
              obtain ⟨kk, hkk⟩ : ∃ kk : Nat, (k : Int) % (P.length : Int) = (kk : Int) := ⟨k % P.length, by simp⟩
              have hkk2 : kk < P.length := by
                have h1 := Int.emod_lt_of_pos (k : Int) hP'
                omega
              rw [hkk] at HW1
              obtain ⟨pb, pof', hpo, pc⟩ := HPI.out.get (HB8.out) (k := kk) hkk2
              subst hpo
              obtain ⟨pk, hpk⟩ : ∃ pk, P.getD kk 0 = pk := ⟨_, rfl⟩
              rw [hpk] at pc
              have hipos : (0 : Int) < (i : Int) := by omega
              have HW2 := hide (which_any pk (i : Int) hipos (by omega))
              obtain ⟨j, hj⟩ : ∃ j : Nat, pk % (i : Int) = (j : Int) := ⟨(pk % (i : Int)).toNat, by have := Int.emod_nonneg pk (show (i : Int) ≠ 0 by omega); omega⟩
              have hji : j < i := by
                have := Int.emod_lt_of_pos pk hipos
                omega
              rw [hj] at HW2
              obtain ⟨f1, f2, f3⟩ := HC.out _ HB8.out
              have HCO := hide (counts_any _ D j i W C z w8 (HSB.out _ HB8.out) hji hi (by omega) (by omega) (by omega))
              have hkk3 : (kk : Int) < (P.length : Int) := by omega
              clear hkk hpk hj
              go_wp2_with fail
              refine (HW1.out _).mono ?_
              rintro e w9 ⟨rfl, hw9⟩
              subst hw9
              go_wp2_with fail
              refine (HW2.out _).mono ?_
              rintro e w9 ⟨rfl, hw9⟩
              subst hw9
              go_wp2_with fail
              refine HCO.out.mono ?_
              rintro e w10 ⟨rfl, b10⟩
              have HN10 := hide ((b10.block bx hx8).trans HN8.out)
              have HB10 := hide (HB8.out.trans (b10.mono HB8.out.size))
              have HO10 := hide (HO8.out.below b10 (Nat.le_refl _))
              clear b10 HCO HW1 HW2 pc f1 f2 f3 HB8 HO8 HN8 hx8
              by_cases hcn : i - j ≤ W ∧ Cnd D j i ∧ (asc D i (j + 1) (i - 1 - j)).length < C
              · have HCN : Hid (cntb D j i W C = true) := decide_eq_true hcn
                rw [HCN.out]
                have HTOP := hide (bst_top hji hcn)
                have hm3 : 3 ≤ rno D j i := by have := cnd_iff.1 hcn.2.1; omega
                have HRU := hide (lrun_any _ D j i w10 (HSB.out _ HB10.out) hji hi (by omega))
                obtain ⟨mm, HMM⟩ : ∃ mm, Hid (mm = rno D j i) := ⟨_, hide rfl⟩
                have hmb := rno_le D j i
                rw [← HMM.out] at HRU HTOP hm3 hmb
                clear hcn
                go_wp2_with fail
                refine HRU.out.mono ?_
                rintro e w11 ⟨rfl, n11, hw11⟩
                have HB11 : Hid (Below wb.heap.size wb w11) := by rw [hw11]; exact below_drewN HB10.out _
                have HO11 : Hid (OK w11 wb.heap.size (.slice (some ⟨bb, o, none⟩) L.length tc) L) := by rw [hw11]; exact HO10.out.drewN _
                have HN11 : Hid (w11.heap[bx]? = some (.cells #[.int .i64 t1, .int .i64 t2, .int .u8 t3] 38 (0, 0))) := by rw [hw11]; exact HN10.out
                clear hw11 HRU HB10 HO10 HN10
                have x0 : w11.cell? ⟨bx, 0, none⟩ = some (.int .i64 t1) := cellIn HN11.out rfl
                have x1 : w11.cell? ⟨bx, 1, none⟩ = some (.int .i64 t2) := cellIn HN11.out rfl
                obtain ⟨f1, f2, f3⟩ := HC.out _ HB11.out
                obtain ⟨BS, HBS⟩ : ∃ BS, Hid (BS = bst D i W C) := ⟨_, hide rfl⟩
                have htop := HTOP.out
                rw [← HBS.out] at htop
                obtain ⟨B1, B2⟩ := BS
                simp only at htop
                by_cases hL : Lit D W C z i
                · have ht := HT.out
                  rw [tok_lit hL] at ht
                  simp only [Prod.mk.injEq] at ht
                  obtain ⟨ht1, ht2, _⟩ := ht
                  have h0 : 0 < (bst D i W C).1 := by rw [← HBS.out]; show 0 < B1; omega
                  obtain ⟨t, len, y1, y2, y3, y4, y5⟩ := lazy_far (D := D) (W := W) (C := C) (z := z) (D.length - k) i hi (by omega) h0
                  have HZ := hide (y5 hL)
                  rw [← HDR.out] at y1 y2 y3
                  rw [← HBS.out] at y4
                  have y4' : B1 + t ≤ len := y4
                  rw [getD_drop] at y3
                  have HNX := hide (nextCopy_at _ L k t len w11 HO11.out.sk (fun q hq => by have := y2 q hq; rw [getD_drop] at this; exact this) (by rw [List.length_drop] at y1; omega) y3 (by omega) (by omega))
                  rw [HZ.out] at f3
                  rw [← ht1] at x0
                  have ht : t ≤ 16777216 := by rw [List.length_drop] at y1; omega
                  have g6 : ¬ (len : Int) < (mm : Int) + (t : Int) := by omega
                  clear y1 y2 y3 y4 y5 h0 htop ht1 ht2 HTOP
                  go_wp2_with fail
                  refine HNX.out.mono ?_
                  rintro e w12 ⟨rfl, n12, hw12⟩
                  have HB12 : Hid (Below wb.heap.size wb w12) := by rw [hw12]; exact below_drewN HB11.out _
                  have HO12 : Hid (OK w12 wb.heap.size (.slice (some ⟨bb, o, none⟩) L.length tc) L) := by rw [hw12]; exact HO11.out.drewN _
                  obtain ⟨k1, k2, k3⟩ := HC.out _ HB12.out
                  rw [HZ.out] at k3
                  clear hw12 HNX f1 f2 f3 x0 x1
                  go_wp2
                  go_roundw
                  case rel => exact ⟨k + 1, i + sy, by omega, hen, by omega, by go_num, by go_num, HK3, HO12, HB12⟩
                  case measure => simp [intOf]; omega
                · have ht := HT.out
                  rw [tok_cpy hL, ← HBS.out] at ht
                  simp only [Prod.mk.injEq] at ht
                  obtain ⟨ht1, ht2, ht3⟩ := ht
                  clear ht3
                  rw [← ht1] at x0
                  rw [← ht2] at x1
                  have hB1 : 0 < B1 := by omega
                  have g4 : (0 : Int) < (B1 : Int) := by omega
                  have g5 : ¬ (B1 : Int) < (mm : Int) := by omega
                  have g7 : ¬ (B1 : Int) = 0 := by omega
                  by_cases hme : mm = B1
                  · have g6 : ((mm : Int) == (B1 : Int)) = true := by simp [hme]
                    have g8 : ¬ (i : Int) - (j : Int) < (B2 : Int) := by have := htop.2 hme; omega
                    clear htop HTOP ht1 ht2 hme
                    go_wp2
                    go_roundw
                    case rel => exact ⟨k + 1, i + sy, by omega, hen, by omega, by go_num, by go_num, HK3, HO11, HB11⟩
                    case measure => simp [intOf]; omega
                  · have g6 : ((mm : Int) == (B1 : Int)) = false := by simp; omega
                    clear htop HTOP ht1 ht2 hme
                    go_wp2
                    go_roundw
                    case rel => exact ⟨k + 1, i + sy, by omega, hen, by omega, by go_num, by go_num, HK3, HO11, HB11⟩
                    case measure => simp [intOf]; omega
              · have HCN : Hid (cntb D j i W C = false) := decide_eq_false hcn
                rw [HCN.out]
                go_wp2
                go_roundw
                case rel => exact ⟨k + 1, i + sy, by omega, hen, by omega, by go_num, by go_num, HK3, HO10, HB10⟩
                case measure => simp [intOf]; omega
          · have hP' : ¬ (0 : Int) < (P.length : Int) := by omega
            go_wp2
            go_ret
            exact ⟨rfl, HFI.out _ HBk.out⟩
        · have hk' : ¬ (k : Int) < (L.length : Int) := by omega
          go_wp2
          go_ret
          exact ⟨rfl, HFI.out _ HBk.out⟩
    · have HDD : Hid (dmn x y = false) := decide_eq_false h2
      rw [HDD.out]
      go_wp2
      go_ret
      exact ⟨rfl, HFI.out _ HB2.out⟩
  · have g1 : (16777216 : Int) < (D.length : Int) := by omega
    have HB0 : Hid (Below wb.heap.size wb wb) := Below.refl _ _
    go_enter Try.func5, Try.ntmps5
    go_wp2
    go_ret
    exact ⟨rfl, HFI.out _ HB0.out⟩
end Go.Proofs.Ytecimcpaoobknab

