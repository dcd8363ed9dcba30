import Derived.Test.YteiajeeincapoabApartB
namespace Go.Proofs.Yteiajeeincapoab
open Go.RowKit Go.Maps

set_option maxRecDepth 20000 in
set_option maxHeartbeats 8000000 in
theorem apart_walk (v vdata : Value) (l data : List Int) (c off : Int) (w : World) (hs : SB w v l) (hdat : SB w vdata data) (hdl : data.length ≤ 140737488351232) (hoff : off ≤ 9223372036854775807) (hoff2 : -9223372036854775808 ≤ off) :
    Calls Try.prog 4 #[v, .int .i64 c, .int .i64 off, vdata] w fun e w' => e = .returned (.bool true) ∧ Below w.heap.size w w' := by
  have HS := hide hs
  have HDAT := hide hdat
  obtain ⟨ao, k, hv, hk1, hk2, _⟩ := hs
  unfold maxLen at hk2
  subst hv
  obtain ⟨av, kv, hv, hkv1, hkv2, _⟩ := hdat
  unfold maxLen at hkv2
  subst hv
  by_cases hfit : 0 ≤ c ∧ c ≤ 16777216 ∧ (l.length : Int) ≤ c
  case neg =>
    go_enter Try.func4, Try.ntmps4
    go_wp2_with fail
    refine (fits_no ao l.length k c _ hfit (by omega)).mono ?_
    rintro e w ⟨rfl, rfl⟩
    clear hfit
    go_wp2
    go_ret
    exact ⟨rfl, Below.refl _ _⟩
  case pos =>
    obtain ⟨hf0, hf1, hf2⟩ := hfit
    obtain ⟨cn, rfl⟩ := Int.eq_ofNat_of_zero_le hf0
    by_cases ho0 : off < 0
    · go_enter Try.func4, Try.ntmps4
      go_wp2_with fail
      refine (fits_yes ao l.length k cn _ (by omega) hf1 hf2 (by omega)).mono ?_
      rintro e w ⟨rfl, rfl⟩
      go_wp2
      go_ret
      exact ⟨rfl, Below.refl _ _⟩
    · by_cases ho1 : (cn : Int) < off
      · go_enter Try.func4, Try.ntmps4
        go_wp2_with fail
        refine (fits_yes ao l.length k cn _ (by omega) hf1 hf2 (by omega)).mono ?_
        rintro e w ⟨rfl, rfl⟩
        go_wp2
        go_ret
        exact ⟨rfl, Below.refl _ _⟩
      · by_cases ho2 : (cn : Int) - off < data.length
        · go_enter Try.func4, Try.ntmps4
          go_wp2_with fail
          refine (fits_yes ao l.length k cn _ (by omega) hf1 hf2 (by omega)).mono ?_
          rintro e w ⟨rfl, rfl⟩
          go_wp2
          go_ret
          exact ⟨rfl, Below.refl _ _⟩
        · have hrun0 := Run.new l cn (by omega) (by omega)
          have hrun1 := write_run hrun0 off data (by omega) (by omega) (by omega)
          have HRun0 := hide hrun0
          have HRun1 := hide hrun1.1
          have HERR := hide hrun1.2
          clear hrun0 hrun1
          go_enter Try.func4, Try.ntmps4
          go_wp2_with fail
          refine (fits_yes ao l.length k cn _ (by omega) hf1 hf2 (by omega)).mono ?_
          rintro e w ⟨rfl, rfl⟩
          go_wp2_with fail
          refine (roomy_any _ l _ HS.out (by omega)).mono ?_
          rintro e w1 ⟨vF, rfl, hvF, ho1', hsp1, hb1⟩
          subst hvF
          have HY1 := hide (Yard.first hb1 ho1')
          have HP1 := hide hsp1
          clear ho1' hsp1 hb1
          go_wp2_with fail
          refine (new_rep _ l cn _ (HY1.out.ob 0 _ rfl).sb (by omega) (by omega)).mono ?_
          rintro e w2 ⟨g, K, rfl, hR2, hU2, hb2⟩
          have HY2 : Hid (Yard w w2 [(.slice (some ⟨w.heap.size, 0, none⟩) l.length (l.length + 9), l)] [(K, g, stNew l cn)]) := HY1.out.pushd hb2 hR2 hU2
          have HP2 := hide (HP1.out.below hb2)
          clear hR2 hU2 hb2
          go_wp2_with fail
          refine (mark_any _ l 1 w.heap.size _ (HY2.out.ob 0 _ rfl) (by omega)).mono ?_
          rintro e w3 ⟨rfl, ho3, hg3, hc3⟩
          have HY3 : Hid (Yard w w3 [(.slice (some ⟨w.heap.size, 0, none⟩) l.length (l.length + 9), List.replicate l.length 1)] [(K, g, stNew l cn)]) := HY2.out.mark 0 rfl ho3 hg3
          have HP3 := hide (HP2.out.mark hc3)
          clear ho3 hg3 hc3
          go_wp2_with fail
          refine (roomy_any _ data _ (HDAT.out.below HY3.out.bel) (by omega)).mono ?_
          rintro e w4 ⟨vS, rfl, hvS, ho4, hsp4, hb4⟩
          subst hvS
          have HY4 : Hid (Yard w w4 [(.slice (some ⟨w.heap.size, 0, none⟩) l.length (l.length + 9), List.replicate l.length 1), (.slice (some ⟨w3.heap.size, 0, none⟩) data.length (data.length + 9), data)] [(K, g, stNew l cn)]) := HY3.out.push hb4 ho4
          have HP4 := hide (HP3.out.below hb4)
          have HQ4 := hide hsp4
          clear ho4 hsp4 hb4
          go_wp2_with fail
          refine (write_any off (HY4.out.rep 0 _ rfl) HRun0.out.inv.p HRun0.out.inv.s (HY4.out.ob 1 _ rfl).sb (HY4.out.cross 1 0 _ _ rfl rfl)).mono ?_
          rintro e w5 ⟨rfl, K5, hR5, hF5⟩
          rw [HERR.out]
          obtain ⟨st, hst⟩ : ∃ st, st = writeSt (stNew l cn) off data := ⟨_, rfl⟩
          rw [← hst] at hR5 HRun1
          have HY5 : Hid (Yard w w5 [(.slice (some ⟨w.heap.size, 0, none⟩) l.length (l.length + 9), List.replicate l.length 1), (.slice (some ⟨w3.heap.size, 0, none⟩) data.length (data.length + 9), data)] [(K5, g, st)]) := HY4.out.op 0 rfl hR5 hF5
          have HP5 := hide (HP4.out.fr (HY4.out.cross 0 0 _ _ rfl rfl) hF5)
          have HQ5 := hide (HQ4.out.fr (HY4.out.cross 1 0 _ _ rfl rfl) hF5)
          clear hR5 hF5 hst HY1 HY2 HY3 HY4 HP1 HP2 HP3 HP4 HQ4 HERR HRun0
          go_wp2_with fail
          refine (spared_any _ l.length _ HP5.out (by omega)).mono ?_
          rintro e w5 ⟨rfl, rfl⟩
          go_wp2_with fail
          refine (spared_any _ data.length _ HQ5.out (by omega)).mono ?_
          rintro e w5 ⟨rfl, rfl⟩
          clear HP5 HQ5
          go_wp2_with fail
          refine (mark_any _ data 2 w.heap.size _ (HY5.out.ob 1 _ rfl) (by omega)).mono ?_
          rintro e w6 ⟨rfl, ho6, hg6, -⟩
          have HY6 : Hid (Yard w w6 [(.slice (some ⟨w.heap.size, 0, none⟩) l.length (l.length + 9), List.replicate l.length 1), (.slice (some ⟨w3.heap.size, 0, none⟩) data.length (data.length + 9), List.replicate data.length 2)] [(K5, g, st)]) := HY5.out.mark 1 rfl ho6 hg6
          obtain ⟨vf, hvf⟩ : ∃ vf, vf = Value.slice (some ⟨w.heap.size, 0, none⟩) l.length (l.length + 9) := ⟨_, rfl⟩
          obtain ⟨vs, hvs⟩ : ∃ vs, vs = Value.slice (some ⟨w3.heap.size, 0, none⟩) data.length (data.length + 9) := ⟨_, rfl⟩
          clear ho6 hg6 HY5
          have hN := HRun1.out.now
          go_wp2_with fail
          refine (image_rep (HY6.out.rep 0 _ rfl) hN).mono ?_
          rintro e w7 ⟨a7, c7, rfl, ho7, hb7⟩
          have HY7 : Hid (Yard w w7 ([(.slice (some ⟨w.heap.size, 0, none⟩) l.length (l.length + 9), List.replicate l.length 1), (.slice (some ⟨w3.heap.size, 0, none⟩) data.length (data.length + 9), List.replicate data.length 2)] ++ [(.slice a7 st.now.length c7, st.now)]) [(K5, g, st)]) := HY6.out.push hb7 ho7
          clear ho7 hb7 HY6 hvf hvs
          go_wp2_with fail
          refine (clone_any _ st.now _ (HY7.out.ob 2 _ rfl).sb (by omega)).mono ?_
          rintro e w8 ⟨_, rfl, rfl, ho8, hb8⟩
          have HY8 := hide (HY7.out.push hb8 ho8)
          clear ho8 hb8 HY7
          go_wp2_with fail
          refine (image_rep (HY8.out.rep 0 _ rfl) hN).mono ?_
          rintro e w9 ⟨a9, c9, rfl, ho9, hb9⟩
          have HY9 := hide (HY8.out.push hb9 ho9)
          clear ho9 hb9 HY8
          have hsz := hide (size_rep (HY9.out.rep 0 _ rfl))
          go_wp2_with fail
          refine hsz.out.mono ?_
          rintro e w9 ⟨rfl, rfl⟩
          have hrd := hide (read_ok (HY9.out.rep 0 _ rfl) HRun1.out.dead hN 0 (st.now.length : Int) 0 st.now.length rfl rfl (by simp))
          go_wp2_with fail
          refine hrd.out.mono ?_
          rintro e w10 ⟨a10, c10, rfl, ho10, hb10⟩
          rw [List.drop_zero, List.take_length] at ho10
          have HYA := hide (HY9.out.push hb10 ho10)
          clear ho10 hb10 HY9 hsz hrd
          go_wp2_with fail
          refine (same_any _ _ st.now st.now _ (HYA.out.ob 4 _ rfl).sb (HYA.out.ob 3 _ rfl).sb).mono ?_
          rintro e w11 ⟨rfl, n11, hw11⟩
          rw [eqB_self]
          have HYB := hide (HYA.out.below (show Below w10.heap.size w10 w11 by rw [hw11]; exact below_drewN (Below.refl _ _) _))
          clear hw11 HYA
          go_wp2_with fail
          refine (same_any _ _ st.now st.now _ (HYB.out.ob 5 _ rfl).sb (HYB.out.ob 3 _ rfl).sb).mono ?_
          rintro e w12 ⟨rfl, n12, hw12⟩
          rw [eqB_self]
          have HYC := hide (HYB.out.below (show Below w11.heap.size w11 w12 by rw [hw12]; exact below_drewN (Below.refl _ _) _))
          clear hw12 HYB
          go_wp2_with fail
          refine (mark_any _ st.now 3 w.heap.size _ (HYC.out.ob 2 _ rfl) hN).mono ?_
          rintro e w13 ⟨rfl, ho13, hg13, -⟩
          have HYD := hide (HYC.out.mark 2 rfl ho13 hg13)
          clear ho13 hg13 HYC
          go_wp2_with fail
          refine (mark_any _ st.now 4 w.heap.size _ (HYD.out.ob 4 _ rfl) hN).mono ?_
          rintro e w14 ⟨rfl, ho14, hg14, -⟩
          have HYE := hide (HYD.out.mark 4 rfl ho14 hg14)
          clear ho14 hg14 HYD
          go_wp2_with fail
          refine (mark_any _ st.now 5 w.heap.size _ (HYE.out.ob 5 _ rfl) hN).mono ?_
          rintro e w15 ⟨rfl, ho15, hg15, -⟩
          have HYF := hide (HYE.out.mark 5 rfl ho15 hg15)
          clear ho15 hg15 HYE
          have hsz := HRun1.out.inv.s.sizes
          have hcl := HRun1.out.inv.s.calls
          have hcap := HRun1.out.inv.p.cap
          have HI := hide HRun1.out.inv
          have HCAP := hide HRun1.out.cap
          go_wp2_with fail
          refine (crash_any 1152921504606846976 1152921504606846976 (HYF.out.rep 0 _ rfl) HI.out.p (by exact Nat.le_trans hsz (by omega)) (siNil _) (roleNil _ _)).mono ?_
          rintro e w16 ⟨gx, KX, rfl, hR16, hN16, hU16, hF16⟩
          have hN16 : Rep w16 KX gx (stNew st.now cn) := by
            rw [← HCAP.out, ← out_all HI.out 1152921504606846976 1152921504606846976 (by omega) (by omega)]
            exact hN16
          have HYG := hide (HYF.out.crash 0 rfl hR16 hN16 hU16 hF16)
          clear hR16 hN16 hU16 hF16 HYF
          go_wp2_with fail
          refine (crash_any 1152921504606846976 1152921504606846976 (HYG.out.rep 0 _ rfl) ?pi (by exact Nat.le_trans hsz (by omega)) (siNil _) (roleNil _ _)).mono ?_
          case pi => exact ⟨HI.out.p.cap, HI.out.p.now, HI.out.p.dur, HI.out.p.sizes, HI.out.p.bd⟩
          rintro e w17 ⟨gy, KY, rfl, hR17, hN17, hU17, hF17⟩
          have hN17 : Rep w17 KY gy (stNew st.now cn) := by
            rw [← HCAP.out, ← out_all HI.out 1152921504606846976 1152921504606846976 (by omega) (by omega), ← outcomeL_dead]
            exact hN17
          have HYH := hide (HYG.out.crash 0 rfl hR17 hN17 hU17 hF17)
          clear hR17 hN17 hU17 hF17 HYG
          go_wp2_with fail
          refine (mark_any _ (List.replicate data.length 2) 6 w.heap.size _ (HYH.out.ob 1 _ rfl) (by rw [List.length_replicate]; omega)).mono ?_
          rintro e w18 ⟨rfl, ho18, hg18, -⟩
          rw [List.length_replicate] at ho18
          have HYI := hide (HYH.out.mark 1 rfl ho18 hg18)
          clear ho18 hg18 HYH
          have HRX := hide (Run.new st.now cn (by omega) (by have := HI.out.p.now; have := HCAP.out; omega))
          go_wp2_with fail
          refine (write_data (HYI.out.rep 1 _ rfl) HRX.out (by omega) HDAT.out HYI.out.bel (HYI.out.up 1 _ rfl) (by omega)).mono ?_
          rintro e w19 ⟨rfl, KX2, hR19, hF19⟩
          have HYJ := hide (HYI.out.op 1 rfl hR19 hF19)
          clear hR19 hF19 HYI
          go_wp2_with fail
          refine (marked_any _ l.length 1 _ (HYJ.out.ob 0 _ rfl).sb (by omega)).mono ?_
          rintro e w19 ⟨rfl, rfl⟩
          go_wp2_with fail
          refine (marked_any _ data.length 6 _ (HYJ.out.ob 1 _ rfl).sb (by omega)).mono ?_
          rintro e w19 ⟨rfl, rfl⟩
          go_wp2_with fail
          refine (marked_any _ st.now.length 3 _ (HYJ.out.ob 2 _ rfl).sb hN).mono ?_
          rintro e w19 ⟨rfl, rfl⟩
          go_wp2_with fail
          refine (marked_any _ st.now.length 4 _ (HYJ.out.ob 4 _ rfl).sb hN).mono ?_
          rintro e w19 ⟨rfl, rfl⟩
          go_wp2_with fail
          refine (marked_any _ st.now.length 5 _ (HYJ.out.ob 5 _ rfl).sb hN).mono ?_
          rintro e w19 ⟨rfl, rfl⟩
          obtain ⟨q, hq⟩ : ∃ q, q = st.now.length / 2 := ⟨_, rfl⟩
          obtain ⟨r, hr⟩ : ∃ r, r = st.now.length - q := ⟨_, rfl⟩
          have hqi : (st.now.length : Int) / 2 = (q : Int) := by omega
          have hri : (st.now.length : Int) - (q : Int) = (r : Int) := by omega
          have hqr : q + r ≤ st.now.length := by omega
          have hql : q ≤ st.now.length := by omega
          have hqq : ((q : Int) != (q : Int)) = false := by simp
          have hrr : ((r : Int) != (r : Int)) = false := by simp
          clear hq hr
          go_wp2_with fail
          refine (read_ok (HYJ.out.rep 2 _ rfl) rfl hN 0 (q : Int) 0 q rfl rfl (by rw [Nat.zero_add]; exact hql)).mono ?_
          rintro e w20 ⟨a20, c20, rfl, ho20, hb20⟩
          have HYK := hide (HYJ.out.push hb20 ho20)
          clear ho20 hb20 HYJ
          go_wp2_with fail
          refine (read_ok (HYK.out.rep 2 _ rfl) rfl hN (q : Int) (r : Int) q r rfl rfl hqr).mono ?_
          rintro e w21 ⟨a21, c21, rfl, ho21, hb21⟩
          have HYL := hide (HYK.out.push hb21 ho21)
          clear ho21 hb21 HYK
          go_wp2_with fail
          refine (image_rep (HYL.out.rep 0 _ rfl) hN).mono ?_
          rintro e w22 ⟨a22, c22, rfl, ho22, hb22⟩
          have HYM := hide (HYL.out.push hb22 ho22)
          clear ho22 hb22 HYL
          go_wp2_with fail
          refine (image_rep (HYM.out.rep 2 _ rfl) hN).mono ?_
          rintro e w23 ⟨a23, c23, rfl, ho23, hb23⟩
          have HYN := hide (HYM.out.push hb23 ho23)
          clear ho23 hb23 HYM
          have hyo := HYN.out
          simp only [List.cons_append, List.nil_append, List.set_cons_zero, List.set_cons_succ] at hyo
          have HOW := hide (apart_own hyo (by simp only [List.length_replicate]; exact hN) (by simp only [List.length_replicate]; exact hN) (by simp only [List.length_replicate]; exact hN) (by simp only [List.length_take]; omega) (by simp only [List.length_take]; omega) hN hN)
          dsimp only at HOW
          clear HYN hyo
          go_wp2_with fail
          refine HOW.out.mono ?_
          rintro e w24 ⟨rfl, hy24⟩
          have HYP := hide hy24
          clear hy24 HOW
          go_wp2_with fail
          refine (image_rep (HYP.out.rep 0 _ rfl) hN).mono ?_
          rintro e w25 ⟨a25, c25, rfl, ho25, hb25⟩
          have HO25 := hide ho25
          have HYQ := hide (HYP.out.below hb25)
          clear ho25 hb25 HYP
          go_wp2_with fail
          refine (same_any _ _ st.now st.now _ HO25.out.sb (HYQ.out.ob 0 _ rfl).sb).mono ?_
          rintro e w26 ⟨rfl, n26, hw26⟩
          rw [eqB_self]
          have HYR := hide (HYQ.out.below (show Below w25.heap.size w25 w26 by rw [hw26]; exact below_drewN (Below.refl _ _) _))
          clear hw26 HYQ HO25
          go_wp2_with fail
          refine (image_rep (HYR.out.rep 2 _ rfl) hN).mono ?_
          rintro e w27 ⟨a27, c27, rfl, ho27, hb27⟩
          have HO27 := hide ho27
          have HYS := hide (HYR.out.below hb27)
          clear ho27 hb27 HYR
          go_wp2_with fail
          refine (same_any _ _ st.now st.now _ HO27.out.sb (HYS.out.ob 0 _ rfl).sb).mono ?_
          rintro e w28 ⟨rfl, n28, rfl⟩
          rw [eqB_self]
          go_wp2
          go_ret
          exact ⟨rfl, below_drewN HYS.out.bel _⟩
end Go.Proofs.Yteiajeeincapoab
