import Derived.Test.YtiabhmdefaabgaaDoorGRlr
namespace Go.Proofs.YtiabhmdefaabgaaDoor
open Go.RowKit Go.Maps
set_option maxRecDepth 20000
set_option linter.unusedVariables false

set_option maxHeartbeats 1000000 in
theorem headerRunsGoBack_walk (v : Value) (l : List Int) (w : World) (h : SI w v l) (T : Tab w) (hn : l.length ≤ 1048576) :
    Calls Tryd.prog 4 #[v] w fun e w' => e = .returned (.bool true) ∧ Below w.heap.size w w' := by
  have HS := hide h
  have HT := hide T
  obtain ⟨ao, cap, rfl, hlc, hcm⟩ := h.open
  clear h T
  go_enter Tryd.func4, Tryd.ntmps4
  go_wp2_with fail
  refine (ints_any _ l w HS.out (by omega)).mono ?_
  rintro e w1 ⟨v1, rfl, hv1, o1, b1⟩
  subst hv1
  have HO1 := hide o1
  have HB1 := hide b1
  clear o1 b1
  go_wp2_with fail
  refine (runs_any _ l w1 HO1.out.sb (HT.out.mono HB1.out) hn).mono ?_
  rintro e w2 ⟨u2, rfl, o2, b2⟩
  have HB2 := hide (HB1.out.trans (b2.mono HB1.out.size))
  have HO2 := hide o2
  obtain ⟨a2, c2, hu2, hr1, hr2⟩ := o2.shape
  subst hu2
  clear o2 b2 HO1
  go_wp2_with fail
  refine (within_any _ l w2 (HS.out.below HB2.out)).mono ?_
  rintro e w3 ⟨rfl, hw3⟩
  subst hw3
  by_cases hw : wth l = true
  · have HE : Hid (rnE l = 0 ∧ rnL l = rns l) := ⟨by unfold rnE; rw [if_pos hw], by unfold rnL; rw [if_pos hw]⟩
    have HOK := hide (rns_ok (wth_iff.1 hw))
    have HXP := hide (xp_rns (wth_iff.1 hw))
    have hlen := rns_len l
    rw [HE.out.2] at HO2 hr1 ⊢
    rw [hw, HE.out.1]
    obtain ⟨R, HR⟩ : ∃ R, Hid (R = rns l) := ⟨_, rfl⟩
    rw [← HR.out] at HO2 hr1 HOK HXP hlen ⊢
    have hlen' : ¬ (l.length : Int) < (R.length : Int) := by omega
    have hlen2 : decide (l.length < R.length) = false := decide_eq_false (by omega)
    have hlen3 : decide ((l.length : Int) < (R.length : Int)) = false := decide_eq_false hlen'
    clear HR hw HE
    go_wp2
    go_loopw [5] (fun i wr => ∃ k : Nat, k ≤ R.length ∧ i = .int .i64 k ∧ wr = w3) (fun i _ => R.length - (intOf i).toNat)
    case atStart => exact ⟨0, Nat.zero_le _, rfl, rfl⟩
    case round =>
      obtain ⟨k, hk, rfl, hw⟩ := hrel
      subst hw
      by_cases hlt : k < R.length
      · have hlt' : (k : Int) < (R.length : Int) := by omega
        obtain ⟨b, o, rfl, d1, d2⟩ := HO2.out.sr.get (Below.refl _ _) hlt
        have ok : Okr (R.getD k rn0) := HOK.out _ (by rw [show R.getD k rn0 = R[k] by simp [hlt]]; exact List.getElem_mem hlt)
        obtain ⟨s, c, e, hs, hc1, hc2, hc3, hc4⟩ := okr_parts ok
        rw [e] at d1 d2
        simp only at d1 d2
        have HFU := hide (lfurther_any s wr hs)
        obtain ⟨L, hL⟩ : ∃ L, L = lst s := ⟨_, rfl⟩
        obtain ⟨M, hM⟩ : ∃ M, M = mst s := ⟨_, rfl⟩
        rw [← hL] at HFU hc1
        rw [← hM] at HFU hc2
        have g1 : ¬ (s : Int) < 0 := by omega
        have g2 : ¬ (18 : Int) < (s : Int) := by omega
        have g3 : ¬ (c : Int) < L := by omega
        have g4 : ¬ M < (c : Int) := by omega
        clear hL hM ok e
        go_wp2_with fail
        refine HFU.out.mono ?_
        rintro e w4 ⟨rfl, hw4⟩
        subst hw4
        go_wp2
        go_roundw
        case rel => exact ⟨k + 1, by omega, by go_num, trivial⟩
        case measure => simp [intOf]; omega
      · obtain rfl : k = R.length := by omega
        have hlt' : ¬ (R.length : Int) < (R.length : Int) := by omega
        have HEX := hide (expand_any _ R wr HO2.out.sr (HT.out.mono HB2.out) (by omega))
        have HXL : Hid (xpL R = l) := by show _ = _; unfold xpL; rw [HXP.out.1]; exact HXP.out.2
        rw [HXP.out.1, HXL.out] at HEX
        go_wp2_with fail
        refine HEX.out.mono ?_
        rintro e w5 ⟨u5, rfl, o5, b5⟩
        have HB5 := hide (HB2.out.trans (b5.mono HB2.out.size))
        have HQ5 := hide (isame_any _ _ l l w5 o5.sb (HS.out.below HB5.out))
        rw [eqI_self] at HQ5
        obtain ⟨a5, c5, hu5⟩ := o5.shape
        subst hu5
        clear o5 b5
        go_wp2_with fail
        refine HQ5.out.mono ?_
        rintro e w6 ⟨rfl, n6, hw6⟩
        have HB6 : Hid (Below w.heap.size w w6) := by rw [hw6]; exact hide (below_drewN HB5.out n6)
        clear hw6
        go_wp2
        go_ret
        exact ⟨rfl, HB6.out⟩
  · have HE : Hid (rnE l = 1 ∧ rnL l = []) := ⟨by unfold rnE; rw [if_neg hw], by unfold rnL; rw [if_neg hw]⟩
    have hw' : wth l = false := by simpa using hw
    rw [hw', HE.out.1, HE.out.2]
    go_wp2_with fail
    refine (lnum_any w3 1).mono ?_
    rintro e w4 ⟨rfl, hw4⟩
    subst hw4
    go_wp2
    go_ret
    exact ⟨rfl, HB2.out⟩
end Go.Proofs.YtiabhmdefaabgaaDoor

