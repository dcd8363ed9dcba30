import Derived.Test.YtgengoffkoonfabGOdr
namespace Go.Proofs.Ytgengoffkoonfab
open Go.RowKit Go.Maps
set_option maxRecDepth 20000
set_option linter.unusedVariables false

theorem gd_kr {f n : List Int} {lim : Int} (hs : Sound f) (h : Gd f n lim) : kr (nn n) (us f) ≤ 2 ^ 60 := by
  by_cases h2 : 2 ≤ (us f).length
  · exact Nat.le_of_eq (h.all h2)
  · cases hu : us f with
    | nil => simp [kr]
    | cons a r =>
      have hr : r = [] := by
        rw [hu] at h2
        cases r with
        | nil => rfl
        | cons b r' => exact absurd (by simp) h2
      subst hr
      simp only [kr, List.map_cons, List.map_nil, List.sum_cons, List.sum_nil, Nat.add_zero]
      exact Nat.pow_le_pow_right (by decide) (by omega)

/-- The program's own Cost of a good list. -/
theorem cost_gd {f n : List Int} {lim : Int} (hs : Sound f) (h : Gd f n lim) (vf vn : Value) (w : World) (hf : SI w vf f) (hn : SI w vn n) :
    Calls Try.prog 16 #[vf, vn] w fun e w' => e = .returned (.tuple #[.int .i64 ((fl (fq f) (nn n) (us f) : Nat) : Int), .int .i64 0]) ∧ ∃ q, w' = w.drewN q := by
  have := cost_any vf vn f n w hf hn
  have e1 : cstE f n = 0 := by
    unfold cstE
    rw [if_neg, if_neg (by rw [bnb_iff.2 hs.ok]; decide)]
    rintro (q | q | q)
    · have := hs.len; omega
    · exact q h.len
    · have hb : bnb n 288 = true := bnb_iff.2 fun i hi => by have := h.at hs i; omega
      rw [hb] at q
      cases q
  have e2 : cstV f n = ((fl (fq f) (nn n) (us f) : Nat) : Int) := by
    unfold cstV
    rw [if_pos e1, cs_fl hs f.length (fun s hm => by have := h.ok s hm; omega)]
    rfl
  rw [e1, e2] at this
  exact this

def mxd (f : List Int) : Nat → Nat
  | 0 => 0
  | k + 1 => max (mxd f k) (dp f k)

theorem mxd_le {f : List Int} {k m : Nat} (h : mxd f k ≤ m) : ∀ s, s < k → dp f s ≤ m := by
  induction k with
  | zero => intro s hs; omega
  | succ k ih =>
    simp only [mxd] at h
    intro s hs
    by_cases e : s = k
    · subst e; omega
    · exact ih (by omega) s (by omega)

set_option maxHeartbeats 4000000 in
theorem limits_walk (vf : Value) (f : List Int) (lim : Int) (w : World) (hf : SI w vf f) (rf : f.length ≤ 17592186043904) (hlim : -9223372036854775808 ≤ lim ∧ lim ≤ 9223372036854775807) :
    Calls Try.prog 6 #[vf, .int .i64 lim] w fun e w' => e = .returned (.bool true) ∧ Below w.heap.size w w' := by
  have HF := hide hf
  obtain ⟨af, cf, rfl, hlf, hmf⟩ := hf.open
  have HSC := hide (sound_any _ f w HF.out)
  clear hf
  cases hb : (decide (f.length ≤ 288) && bnb f 4294967296) with
  | false =>
    rw [hb] at HSC
    clear hb
    go_enter Try.func6, Try.ntmps6
    go_wp2_with fail
    refine HSC.out.mono ?_
    rintro e w' ⟨rfl, hw'⟩
    rw [hw']
    clear hw'
    go_wp2
    go_ret
    exact ⟨rfl, Below.refl _ _⟩
  | true =>
    rw [hb] at HSC
    have HS := hide (Sound.ofB hb)
    have h288 := HS.out.len
    clear hb
    by_cases hl1 : lim < 1
    · go_enter Try.func6, Try.ntmps6
      go_wp2_with fail
      refine HSC.out.mono ?_
      rintro e w' ⟨rfl, hw'⟩
      rw [hw']
      clear hw'
      go_wp2
      go_ret
      exact ⟨rfl, Below.refl _ _⟩
    by_cases hl2 : 15 < lim
    · go_enter Try.func6, Try.ntmps6
      go_wp2_with fail
      refine HSC.out.mono ?_
      rintro e w' ⟨rfl, hw'⟩
      rw [hw']
      clear hw'
      go_wp2
      go_ret
      exact ⟨rfl, Below.refl _ _⟩
    obtain ⟨L, rfl⟩ : ∃ L : Nat, lim = L := ⟨lim.toNat, by omega⟩
    have hL : 1 ≤ L ∧ L ≤ 15 := by omega
    have hul := us_le (l := f)
    obtain ⟨p, hp⟩ : ∃ p, p = 2 ^ L := ⟨_, rfl⟩
    obtain ⟨p1, p2, p3, p4⟩ := pow15 hL.2 hp
    have HUC := hide (uses_any _ f w HF.out HS.out.len)
    have HPP := hide hp
    clear hp
    by_cases h60 : p < (us f).length
    · obtain ⟨u, HU⟩ : ∃ u, Hid (u = (us f).length) := ⟨_, rfl⟩
      rw [← HU.out] at h60 hul HUC
      have h60' : (p : Int) < (u : Int) := by omega
      go_enter Try.func6, Try.ntmps6
      go_wp2_with fail
      refine HSC.out.mono ?_
      rintro e w' ⟨rfl, hw'⟩
      rw [hw']
      clear hw'
      go_wp2_with fail
      refine HUC.out.mono ?_
      rintro e w' ⟨rfl, hw'⟩
      rw [hw']
      clear hw'
      go_wp2
      go_ret
      exact ⟨rfl, Below.refl _ _⟩
    have HU2 : Hid ((us f).length ≤ 2 ^ L) := by rw [← HPP.out]; exact Nat.le_of_not_lt h60
    obtain ⟨u, HU⟩ : ∃ u, Hid (u = (us f).length) := ⟨_, rfl⟩
    rw [← HU.out] at h60 hul HUC
    have h60' : ¬ (p : Int) < (u : Int) := by omega
    have HG := hide (gd_lmt HS.out hL HU2.out)
    have HG0 := hide (gd_dpt HS.out)
    have hlim2 : ((L : Int) ≤ 9223372036854775807 ∧ -9223372036854775808 ≤ (L : Int)) := by omega
    have HCD := hide (cost_gd HS.out HG0.out)
    have HCL := hide (cost_gd HS.out HG.out)
    have hba := dp_best HS.out HG.out.ok (gd_kr HS.out HG.out)
    have HEQ : Hid ((∀ s, s < f.length → dp f s ≤ L) → fl (fq f) (nn (lmt f L)) (us f) ≤ fl (fq f) (nn (dpt f)) (us f)) := fun hd => lm_best HS.out hL HU2.out (fun s hs => by
      have h1 := HG0.out.ok s hs
      have hsl := (mem_us.1 hs).1
      rw [dpt_get hsl] at h1 ⊢
      have := hd s hsl
      omega) (gd_kr HS.out HG0.out)
    have HNX : Hid (L < 15 → Gd f (lmt f (L + 1)) ((L + 1 : Nat) : Int) ∧ (us f).length ≤ 2 ^ (L + 1) ∧ fl (fq f) (nn (lmt f (L + 1))) (us f) ≤ fl (fq f) (nn (lmt f L)) (us f)) := fun hl => by
      have hu1 : (us f).length ≤ 2 ^ (L + 1) := Nat.le_trans HU2.out (Nat.pow_le_pow_right (by decide) (by omega))
      refine ⟨gd_lmt HS.out (by omega) hu1, hu1, lm_best HS.out (by omega) hu1 (fun s hs => by have := HG.out.ok s hs; omega) (gd_kr HS.out HG.out)⟩
    obtain ⟨ca, hca⟩ : ∃ x, x = fl (fq f) (nn (dpt f)) (us f) := ⟨_, rfl⟩
    obtain ⟨cb, hcb⟩ : ∃ x, x = fl (fq f) (nn (lmt f L)) (us f) := ⟨_, rfl⟩
    rw [← hca] at HCD hba HEQ
    rw [← hcb] at HCL hba HEQ HNX
    have HCA := hide hca
    have HCB := hide hcb
    clear hca hcb
    go_enter Try.func6, Try.ntmps6
    go_wp2_with fail
    refine HSC.out.mono ?_
    rintro e w' ⟨rfl, hw'⟩
    rw [hw']
    clear hw'
    go_wp2_with fail
    refine HUC.out.mono ?_
    rintro e w' ⟨rfl, hw'⟩
    rw [hw']
    clear hw'
    go_wp2_with fail
    refine (copied_any _ f _ HF.out rf).mono ?_
    rintro e w2 ⟨a2, c2, rfl, ho2, hb2⟩
    have HO2 := hide ho2
    have HB2 := hide hb2
    clear ho2 hb2
    go_wp2_with fail
    refine (depths_ok HS.out _ _ HO2.out.sb).mono ?_
    rintro e w3 ⟨a3, c3, rfl, ho3, hb3⟩
    have HO3 := hide ho3
    have HB3 := hide (HB2.out.trans (hb3.mono HB2.out.size))
    have HF3 := hide (HF.out.below HB3.out)
    clear ho3 hb3
    go_wp2_with fail
    refine (copied_any _ f _ HF3.out rf).mono ?_
    rintro e w4 ⟨a4, c4, rfl, ho4, hb4⟩
    have HO4 := hide ho4
    have HB4 := hide (HB3.out.trans (hb4.mono HB3.out.size))
    have HO34 := hide (HO3.out.below hb4 (Nat.le_refl _))
    clear ho4 hb4
    go_wp2_with fail
    refine (limited_ok HS.out hL HU2.out _ _ HO4.out.sb HO4.out.blk).mono ?_
    rintro e w5 ⟨a5, c5, rfl, ho5, hb5⟩
    have HO5 := hide ho5
    have HB5 := hide (HB4.out.trans (hb5.mono HB4.out.size))
    have HO35 := hide (HO34.out.below hb5 (Nat.le_refl _))
    have HF5 := hide (HF.out.below HB5.out)
    clear ho5 hb5
    go_wp2_with fail
    refine (good_gd _ _ f (dpt f) 60 _ HF5.out HO35.out.sb HS.out HG0.out (by omega)).mono ?_
    rintro e w6 ⟨rfl, hw6⟩
    rw [hw6]
    clear hw6
    go_wp2_with fail
    refine (good_gd _ _ f (lmt f L) L _ HF5.out HO5.out.sb HS.out HG.out hlim2).mono ?_
    rintro e w6 ⟨rfl, hw6⟩
    rw [hw6]
    clear hw6
    have HSF : Hid (∀ W, Below w5.heap.size w5 W → SI W (.slice af f.length cf) f) := fun W hW => HF5.out.below hW
    have HSD : Hid (∀ W, Below w5.heap.size w5 W → SI W (.slice a3 f.length c3) (dpt f)) := fun W hW => HO35.out.sb.below hW
    have HSL : Hid (∀ W, Below w5.heap.size w5 W → SI W (.slice a5 f.length c5) (lmt f L)) := fun W hW => HO5.out.sb.below hW
    go_wp2_with fail
    refine (copied_any _ f _ HF5.out rf).mono ?_
    rintro e w7 ⟨a7, c7, rfl, ho7, hb7⟩
    have HO7 := hide ho7
    have HB7 := hide hb7
    clear ho7 hb7
    go_wp2_with fail
    refine (HCD.out _ _ _ HO7.out.sb (HSD.out _ HB7.out)).mono ?_
    rintro e w8 ⟨rfl, q8, hw8⟩
    have HB8 : Hid (Below w5.heap.size w5 w8) := by rw [hw8]; exact below_drewN HB7.out q8
    clear hw8
    go_wp2_with fail
    refine (copied_any _ f _ (HSF.out _ HB8.out) rf).mono ?_
    rintro e w9 ⟨a9, c9, rfl, ho9, hb9⟩
    have HO9 := hide ho9
    have HB9 := hide (HB8.out.trans (hb9.mono HB8.out.size))
    clear ho9 hb9
    go_wp2_with fail
    refine (HCL.out _ _ _ HO9.out.sb (HSL.out _ HB9.out)).mono ?_
    rintro e w10 ⟨rfl, q10, hw10⟩
    have HB10 : Hid (Below w5.heap.size w5 w10) := by rw [hw10]; exact below_drewN HB9.out q10
    clear hw10
    have HLA := hide (lcost_ok _ _ f (dpt f) 60 w10 (HSF.out _ HB10.out) (HSD.out _ HB10.out) HS.out HG0.out.len HG0.out.ok)
    rw [← HCA.out] at HLA
    go_wp2_with fail
    refine HLA.out.mono ?_
    rintro e w11 ⟨rfl, q11, hw11⟩
    have HB11 : Hid (Below w5.heap.size w5 w11) := by rw [hw11]; exact below_drewN HB10.out q11
    clear hw11
    have HLB := hide (lcost_ok _ _ f (lmt f L) L w11 (HSF.out _ HB11.out) (HSL.out _ HB11.out) HS.out HG.out.len HG.out.ok)
    rw [← HCB.out] at HLB
    go_wp2_with fail
    refine HLB.out.mono ?_
    rintro e w12 ⟨rfl, q12, hw12⟩
    have HB12 : Hid (Below w5.heap.size w5 w12) := by rw [hw12]; exact below_drewN HB11.out q12
    clear hw12
    have hnba : ¬ (cb : Int) < (ca : Int) := by omega
    have HSD12 : Hid (SI w12 (.slice a3 (dpt f).length c3) (dpt f)) := by rw [dpt_len]; exact HSD.out _ HB12.out
    go_wp2
    go_loopw [13, 14] (fun vd vs wr => ∃ s : Nat, s ≤ f.length ∧ vs = .int .i64 s ∧ vd = .int .i64 (mxd f s) ∧ wr = w12) (fun _ vs _ => f.length - (intOf vs).toNat)
    case atStart => exact ⟨0, Nat.zero_le _, rfl, rfl, rfl⟩
    case round =>
      obtain ⟨s, hs, rfl, rfl, hwr⟩ := hrel
      rw [hwr]
      clear hwr
      by_cases hsl : s < f.length
      · have hsl' : (s : Int) < (f.length : Int) := by omega
        obtain ⟨b1, o1, rfl, x1⟩ := HSD12.out.get (Below.refl _ _) (k := s) (by rw [dpt_len]; exact hsl)
        rw [dpt_get hsl] at x1
        have HMX : Hid (mxd f (s + 1) = max (mxd f s) (dp f s)) := rfl
        obtain ⟨m0, hm0⟩ : ∃ m0, m0 = mxd f s := ⟨_, rfl⟩
        obtain ⟨d0, hd0⟩ : ∃ m0, m0 = dp f s := ⟨_, rfl⟩
        rw [← hm0, ← hd0] at HMX
        rw [← hm0]
        rw [← hd0] at x1
        clear hm0 hd0
        go_wp2
        go_roundw
        case rel => exact ⟨s + 1, by omega, by go_num, by rw [HMX.out]; go_num, by trivial⟩
        case measure => simp [intOf]; omega
      · obtain rfl : s = f.length := by omega
        have hsl' : ¬ (f.length : Int) < (f.length : Int) := by omega
        have HDE : Hid (mxd f f.length ≤ L → ca = cb) := fun hd => by
          have := HEQ.out (mxd_le hd)
          omega
        obtain ⟨md, hmd⟩ : ∃ md, md = mxd f f.length := ⟨_, rfl⟩
        rw [← hmd] at HDE ⊢
        clear hmd
        have HBW : Hid (Below w.heap.size w w12) := HB5.out.trans (HB12.out.mono HB5.out.size)
        have hcab : md ≤ L → (ca : Int) = (cb : Int) := fun q => by have := HDE.out q; omega
        by_cases h15 : L = 15
        · have h15' : ((L : Int) == 15) = true := by simp; omega
          by_cases hdl : md ≤ L
          · have hdl' : (md : Int) ≤ (L : Int) := by omega
            have hab : ((ca : Int) != (cb : Int)) = false := by simp; have := hcab hdl; omega
            clear hcab h15
            go_wp2
            go_ret
            exact ⟨rfl, HBW.out⟩
          · have hdl' : ¬ (md : Int) ≤ (L : Int) := by omega
            clear hcab h15
            go_wp2
            go_ret
            exact ⟨rfl, HBW.out⟩
        · have h15' : ((L : Int) == 15) = false := by simp; omega
          obtain ⟨g1, g2, g3⟩ := HNX.out (by omega)
          have HG1 := hide g1
          have HGU := hide g2
          obtain ⟨L1, hL1⟩ : ∃ L1, L1 = L + 1 := ⟨_, rfl⟩
          rw [← hL1] at HG1 HGU g3
          have e1 : (L : Int) + 1 = (L1 : Int) := by omega
          have hL12 : 1 ≤ L1 ∧ L1 ≤ 15 := by omega
          have hlim3 : ((L1 : Int) ≤ 9223372036854775807 ∧ -9223372036854775808 ≤ (L1 : Int)) := by omega
          obtain ⟨cm, hcm2⟩ : ∃ x, x = fl (fq f) (nn (lmt f L1)) (us f) := ⟨_, rfl⟩
          rw [← hcm2] at g3
          have HCM := hide hcm2
          have g3' : (cm : Int) ≤ (cb : Int) := by omega
          clear g1 g2 hL1 hcm2 h15
          by_cases hdl : md ≤ L
          · have hdl' : (md : Int) ≤ (L : Int) := by omega
            have hab : ((ca : Int) != (cb : Int)) = false := by simp; have := hcab hdl; omega
            clear hcab
            go_wp2_with fail
            refine (copied_any _ f _ (HSF.out _ HB12.out) rf).mono ?_
            rintro e w13 ⟨a13, c13, rfl, ho13, hb13⟩
            have HO13 := hide ho13
            have HB13 := hide (HB12.out.trans (hb13.mono HB12.out.size))
            clear ho13 hb13
            go_wp2_with fail
            refine (limited_ok HS.out hL12 HGU.out _ _ HO13.out.sb HO13.out.blk).mono ?_
            rintro e w14 ⟨a14, c14, rfl, ho14, hb14⟩
            have HO14 := hide ho14
            have HB14 := hide (HB13.out.trans (hb14.mono HB13.out.size))
            clear ho14 hb14
            go_wp2_with fail
            refine (good_gd _ _ f (lmt f L1) L1 _ (HSF.out _ HB14.out) HO14.out.sb HS.out HG1.out hlim3).mono ?_
            rintro e w15 ⟨rfl, hw15⟩
            rw [hw15]
            clear hw15
            have HLM := hide (lcost_ok _ _ f (lmt f L1) L1 w14 (HSF.out _ HB14.out) HO14.out.sb HS.out HG1.out.len HG1.out.ok)
            rw [← HCM.out] at HLM
            go_wp2_with fail
            refine HLM.out.mono ?_
            rintro e w16 ⟨rfl, q16, hw16⟩
            have HBF : Hid (Below w.heap.size w w16) := by rw [hw16]; exact below_drewN (HB5.out.trans (HB14.out.mono HB5.out.size)) q16
            clear hw16
            go_wp2
            go_ret
            exact ⟨rfl, HBF.out⟩
          · have hdl' : ¬ (md : Int) ≤ (L : Int) := by omega
            clear hcab
            go_wp2_with fail
            refine (copied_any _ f _ (HSF.out _ HB12.out) rf).mono ?_
            rintro e w13 ⟨a13, c13, rfl, ho13, hb13⟩
            have HO13 := hide ho13
            have HB13 := hide (HB12.out.trans (hb13.mono HB12.out.size))
            clear ho13 hb13
            go_wp2_with fail
            refine (limited_ok HS.out hL12 HGU.out _ _ HO13.out.sb HO13.out.blk).mono ?_
            rintro e w14 ⟨a14, c14, rfl, ho14, hb14⟩
            have HO14 := hide ho14
            have HB14 := hide (HB13.out.trans (hb14.mono HB13.out.size))
            clear ho14 hb14
            go_wp2_with fail
            refine (good_gd _ _ f (lmt f L1) L1 _ (HSF.out _ HB14.out) HO14.out.sb HS.out HG1.out hlim3).mono ?_
            rintro e w15 ⟨rfl, hw15⟩
            rw [hw15]
            clear hw15
            have HLM := hide (lcost_ok _ _ f (lmt f L1) L1 w14 (HSF.out _ HB14.out) HO14.out.sb HS.out HG1.out.len HG1.out.ok)
            rw [← HCM.out] at HLM
            go_wp2_with fail
            refine HLM.out.mono ?_
            rintro e w16 ⟨rfl, q16, hw16⟩
            have HBF : Hid (Below w.heap.size w w16) := by rw [hw16]; exact below_drewN (HB5.out.trans (HB14.out.mono HB5.out.size)) q16
            clear hw16
            go_wp2
            go_ret
            exact ⟨rfl, HBF.out⟩
end Go.Proofs.Ytgengoffkoonfab

