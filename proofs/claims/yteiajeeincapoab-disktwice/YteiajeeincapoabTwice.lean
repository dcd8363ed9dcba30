import Derived.Test.YteiajeeincapoabSynced
namespace Go.Proofs.Yteiajeeincapoab
open Go.RowKit Go.Maps

theorem alive_rep {w : World} {K : Nat → Nat} {g : Nat} {st : St} (h : Rep w K g st) :
    Calls Try.prog 29 #[.pointer (some ⟨g, 0, none⟩)] w fun e w' => e = .returned (.bool (!st.dead)) ∧ w' = w := by
  obtain ⟨_, _, _, _, _, h⟩ := h
  exact alive_any h.dc

theorem size_rep {w : World} {K : Nat → Nat} {g : Nat} {st : St} (h : Rep w K g st) :
    Calls Try.prog 24 #[.pointer (some ⟨g, 0, none⟩)] w fun e w' => e = .returned (.int .i64 st.now.length) ∧ w' = w := by
  obtain ⟨_, _, _, _, _, h⟩ := h
  exact size_any h.dc h.hn.sb

theorem trunc_zero (l : List Int) (c : Nat) : truncErr (stNew l c) 0 = 0 ∧ (truncSt (stNew l c) 0).now.length = 0 := by
  have hd : (stNew l c).dead = false := rfl
  have hs : spendNo (stNew l c) = false := rfl
  have hn : (stNew l c).now.length = l.length := rfl
  constructor
  · unfold truncErr
    rw [hd, hs, if_neg (by simp), if_neg (by omega), if_neg (by omega), if_neg (by simp)]
  · unfold truncSt
    rw [hd, hs, if_neg (by simp), if_neg (by omega), if_neg (by omega), if_neg (by simp), if_neg (by omega)]
    by_cases h : (0 : Int) < (stNew l c).now.length
    · rw [if_pos h]
      simp [length_resz]
    · rw [if_neg h, (spend_same _).2.1]
      omega

theorem flip_zero {K K6 : Nat → Nat} (h : ∀ k, K6 k ≠ 0 → K k = 0) : ∀ k, K k ≠ 0 → K6 k = 0 := fun k hk => by
  by_cases e : K6 k = 0
  · exact e
  · exact absurd (h k e) hk

theorem Fr.zero {K K' K6 : Nat → Nat} {w w' : World} {g6 : Nat} {st6 : St} (hF : Fr K K' w w') (hz : ∀ k, K k ≠ 0 → K6 k = 0) (h : Rep w K6 g6 st6) : ∀ k, K' k ≠ 0 → K6 k = 0 := by
  obtain ⟨_, _, _, _, _, h⟩ := h
  intro k hk
  by_cases e : K6 k = 0
  · exact e
  · have hl := h.sup k e
    exact hz k (by rw [← hF.role k hl]; exact hk)

theorem Live.side {W w w' : World} {K K6 K6' : Nat → Nat} {g : Nat} {st : St} (h : Live W w K g st) (hz : ∀ k, K k ≠ 0 → K6 k = 0) (hu : ∀ k, K6 k ≠ 0 → W.heap.size ≤ k) (hF : Fr K6 K6' w w') : Live W w' K g st :=
  ⟨h.rep.other hz hF, h.up, h.bel.trans (hF.below hu h.bel.size)⟩

set_option maxHeartbeats 2000000 in
theorem twice_walk (v vo vsa vsb : Value) (l seca secb : List Int) (ops : List OpP) (c csa resta csb restb : Int) (w : World) (hs : SB w v l) (ho : SO w vo ops) (hB : OpsB ops) (hseca : SI w vsa seca) (hra : seca.length ≤ 17592186043904) (hsecb : SI w vsb secb) (hrb : secb.length ≤ 17592186043904) :
    Calls Try.prog 6 #[v, .int .i64 c, vo, .agg #[.int .i64 csa, vsa, .int .i64 resta], .agg #[.int .i64 csb, vsb, .int .i64 restb]] w fun e w' => e = .returned (.bool true) ∧ Below w.heap.size w w' := by
  have HS := hide hs
  have HSA := hide hseca
  have HSB := hide hsecb
  obtain ⟨ao, k, hv, hk1, hk2, _⟩ := hs
  unfold maxLen at hk2
  subst hv
  obtain ⟨asa, ksa, hv, hksa1, hksa2, _⟩ := hseca
  subst hv
  obtain ⟨asb, ksb, hv, hksb1, hksb2, _⟩ := hsecb
  subst hv
  obtain ⟨aop, kop, hv, hop1, hop2, hops⟩ := ho
  unfold maxLen at hop2
  subst hv
  have HOPS := hide hops
  have hB1 := hB.len
  have HB := hide hB
  clear hops hB
  obtain ⟨V0, hV0⟩ : ∃ V0, V0 = w.alloc (.cells #[.int .i64 csa, .slice asa seca.length ksa, .int .i64 resta] 26) := ⟨_, rfl⟩
  obtain ⟨W0, hW0⟩ : ∃ W0, W0 = V0.alloc (.cells #[.int .i64 csb, .slice asb secb.length ksb, .int .i64 restb] 26) := ⟨_, rfl⟩
  have hv0 : Below w.heap.size w V0 := by rw [hV0]; exact (Below.refl _ _).alloc (Nat.le_refl _) _
  have hsv : V0.heap.size = w.heap.size + 1 := by rw [hV0]; exact size_alloc' _ _
  have hb0 : Below w.heap.size w W0 := hv0.trans (by rw [hW0]; exact (Below.refl _ _).alloc (by omega) _)
  have hs0 : W0.heap.size = w.heap.size + 1 + 1 := by rw [hW0, size_alloc', hsv]
  have hbxb : W0.heap[w.heap.size + 1]? = some (.cells #[.int .i64 csb, .slice asb secb.length ksb, .int .i64 restb] 26 (0, 0)) := by rw [hW0, ← hsv]; exact heap_alloc_new _ _
  have hbxa : W0.heap[w.heap.size]? = some (.cells #[.int .i64 csa, .slice asa seca.length ksa, .int .i64 resta] 26 (0, 0)) := by
    rw [hW0, Below.heap_alloc _ _ _ (by omega), hV0]; exact heap_alloc_new _ _
  have HWW : Hid ((w.alloc (.cells #[.int .i64 csa, .slice asa seca.length ksa, .int .i64 resta] 26)).alloc (.cells #[.int .i64 csb, .slice asb secb.length ksb, .int .i64 restb] 26) = W0) := by show _ = _; rw [hW0, hV0]
  have HS0 := hide hs0
  have HB0 := hide hb0
  have HBA := hide hbxa
  have HBB := hide hbxb
  clear hW0 hV0 hv0 hsv hs0 hb0 hbxa hbxb
  by_cases hfit : 0 ≤ c ∧ c ≤ 16777216 ∧ (l.length : Int) ≤ c
  case neg =>
    go_enter Try.func6, Try.ntmps6
    go_wp2_with fail
    rw [HWW.out]
    refine (fits_no ao l.length k c _ hfit (by omega)).mono ?_
    rintro e W0 ⟨rfl, rfl⟩
    clear hfit
    go_wp2
    go_ret
    exact ⟨rfl, HB0.out⟩
  case pos =>
    obtain ⟨hf0, hf1, hf2⟩ := hfit
    obtain ⟨cn, rfl⟩ := Int.eq_ofNat_of_zero_le hf0
    go_enter Try.func6, Try.ntmps6
    go_wp2_with fail
    rw [HWW.out]
    refine (fits_yes ao l.length k cn _ (by omega) hf1 hf2 (by omega)).mono ?_
    rintro e W0 ⟨rfl, rfl⟩
    go_wp2_with fail
    refine (fresh_any _ l cn _ (HS.out.below HB0.out) (by omega) (by omega)).mono ?_
    rintro e w1 ⟨g, K1, rfl, hR1, hU1, hb1⟩
    have HL1 : Hid (Live W0 w1 K1 g (stNew l cn)) := ⟨hR1, hU1, hb1⟩
    have HRun0 := hide (Run.new l cn (by omega) (by omega))
    clear hR1 hU1 hb1
    go_wp2
    go_loopw [12] (fun i wr => ∃ k : Nat, i = .int .i64 k ∧ k ≤ ops.length ∧ Hid (∃ K st, Live W0 wr K g st ∧ Run st cn k)) (fun i _ => ops.length - (intOf i).toNat)
    case atStart => exact ⟨0, rfl, Nat.zero_le _, K1, _, HL1.out, HRun0.out⟩
    case round =>
      obtain ⟨k, rfl, hk, HH⟩ := hrel
      clear HL1 HRun0
      obtain ⟨K, st, hL, hRun⟩ := HH.out
      have HL := hide hL
      have HRun := hide hRun
      clear HH hL hRun
      by_cases hlt : k < ops.length
      · have hlt' : (k : Int) < (ops.length : Int) := by omega
        obtain ⟨o, hoo⟩ : ∃ o, ops[k]? = some o := ⟨ops[k], by simp [hlt]⟩
        obtain ⟨b, of, av, cv, asec, csec, hab, hat0⟩ := HOPS.out k o hoo
        have hat := hat0.below HB0.out
        have hmem := List.mem_of_getElem? hoo
        have hdl := HB.out.data o hmem
        rw [hab]
        have hat2 := hat.below HL.out.bel
        obtain ⟨q0, q1, q2, q3, q4, q5, q6, hsb, hsi⟩ := hat2
        have HAT := hide hat
        have HDB := hide hsb
        have hcv : o.data.length ≤ cv ∧ cv ≤ 9223372036854775807 := by
          obtain ⟨_, _, e, h1, h2, _⟩ := hsb
          simp only [Value.slice.injEq] at e
          unfold maxLen at h2
          omega
        obtain ⟨hcv1, hcv2⟩ := hcv
        clear hat hat0 hsb hsi hoo hab hmem
        go_wp2_with fail
        refine (change_any o HL.out.rep HRun.out.inv HDB.out hdl).mono ?_
        rintro e w3 ⟨rfl, K3, hR3, hF3⟩
        have HL3 := hide (HL.out.fr hR3 hF3)
        have HR3 := hide (HRun.out.step o (by omega))
        rw [HRun.out.err o]
        clear hR3 hF3 q0 q1 q2 q3 q4 q5 q6
        obtain ⟨q0, q1, q2, q3, q4, q5, q6, -, -⟩ := HAT.out.below HL3.out.bel
        go_wp2_with fail
        refine (refused_any o cn (by omega) hdl hcv1).mono ?_
        rintro e w4 ⟨rfl, hb4⟩
        have HL4 := hide (HL3.out.below hb4)
        have hne : (refN o cn != refN o cn) = false := by simp
        clear hb4 q0 q1 q2 q3 q4 q5 q6
        go_wp2
        go_roundw
        case rel => exact ⟨k + 1, by go_num, by omega, K3, _, HL4.out, HR3.out⟩
        case measure => simp [intOf]; omega
      · have hlt' : ¬ (k : Int) < (ops.length : Int) := by omega
        have hcap := HRun.out.inv.p.cap
        have hsz := HRun.out.inv.s.sizes
        have hcl := HRun.out.inv.s.calls
        have HPD : Hid (PInv { st with dead := true }) := ⟨HRun.out.inv.p.cap, HRun.out.inv.p.now, HRun.out.inv.p.dur, HRun.out.inv.p.sizes, HRun.out.inv.p.bd⟩
        have HZ : Hid ({ st with dead := true }.sizes.length ≤ 10000000000000) := Nat.le_trans hsz (by omega)
        have HBXA : Hid (∀ w', Below W0.heap.size W0 w' → w'.cell? ⟨w.heap.size, 0, none⟩ = some (.int .i64 csa) ∧ w'.cell? ⟨w.heap.size, 1, none⟩ = some (.slice asa seca.length ksa) ∧ w'.cell? ⟨w.heap.size, 2, none⟩ = some (.int .i64 resta)) := fun w' hb => by
          have hbx2 := (hb.block w.heap.size (by rw [HS0.out]; omega)).trans HBA.out
          simp [World.cell?, hbx2]
        have HBXB : Hid (∀ w', Below W0.heap.size W0 w' → w'.cell? ⟨w.heap.size + 1, 0, none⟩ = some (.int .i64 csb) ∧ w'.cell? ⟨w.heap.size + 1, 1, none⟩ = some (.slice asb secb.length ksb) ∧ w'.cell? ⟨w.heap.size + 1, 2, none⟩ = some (.int .i64 restb)) := fun w' hb => by
          have hbx2 := (hb.block (w.heap.size + 1) (by rw [HS0.out]; omega)).trans HBB.out
          simp [World.cell?, hbx2]
        go_wp2_with fail
        refine (image_rep HL.out.rep HRun.out.now).mono ?_
        rintro e w5 ⟨a5, c5, rfl, ho5, hb5⟩
        have HL5 := hide (HL.out.below hb5)
        have HO5 : Hid (OB w5 0 (.slice a5 st.now.length c5) st.now ∧ Role K (.slice a5 st.now.length c5) 0) := ⟨ho5.base (Nat.zero_le _), fresh_role HL.out.rep (Nat.le_refl _) ho5⟩
        clear ho5 hb5
        obtain ⟨x0, x1, x2⟩ := HBXA.out _ HL5.out.bel
        go_wp2_with fail
        refine (choice_any csa resta _ seca _ ((HSA.out.below HB0.out).below HL5.out.bel) hra).mono ?_
        rintro e w6 ⟨b6, rfl, hsi6, hbb6, hb6⟩
        have HL6 := hide (HL5.out.below hb6)
        have HO6 := hide (HO5.out.1.below hb6 (Nat.le_refl _))
        have HSI6 := hide hsi6
        have HK6 := hide (HL5.out.rep.roleNew (n := seca.length) (c := seca.length) hbb6)
        clear hsi6 hb6 x0 x1 x2 hbb6
        go_wp2_with fail
        refine (crash_any csa resta HL6.out.rep HRun.out.inv.p (by omega) HSI6.out HK6.out).mono ?_
        rintro e w7 ⟨gx, KX, rfl, hR7, hX7, hUX, hF7⟩
        have HL7 := hide (HL6.out.fr hR7 hF7)
        have HO7 := hide (HO6.out.fr HO5.out.2 hF7)
        have HX7 := hide hX7
        have HZX := hide (HL6.out.rep.zero hUX)
        have HUX : Hid (∀ k, KX k ≠ 0 → W0.heap.size ≤ k) := fun k hk => Nat.le_trans HL6.out.bel.size (hUX k hk)
        clear hR7 hX7 hUX hF7
        obtain ⟨x0, x1, x2⟩ := HBXB.out _ HL7.out.bel
        go_wp2_with fail
        refine (choice_any csb restb _ secb _ ((HSB.out.below HB0.out).below HL7.out.bel) hrb).mono ?_
        rintro e w8 ⟨b8, rfl, hsi8, hbb8, hb8⟩
        have HL8 := hide (HL7.out.below hb8)
        have HO8 := hide (HO7.out.1.below hb8 (Nat.le_refl _))
        have HX8 := hide (HX7.out.below hb8)
        have HSI8 := hide hsi8
        have HK8 := hide (HL7.out.rep.roleNew (n := secb.length) (c := secb.length) hbb8)
        clear hsi8 hb8 x0 x1 x2 hbb8
        go_wp2_with fail
        refine (crash_any csb restb HL8.out.rep HPD.out HZ.out HSI8.out HK8.out).mono ?_
        rintro e w9 ⟨gy, KY, rfl, hR9, hY9, hUY, hF9⟩
        have HL9 := hide (HL8.out.fr hR9 hF9)
        have HO9 := hide (HO8.out.fr HO7.out.2 hF9)
        have HX9 := hide (HX8.out.other HZX.out hF9)
        rw [outcomeL_dead] at hY9
        have HY9 := hide hY9
        have HUY : Hid (∀ k, KY k ≠ 0 → W0.heap.size ≤ k) := fun k hk => Nat.le_trans HL8.out.bel.size (hUY k hk)
        have HZY := hide (HL8.out.rep.zero hUY)
        have HZXY := hide (HX8.out.zero hUY)
        clear hR9 hY9 hUY hF9
        go_wp2_with fail
        refine (alive_rep HL9.out.rep).mono ?_
        rintro e w9 ⟨rfl, rfl⟩
        go_wp2_with fail
        refine (image_rep HL9.out.rep (by exact HRun.out.now)).mono ?_
        rintro e w10 ⟨a10, c10, rfl, ho10, hb10⟩
        have HL10 := hide (HL9.out.below hb10)
        have HO10 := hide (HO9.out.1.below hb10 (Nat.le_refl _))
        have HX10 := hide (HX9.out.below hb10)
        have HY10 := hide (HY9.out.below hb10)
        have HI10 := hide ho10
        clear ho10 hb10
        go_wp2_with fail
        refine (same_any _ _ st.now st.now _ HI10.out.sb HO10.out.sb).mono ?_
        rintro e w11 ⟨rfl, n11, hw11⟩
        rw [eqB_self]
        have hb11 : Below w10.heap.size w10 w11 := by rw [hw11]; exact below_drewN (Below.refl _ _) _
        have HL11 := hide (HL10.out.below hb11)
        have HX11 := hide (HX10.out.below hb11)
        have HY11 := hide (HY10.out.below hb11)
        clear hb11 hw11
        have hbA := HRun.out.inv.p.behind csa
        have hbB := HRun.out.inv.p.behind csb
        have hOA : (outcomeL st (csa, seca, resta)).length ≤ st.cap := by rw [length_outcomeL]; exact hbA
        have hOB : (outcomeL st (csb, secb, restb)).length ≤ st.cap := by rw [length_outcomeL]; exact hbB
        clear hbA hbB
        go_wp2_with fail
        refine (image_rep HX11.out (by exact Nat.le_trans hOA hcap)).mono ?_
        rintro e w12 ⟨a12, c12, rfl, ho12, hb12⟩
        have HL12 := hide (HL11.out.below hb12)
        have HX12 := hide (HX11.out.below hb12)
        have HY12 := hide (HY11.out.below hb12)
        have HO12 : Hid (OB w12 0 (.slice a12 (stNew (outcomeL st (csa, seca, resta)) st.cap).now.length c12) (outcomeL st (csa, seca, resta))) := ho12.base (Nat.zero_le _)
        have HRX := hide (fresh_role HX11.out (Nat.le_refl _) ho12)
        have HRY := hide (fresh_role HY11.out (Nat.le_refl _) ho12)
        have HRD := hide (fresh_role HL11.out.rep (Nat.le_refl _) ho12)
        clear ho12 hb12
        go_wp2_with fail
        refine (truncate_any 0 HX12.out (pinv_new _ _ hcap hOA) (small_new _ _)).mono ?_
        rintro e w13 ⟨rfl, KX', hR13, hF13⟩
        rw [(trunc_zero _ _).1]
        have HL13 := hide (HL12.out.side (flip_zero HZX.out) HUX.out hF13)
        have HY13 := hide (HY12.out.other HZXY.out hF13)
        have HX13 := hide hR13
        have HZ13 := hide (hF13.zero (flip_zero HZXY.out) HY12.out)
        have HO13 := hide (HO12.out.fr HRX.out hF13)
        clear hR13 hF13
        go_wp2_with fail
        refine (truncate_any 0 HY13.out (pinv_new _ _ hcap hOB) (small_new _ _)).mono ?_
        rintro e w14 ⟨rfl, KY', hR14, hF14⟩
        rw [(trunc_zero _ _).1]
        have HL14 := hide (HL13.out.side (flip_zero HZY.out) HUY.out hF14)
        have HX14 := hide (HX13.out.other HZ13.out hF14)
        have HO14 := hide (HO13.out.1.fr HRY.out hF14)
        clear hR14 hF14
        go_wp2_with fail
        refine (size_rep HX14.out).mono ?_
        rintro e w14 ⟨rfl, rfl⟩
        rw [(trunc_zero _ _).2]
        obtain ⟨x0, x1, x2⟩ := HBXA.out _ HL14.out.bel
        go_wp2_with fail
        refine (choice_any csa resta _ seca _ ((HSA.out.below HB0.out).below HL14.out.bel) hra).mono ?_
        rintro e w15 ⟨b15, rfl, hsi15, hbb15, hb15⟩
        have HL15 := hide (HL14.out.below hb15)
        have HO15 := hide (HO14.out.1.below hb15 (Nat.le_refl _))
        have HSI15 := hide hsi15
        have HK15 := hide (HL14.out.rep.roleNew (n := seca.length) (c := seca.length) hbb15)
        clear hsi15 hb15 x0 x1 x2 hbb15
        go_wp2_with fail
        refine (crash_any csa resta HL15.out.rep HPD.out HZ.out HSI15.out HK15.out).mono ?_
        rintro e w16 ⟨gz, KZ, rfl, hR16, hZ16, hUZ, hF16⟩
        rw [outcomeL_dead] at hZ16
        have HL16 := hide (HL15.out.fr hR16 hF16)
        have HO16 := hide (HO15.out.fr HRD.out hF16)
        have HZ16 := hide hZ16
        clear hR16 hZ16 hUZ hF16
        go_wp2_with fail
        refine (image_rep HZ16.out (by exact Nat.le_trans hOA hcap)).mono ?_
        rintro e w17 ⟨a17, c17, rfl, ho17, hb17⟩
        have HL17 := hide (HL16.out.below hb17)
        have HO17 := hide (HO16.out.1.below hb17 (Nat.le_refl _))
        have HI17 := hide ho17
        clear ho17 hb17
        go_wp2_with fail
        refine (same_any _ _ (outcomeL st (csa, seca, resta)) (outcomeL st (csa, seca, resta)) _ HI17.out.sb HO17.out.sb).mono ?_
        rintro e w18 ⟨rfl, n18, hw18⟩
        rw [eqB_self]
        have hb18 : Below w17.heap.size w17 w18 := by rw [hw18]; exact below_drewN (Below.refl _ _) _
        have HL18 := hide (HL17.out.below hb18)
        clear hb18 hw18
        go_wp2_with fail
        refine (sync_any HL18.out.rep HPD.out ?sm HRun.out.inv.k.dinv).mono ?_
        case sm => exact ⟨HRun.out.inv.s.calls, HRun.out.inv.s.left, HRun.out.inv.s.sizes, HRun.out.inv.s.ents, HRun.out.inv.s.pcs⟩
        rintro e w19 ⟨rfl, K19, hR19, hF19⟩
        have e12 : syncErr { st with dead := true } = 12 := rfl
        rw [e12]
        have HL19 := hide (HL18.out.fr hR19 hF19)
        clear hR19 hF19 e12
        go_wp2_with fail
        refine (num_any _ _).mono ?_
        rintro e w19 ⟨rfl, rfl⟩
        go_wp2
        go_ret
        exact ⟨rfl, HB0.out.trans (HL19.out.bel.mono HB0.out.size)⟩
end Go.Proofs.Yteiajeeincapoab
