import Derived.Test.YteiajeeincapoaaRuns
namespace Go.Proofs.Yteiajeeincapoaa
open Go.RowKit Go.Maps

set_option maxHeartbeats 2000000 in
theorem keeps_walk (v vo : Value) (l : List Int) (ops : List OpP) (c : Int) (W : World) (hs : SB W v l) (ho : SO W vo ops) (hB : OpsB ops) :
    Calls Try.prog 8 #[v, .int .i64 c, vo] W fun e w' => e = .returned (.bool true) ∧ Below W.heap.size W w' := by
  have HS := hide hs
  obtain ⟨ao, k, hv, hk1, hk2, _⟩ := hs
  unfold maxLen at hk2
  subst hv
  obtain ⟨aop, kop, hv, hop1, hop2, hops⟩ := ho
  unfold maxLen at hop2
  subst hv
  have HOPS := hide hops
  have hB1 := hB.len
  have HB := hide hB
  clear hops hB
  by_cases hfit : 0 ≤ c ∧ c ≤ 16777216 ∧ (l.length : Int) ≤ c
  case neg =>
    go_enter Try.func8, Try.ntmps8
    go_wp2_with fail
    refine (fits_no ao l.length k c _ hfit (by omega)).mono ?_
    rintro e W ⟨rfl, rfl⟩
    clear hfit
    go_wp2
    go_ret
    exact ⟨rfl, Below.refl _ _⟩
  case pos =>
    obtain ⟨hf0, hf1, hf2⟩ := hfit
    obtain ⟨cn, rfl⟩ := Int.eq_ofNat_of_zero_le hf0
    go_enter Try.func8, Try.ntmps8
    go_wp2_with fail
    refine (fits_yes ao l.length k cn _ (by omega) hf1 hf2 (by omega)).mono ?_
    rintro e W ⟨rfl, rfl⟩
    go_wp2_with fail
    refine (fresh_any _ l cn _ HS.out (by omega) (by omega)).mono ?_
    rintro e w1 ⟨g, K1, rfl, hR1, hU1, hb1⟩
    have HL1 : Hid (Live W w1 K1 g (stNew l cn)) := ⟨hR1, hU1, hb1⟩
    have HB1 := hide hb1
    clear hR1 hU1 hb1
    go_wp2_with fail
    refine (clone_any _ l _ (HS.out.below HB1.out) (by omega)).mono ?_
    rintro e w2 ⟨_, rfl, rfl, hg, hb2⟩
    have ho2 : OB w2 w1.heap.size (.slice (some ⟨w1.heap.size, 0, none⟩) l.length l.length) l := hg
    have HL2 := hide (HL1.out.below hb2)
    have HO2 : Hid (OB w2 0 (.slice (some ⟨w1.heap.size, 0, none⟩) l.length l.length) l ∧ Role K1 (.slice (some ⟨w1.heap.size, 0, none⟩) l.length l.length) 0) := ⟨ho2.base (Nat.zero_le _), fresh_role HL1.out.rep (Nat.le_refl _) ho2⟩
    have HRun0 := hide (Run.new l cn (by omega) (by omega))
    clear ho2 hg hb2
    go_wp2
    go_loopw [8, 9] (fun sy i wr => ∃ (k : Nat) (asy : Option Addr) (csy : Nat) (sl : List Int), i = .int .i64 k ∧ k ≤ ops.length ∧ sy = .slice asy sl.length csy ∧ Hid (∃ K st, Live W wr K g st ∧ Run st cn k ∧ OB wr 0 (.slice asy sl.length csy) sl ∧ Role K (.slice asy sl.length csy) 0 ∧ sl = st.dur)) (fun _ i _ => ops.length - (intOf i).toNat)
    case atStart => exact ⟨0, _, _, l, rfl, Nat.zero_le _, rfl, K1, _, HL2.out, HRun0.out, HO2.out.1, HO2.out.2, rfl⟩
    case round =>
      obtain ⟨k, asy, csy, sl, rfl, hk, rfl, HH⟩ := hrel
      clear HL1 HB1 HL2 HO2 HRun0
      obtain ⟨K, st, hL, hRun, hO, hRo, hsl⟩ := HH.out
      have HL := hide hL
      have HRun := hide hRun
      have HO := hide hO
      have HRo := hide hRo
      have HSL := hide hsl
      clear HH hL hRun hO hRo hsl
      by_cases hlt : k < ops.length
      · have hlt' : (k : Int) < (ops.length : Int) := by omega
        obtain ⟨o, hoo⟩ : ∃ o, ops[k]? = some o := ⟨ops[k], by simp [hlt]⟩
        obtain ⟨b, of, av, cv, asec, csec, hab, hat⟩ := HOPS.out k o hoo
        have hmem := List.mem_of_getElem? hoo
        have hdl := HB.out.data o hmem
        rw [hab]
        have hat2 := hat.below HL.out.bel
        obtain ⟨q0, q1, q2, q3, q4, q5, q6, hsb, hsi⟩ := hat2
        have HAT := hide hat
        have HSB := hide hsb
        have hcv : o.data.length ≤ cv ∧ cv ≤ 9223372036854775807 := by
          obtain ⟨_, _, e, h1, h2, _⟩ := hsb
          simp only [Value.slice.injEq] at e
          unfold maxLen at h2
          omega
        obtain ⟨hcv1, hcv2⟩ := hcv
        clear hat hsb hsi hoo hab hmem
        go_wp2_with fail
        refine (change_any o HL.out.rep HRun.out.inv HSB.out hdl).mono ?_
        rintro e w3 ⟨rfl, K3, hR3, hF3⟩
        have HL3 := hide (HL.out.fr hR3 hF3)
        have HO3 := hide (HO.out.fr HRo.out hF3)
        have HR3 := hide (HRun.out.step o (by omega))
        rw [HRun.out.err o]
        clear hR3 hF3 q0 q1 q2 q3 q4 q5 q6
        obtain ⟨q0, q1, q2, q3, q4, q5, q6, -, -⟩ := HAT.out.below HL3.out.bel
        go_wp2_with fail
        refine (refused_any o cn (by omega) hdl hcv1).mono ?_
        rintro e w4 ⟨rfl, hb4⟩
        have HL4 := hide (HL3.out.below hb4)
        have HO4 := hide (HO3.out.1.below hb4 (Nat.le_refl _))
        clear hb4 q0 q1 q2 q3 q4 q5 q6
        obtain ⟨q0, q1, q2, q3, q4, q5, q6, -, -⟩ := HAT.out.below HL4.out.bel
        have hne : (refN o cn != refN o cn) = false := by simp
        by_cases h4 : o.kind = 4
        · have h4' : (o.kind == 4) = true := by simp [h4]
          have HSY := hide (op_sync (st := st) o h4 HRun.out.dead HRun.out.fused)
          clear h4
          go_wp2_with fail
          refine (image_rep HL4.out.rep HR3.out.now).mono ?_
          rintro e w5 ⟨a5, c5, rfl, ho5, hb5⟩
          have HL5 := hide (HL4.out.below hb5)
          have HO5 : Hid (OB w5 0 (.slice a5 (opSt st o).now.length c5) (opSt st o).now ∧ Role K3 (.slice a5 (opSt st o).now.length c5) 0) := ⟨ho5.base (Nat.zero_le _), fresh_role HL4.out.rep (Nat.le_refl _) ho5⟩
          clear ho5 hb5 q0 q1 q2 q3 q4 q5 q6
          go_wp2
          go_roundw
          case rel => exact ⟨k + 1, _, _, _, by go_num, by omega, rfl, K3, _, HL5.out, HR3.out, HO5.out.1, HO5.out.2, HSY.out.1.symm⟩
          case measure => simp [intOf]; omega
        · have h4' : (o.kind == 4) = false := by simp [h4]
          have HSY := hide (op_dur (st := st) o h4)
          clear h4
          go_wp2
          go_roundw
          case rel => exact ⟨k + 1, _, _, _, by go_num, by omega, rfl, K3, _, HL4.out, HR3.out, HO4.out, HO3.out.2, HSL.out.trans HSY.out.symm⟩
          case measure => simp [intOf]; omega
      · have hlt' : ¬ (k : Int) < (ops.length : Int) := by omega
        have hI := HRun.out.inv
        have hcap := hI.p.cap
        have hsz := hI.s.sizes
        have hcl := hI.s.calls
        have HI := hide hI
        have HCAP := hide HRun.out.cap
        clear hI
        go_wp2_with fail
        refine (image_rep HL.out.rep HRun.out.now).mono ?_
        rintro e w5 ⟨a5, c5, rfl, ho5, hb5⟩
        have HL5 := hide (HL.out.below hb5)
        have HO5 : Hid (OB w5 0 (.slice a5 st.now.length c5) st.now ∧ Role K (.slice a5 st.now.length c5) 0) := ⟨ho5.base (Nat.zero_le _), fresh_role HL.out.rep (Nat.le_refl _) ho5⟩
        have HSY5 := hide (HO.out.below hb5 (Nat.le_refl _))
        clear ho5 hb5
        go_wp2_with fail
        refine (crash_any 1152921504606846976 1152921504606846976 HL5.out.rep HI.out.p (by omega) (siNil _) (roleNil _ _)).mono ?_
        rintro e w6 ⟨g6, K6, rfl, hR6, hN6, hU6, hF6⟩
        rw [out_all HI.out _ _ (by omega) (by omega)] at hN6
        have HL6 := hide (HL5.out.fr hR6 hF6)
        have HZ6 := hide (HL5.out.rep.zero hU6)
        have HN6 := hide hN6
        have HO6 := hide (HO5.out.1.fr HO5.out.2 hF6)
        have HSY6 := hide (HSY5.out.fr HRo.out hF6)
        clear hR6 hN6 hU6 hF6
        go_wp2_with fail
        refine (crash_any 0 0 HL6.out.rep ?pi (by exact Nat.le_trans hsz (by omega)) (siNil _) (roleNil _ _)).mono ?_
        case pi => exact ⟨HI.out.p.cap, HI.out.p.now, HI.out.p.dur, HI.out.p.sizes, HI.out.p.bd⟩
        rintro e w7 ⟨g7, K7, rfl, hR7, hN7, hU7, hF7⟩
        rw [outcomeL_dead, out_none HI.out] at hN7
        have HL7 := hide (HL6.out.fr hR7 hF7)
        have HN7 := hide hN7
        have HX7 := hide (HN6.out.other HZ6.out hF7)
        have HO7 := hide (HO6.out.1.fr HO6.out.2 hF7)
        have HSY7 := hide (HSY6.out.1.fr HSY6.out.2 hF7)
        clear hR7 hN7 hU7 hF7
        go_wp2_with fail
        refine (image_rep HX7.out (by exact HRun.out.now)).mono ?_
        rintro e w8 ⟨a8, c8, rfl, ho8, hb8⟩
        have HO8 := hide ho8
        have HB8 := hide hb8
        clear ho8 hb8
        go_wp2_with fail
        refine (image_rep (HN7.out.below HB8.out) (by exact Nat.le_trans HI.out.p.dur hcap)).mono ?_
        rintro e w9 ⟨a9, c9, rfl, ho9, hb9⟩
        have HO9 := hide ho9
        have HB9 := hide hb9
        clear ho9 hb9
        go_wp2_with fail
        refine (same_any _ _ st.now st.now _ (HO8.out.sb.below HB9.out) ((HO7.out.1.sb.below HB8.out).below HB9.out)).mono ?_
        rintro e w10 ⟨rfl, n10, rfl⟩
        rw [eqB_self]
        have HB10 := hide (below_drewN (Below.refl w9.heap.size w9) n10)
        go_wp2_with fail
        refine (same_any _ _ st.dur sl _ (HO9.out.sb.below HB10.out) (((HSY7.out.1.sb.below HB8.out).below HB9.out).below HB10.out)).mono ?_
        rintro e w11 ⟨rfl, n11, rfl⟩
        rw [HSL.out, eqB_self]
        go_wp2
        go_ret
        exact ⟨rfl, below_drewN (((HL7.out.below HB8.out).below HB9.out).bel) _⟩
end Go.Proofs.Yteiajeeincapoaa
