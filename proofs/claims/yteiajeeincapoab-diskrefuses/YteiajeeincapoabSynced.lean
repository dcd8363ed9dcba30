import Derived.Test.YteiajeeincapoabRuns
namespace Go.Proofs.Yteiajeeincapoab
open Go.RowKit Go.Maps

def op4 : OpP := ⟨4, 0, 0, [], 0, [], 0⟩

theorem opSt4 (st : St) : opSt st op4 = syncSt st := by simp [opSt, op4]

theorem opErr4 (st : St) : opErr st op4 = syncErr st := by simp [opErr, op4]

theorem out_synced {st : St} (h1 : ∀ s, st.pcs s = []) (h2 : st.sizes = []) (c : Int × List Int × Int) : outcomeL st c = st.dur := by
  unfold outcomeL
  rw [outTo_none _ _ _ _ h1]
  have e : behind st c.1 = st.dur.length := by unfold behind keptN; rw [h2, if_neg (by simp)]
  rw [e]
  unfold resz
  rw [if_pos (Nat.le_refl _), List.take_length]

set_option maxHeartbeats 2000000 in
theorem synced_walk (v vo vsec : Value) (l sec : List Int) (ops : List OpP) (c cs rest : Int) (w : World) (hs : SB w v l) (ho : SO w vo ops) (hB : OpsB ops) (hsec : SI w vsec sec) (hr : sec.length ≤ 17592186043904) :
    Calls Try.prog 3 #[v, .int .i64 c, vo, .agg #[.int .i64 cs, vsec, .int .i64 rest]] w fun e w' => e = .returned (.bool true) ∧ Below w.heap.size w w' := by
  have HS := hide hs
  have HSEC := hide hsec
  obtain ⟨ao, k, hv, hk1, hk2, _⟩ := hs
  unfold maxLen at hk2
  subst hv
  obtain ⟨asx, ks, hv, hks1, hks2, _⟩ := hsec
  subst hv
  obtain ⟨aop, kop, hv, hop1, hop2, hops⟩ := ho
  unfold maxLen at hop2
  subst hv
  have HOPS := hide hops
  have hB1 := hB.len
  have HB := hide hB
  clear hops hB
  obtain ⟨W0, hW0⟩ : ∃ W0, W0 = w.alloc (.cells #[.int .i64 cs, .slice asx sec.length ks, .int .i64 rest] 26) := ⟨_, rfl⟩
  have hb0 : Below w.heap.size w W0 := by rw [hW0]; exact (Below.refl _ _).alloc (Nat.le_refl _) _
  have hs0 : W0.heap.size = w.heap.size + 1 := by rw [hW0]; exact size_alloc' _ _
  have hbx0 : W0.heap[w.heap.size]? = some (.cells #[.int .i64 cs, .slice asx sec.length ks, .int .i64 rest] 26 (0, 0)) := by rw [hW0]; exact heap_alloc_new _ _
  have HW0 := hide hW0
  have HS0 := hide hs0
  have HB0 := hide hb0
  have HBX := hide hbx0
  clear hW0 hs0 hb0 hbx0
  by_cases hfit : 0 ≤ c ∧ c ≤ 16777216 ∧ (l.length : Int) ≤ c
  case neg =>
    go_enter Try.func3, Try.ntmps3
    go_wp2_with fail
    rw [← HW0.out]
    refine (fits_no ao l.length k c _ hfit (by omega)).mono ?_
    rintro e W0 ⟨rfl, rfl⟩
    clear hfit
    go_wp2
    go_ret
    exact ⟨rfl, HB0.out⟩
  case pos =>
    obtain ⟨hf0, hf1, hf2⟩ := hfit
    obtain ⟨cn, rfl⟩ := Int.eq_ofNat_of_zero_le hf0
    go_enter Try.func3, Try.ntmps3
    go_wp2_with fail
    rw [← HW0.out]
    refine (fits_yes ao l.length k cn _ (by omega) hf1 hf2 (by omega)).mono ?_
    rintro e W0 ⟨rfl, rfl⟩
    go_wp2_with fail
    refine (fresh_any _ l cn _ (HS.out.below HB0.out) (by omega) (by omega)).mono ?_
    rintro e w1 ⟨g, K1, rfl, hR1, hU1, hb1⟩
    have HL1 : Hid (Live W0 w1 K1 g (stNew l cn)) := ⟨hR1, hU1, hb1⟩
    have HRun0 := hide (Run.new l cn (by omega) (by omega))
    clear hR1 hU1 hb1
    go_wp2
    go_loopw [10] (fun i wr => ∃ k : Nat, i = .int .i64 k ∧ k ≤ ops.length ∧ Hid (∃ K st, Live W0 wr K g st ∧ Run st cn k)) (fun i _ => ops.length - (intOf i).toNat)
    case atStart => exact ⟨0, rfl, Nat.zero_le _, K1, _, HL1.out, HRun0.out⟩
    case round =>
      obtain ⟨k, rfl, hk, HH⟩ := hrel
      clear HL1 HRun0
      obtain ⟨K, st, hL, hRun⟩ := HH.out
      have HL := hide hL
      have HRun := hide hRun
      clear HH hL hRun
      by_cases hlt : k < ops.length
      · have hlt' : (k : Int) < (ops.length : Int) := by omega
        obtain ⟨o, hoo⟩ : ∃ o, ops[k]? = some o := ⟨ops[k], by simp [hlt]⟩
        obtain ⟨b, of, av, cv, asec, csec, hab, hat0⟩ := HOPS.out k o hoo
        have hat := hat0.below HB0.out
        have hmem := List.mem_of_getElem? hoo
        have hdl := HB.out.data o hmem
        rw [hab]
        have hat2 := hat.below HL.out.bel
        obtain ⟨q0, q1, q2, q3, q4, q5, q6, hsb, hsi⟩ := hat2
        have HAT := hide hat
        have HSB := hide hsb
        have hcv : o.data.length ≤ cv ∧ cv ≤ 9223372036854775807 := by
          obtain ⟨_, _, e, h1, h2, _⟩ := hsb
          simp only [Value.slice.injEq] at e
          unfold maxLen at h2
          omega
        obtain ⟨hcv1, hcv2⟩ := hcv
        clear hat hat0 hsb hsi hoo hab hmem
        go_wp2_with fail
        refine (change_any o HL.out.rep HRun.out.inv HSB.out hdl).mono ?_
        rintro e w3 ⟨rfl, K3, hR3, hF3⟩
        have HL3 := hide (HL.out.fr hR3 hF3)
        have HR3 := hide (HRun.out.step o (by omega))
        rw [HRun.out.err o]
        clear hR3 hF3 q0 q1 q2 q3 q4 q5 q6
        obtain ⟨q0, q1, q2, q3, q4, q5, q6, -, -⟩ := HAT.out.below HL3.out.bel
        go_wp2_with fail
        refine (refused_any o cn (by omega) hdl hcv1).mono ?_
        rintro e w4 ⟨rfl, hb4⟩
        have HL4 := hide (HL3.out.below hb4)
        have hne : (refN o cn != refN o cn) = false := by simp
        clear hb4 q0 q1 q2 q3 q4 q5 q6
        go_wp2
        go_roundw
        case rel => exact ⟨k + 1, by go_num, by omega, K3, _, HL4.out, HR3.out⟩
        case measure => simp [intOf]; omega
      · have hlt' : ¬ (k : Int) < (ops.length : Int) := by omega
        have HE4 : Hid (syncErr st = 0) := by show _ = _; rw [← opErr4, HRun.out.err op4]; rfl
        have HS4 := op_sync (st := st) op4 rfl HRun.out.dead HRun.out.fused
        have HR4 := HRun.out.step op4 (by omega)
        rw [opSt4] at HS4 HR4
        have HSY := hide HS4
        have HRR := hide HR4
        clear HS4 HR4
        go_wp2_with fail
        refine (image_rep HL.out.rep HRun.out.now).mono ?_
        rintro e w5 ⟨a5, c5, rfl, ho5, hb5⟩
        have HL5 := hide (HL.out.below hb5)
        have HO5 : Hid (OB w5 0 (.slice a5 st.now.length c5) st.now ∧ Role K (.slice a5 st.now.length c5) 0) := ⟨ho5.base (Nat.zero_le _), fresh_role HL.out.rep (Nat.le_refl _) ho5⟩
        clear ho5 hb5
        go_wp2_with fail
        refine (sync_any HL5.out.rep HRun.out.inv.p HRun.out.inv.s HRun.out.inv.k.dinv).mono ?_
        rintro e w6 ⟨rfl, K6, hR6, hF6⟩
        rw [HE4.out]
        have HL6 := hide (HL5.out.fr hR6 hF6)
        have HO6 := hide (HO5.out.1.fr HO5.out.2 hF6)
        have hbx2 : w6.heap[w.heap.size]? = some (.cells #[.int .i64 cs, .slice asx sec.length ks, .int .i64 rest] 26 (0, 0)) := (HL6.out.bel.block w.heap.size (by rw [HS0.out]; omega)).trans HBX.out
        have x0 : w6.cell? ⟨w.heap.size, 0, none⟩ = some (.int .i64 cs) := by simp [World.cell?, hbx2]
        have x1 : w6.cell? ⟨w.heap.size, 1, none⟩ = some (.slice asx sec.length ks) := by simp [World.cell?, hbx2]
        have x2 : w6.cell? ⟨w.heap.size, 2, none⟩ = some (.int .i64 rest) := by simp [World.cell?, hbx2]
        clear hR6 hF6 hbx2
        go_wp2_with fail
        refine (choice_any cs rest _ sec _ ((HSEC.out.below HB0.out).below HL6.out.bel) hr).mono ?_
        rintro e w7 ⟨b7, rfl, hsi7, hbb7, hb7⟩
        have HL7 := hide (HL6.out.below hb7)
        have HO7 := hide (HO6.out.1.below hb7 (Nat.le_refl _))
        have HSI7 := hide hsi7
        have HK7 : Hid (Role K6 (.slice (some ⟨b7, 0, none⟩) sec.length sec.length) 0) := fun q hq => by
          simp only [Value.ownBlock, Option.some.injEq] at hq
          obtain ⟨_, _, _, _, _, hv⟩ := HL6.out.rep
          by_cases hk : K6 q = 0
          · exact hk
          · have := hv.sup q hk; omega
        clear hsi7 hb7 x0 x1 x2 hbb7
        have hcap := HRR.out.inv.p.cap
        have hsz := HRR.out.inv.s.sizes
        have hcl := HRR.out.inv.s.calls
        go_wp2_with fail
        refine (crash_any cs rest HL7.out.rep HRR.out.inv.p (by omega) HSI7.out HK7.out).mono ?_
        rintro e w8 ⟨g8, K8, rfl, hR8, hN8, hU8, hF8⟩
        rw [out_synced HSY.out.2.2.1 HSY.out.2.2.2, HSY.out.1, HSY.out.2.1] at hN8
        have HL8 := hide (HL7.out.fr hR8 hF8)
        have HN8 := hide hN8
        have HO8 := hide (HO7.out.fr HO6.out.2 hF8)
        clear hR8 hN8 hU8 hF8
        go_wp2_with fail
        refine (image_rep HN8.out (by exact HRun.out.now)).mono ?_
        rintro e w9 ⟨a9, c9, rfl, ho9, hb9⟩
        have HO9 := hide ho9
        have HB9 := hide hb9
        clear ho9 hb9
        go_wp2_with fail
        refine (same_any _ _ st.now st.now _ HO9.out.sb (HO8.out.1.sb.below HB9.out)).mono ?_
        rintro e w10 ⟨rfl, n10, rfl⟩
        rw [eqB_self]
        go_wp2
        go_ret
        exact ⟨rfl, below_drewN (HB0.out.trans ((HL8.out.below HB9.out).bel.mono HB0.out.size)) _⟩
end Go.Proofs.Yteiajeeincapoab
