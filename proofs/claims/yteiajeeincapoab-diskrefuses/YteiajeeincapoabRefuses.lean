import Derived.Test.YteiajeeincapoabFused
import Derived.Test.YteiajeeincapoabSynced
namespace Go.Proofs.Yteiajeeincapoab
open Go.RowKit Go.Maps

structure RunF (st : St) (c n : Nat) : Prop where
  inv : Inv st
  calls : st.calls ≤ n
  cap : st.cap = c

theorem RunF.step {st : St} {c n : Nat} (h : RunF st c n) (o : OpP) (hn : n + 1 ≤ 2000000000000) : RunF (opSt st o) c (n + 1) := by
  have h1 := h.inv.op o
  have h2 := h1.calls
  have h3 := h.calls
  exact ⟨h1.inv (by omega), by omega, h1.cap.trans h.cap⟩

theorem RunF.more {st : St} {c n : Nat} (h : RunF st c n) : RunF st c (n + 1) := ⟨h.inv, Nat.le_succ_of_le h.calls, h.cap⟩

theorem RunF.now {st : St} {c n : Nat} (h : RunF st c n) : st.now.length ≤ 16777216 := by
  have := h.inv.p.cap; have := h.inv.p.now; omega

theorem RunF.fuse {st : St} {c n : Nat} (h : RunF st c n) (f : Int) (hf : f ≤ 9223372036854775807) : RunF (fuseSt st f) c n := by
  unfold fuseSt
  split
  · exact h
  · exact ⟨h.inv.with _ _ _ (by omega), h.calls, h.cap⟩

theorem op_dead {st : St} {o : OpP} (hd : st.dead = true) : opSt st o = st ∧ opErr st o = if isOp o then 12 else 0 := by
  obtain ⟨d1, d2, d3, d4, d5, d6, _⟩ := dead_ops hd
  unfold opSt opErr isOp
  by_cases h2 : o.kind = 2
  · rw [if_pos h2, if_pos h2, if_pos (by simp [h2])]; exact ⟨d1 _ _, d2 _ _⟩
  · by_cases h3 : o.kind = 3
    · rw [if_neg h2, if_neg h2, if_pos h3, if_pos h3, if_pos (by simp [h3])]; exact ⟨d3 _, d4 _⟩
    · by_cases h4 : o.kind = 4
      · rw [if_neg h2, if_neg h2, if_neg h3, if_neg h3, if_pos h4, if_pos h4, if_pos (by simp [h4])]; exact ⟨d5, d6⟩
      · rw [if_neg h2, if_neg h2, if_neg h3, if_neg h3, if_neg h4, if_neg h4, if_neg (by simp [h2, h3, h4])]; exact ⟨rfl, rfl⟩

theorem refN_is {o : OpP} {c : Nat} (h : refN o c ≠ 0) : isOp o = true := by
  unfold refN at h
  unfold isOp
  by_cases h2 : o.kind = 2
  · simp [h2]
  · by_cases h3 : o.kind = 3
    · simp [h3]
    · rw [if_neg h2, if_neg h3] at h
      exact absurd rfl h

set_option maxRecDepth 20000 in
set_option maxHeartbeats 4000000 in
theorem refuses_walk (v vo vsec : Value) (l sec : List Int) (ops : List OpP) (c n cs rest : Int) (w : World) (hs : SB w v l) (ho : SO w vo ops) (hB : OpsB ops) (hsec : SI w vsec sec) (hr : sec.length ≤ 17592186043904) (hn : n ≤ 9223372036854775807) :
    Calls Try.prog 8 #[v, .int .i64 c, .int .i64 n, vo, .agg #[.int .i64 cs, vsec, .int .i64 rest]] w fun e w' => e = .returned (.bool true) ∧ Below w.heap.size w w' := by
  have HS := hide hs
  have HSEC := hide hsec
  obtain ⟨ao, k, hv, hk1, hk2, _⟩ := hs
  unfold maxLen at hk2
  subst hv
  obtain ⟨asx, ks, hv, hks1, hks2, _⟩ := hsec
  subst hv
  obtain ⟨aop, kop, hv, hop1, hop2, hops⟩ := ho
  unfold maxLen at hop2
  subst hv
  have HOPS := hide hops
  have hB1 := hB.len
  have HB := hide hB
  clear hops hB
  obtain ⟨W0, hW0⟩ : ∃ W0, W0 = w.alloc (.cells #[.int .i64 cs, .slice asx sec.length ks, .int .i64 rest] 26) := ⟨_, rfl⟩
  have hb0 : Below w.heap.size w W0 := by rw [hW0]; exact (Below.refl _ _).alloc (Nat.le_refl _) _
  have hs0 : W0.heap.size = w.heap.size + 1 := by rw [hW0]; exact size_alloc' _ _
  have hbx0 : W0.heap[w.heap.size]? = some (.cells #[.int .i64 cs, .slice asx sec.length ks, .int .i64 rest] 26 (0, 0)) := by rw [hW0]; exact heap_alloc_new _ _
  have HW0 := hide hW0
  have HS0 := hide hs0
  have HB0 := hide hb0
  have HBX := hide hbx0
  clear hW0 hs0 hb0 hbx0
  by_cases hfit : 0 ≤ c ∧ c ≤ 16777216 ∧ (l.length : Int) ≤ c
  case neg =>
    go_enter Try.func8, Try.ntmps8
    go_wp2_with fail
    rw [← HW0.out]
    refine (fits_no ao l.length k c _ hfit (by omega)).mono ?_
    rintro e W0 ⟨rfl, rfl⟩
    clear hfit
    go_wp2
    go_ret
    exact ⟨rfl, HB0.out⟩
  case pos =>
    obtain ⟨hf0, hf1, hf2⟩ := hfit
    obtain ⟨cn, rfl⟩ := Int.eq_ofNat_of_zero_le hf0
    go_enter Try.func8, Try.ntmps8
    go_wp2_with fail
    rw [← HW0.out]
    refine (fits_yes ao l.length k cn _ (by omega) hf1 hf2 (by omega)).mono ?_
    rintro e W0 ⟨rfl, rfl⟩
    go_wp2_with fail
    refine (fresh_any _ l cn _ (HS.out.below HB0.out) (by omega) (by omega)).mono ?_
    rintro e w1 ⟨g, K1, rfl, hR1, hU1, hb1⟩
    have HL1 : Hid (Live W0 w1 K1 g (stNew l cn)) := ⟨hR1, hU1, hb1⟩
    clear hR1 hU1 hb1
    go_wp2_with fail
    refine (fresh_any _ l cn _ ((HS.out.below HB0.out).below HL1.out.bel) (by omega) (by omega)).mono ?_
    rintro e w2 ⟨gb, KB, rfl, hR2, hU2, hb2⟩
    have HD2 : Hid (Duo W0 w2 K1 KB g gb (stNew l cn) (stNew l cn)) := ⟨HL1.out.below hb2, ⟨hR2, fun k hk => Nat.le_trans HL1.out.bel.size (hU2 k hk), HL1.out.bel.trans (hb2.mono HL1.out.bel.size)⟩, flip_zero (HL1.out.rep.zero hU2)⟩
    have hrun := Run.new l cn (by omega) (by omega)
    have HRun0 : Hid (RunF (fuseSt (stNew l cn) n) cn 0) := RunF.fuse ⟨hrun.inv, hrun.calls, hrun.cap⟩ n hn
    clear hR2 hU2 hb2 hrun
    go_wp2_with fail
    refine (fuse_any n HD2.out.d.rep).mono ?_
    rintro e w3 ⟨rfl, hR3, hF3⟩
    have HD3 := hide (HD2.out.left hR3 hF3)
    clear hR3 hF3 HL1 HD2
    go_wp2_with fail
    refine (fuse_any n HD3.out.b.rep).mono ?_
    rintro e w4 ⟨rfl, hR4, hF4⟩
    have HD4 := hide (HD3.out.right hR4 hF4)
    clear hR4 hF4 HD3
    go_wp2
    go_loopw [13] (fun i wr => ∃ k : Nat, i = .int .i64 k ∧ k ≤ ops.length ∧ Hid (∃ K KB st, Duo W0 wr K KB g gb st st ∧ RunF st cn k)) (fun i _ => ops.length - (intOf i).toNat)
    case atStart => exact ⟨0, rfl, Nat.zero_le _, K1, KB, _, HD4.out, HRun0.out⟩
    case round =>
      obtain ⟨k, rfl, hk, HH⟩ := hrel
      clear HD4 HRun0
      obtain ⟨K, KB, st, hD, hRun⟩ := HH.out
      have HD := hide hD
      have HRun := hide hRun
      clear HH hD hRun
      by_cases hlt : k < ops.length
      case pos =>
        have hlt' : (k : Int) < (ops.length : Int) := by omega
        obtain ⟨o, hoo⟩ : ∃ o, ops[k]? = some o := ⟨ops[k], by simp [hlt]⟩
        obtain ⟨b, of, av, cv, asec, csec, hab, hat0⟩ := HOPS.out k o hoo
        have hat := hat0.below HB0.out
        have hmem := List.mem_of_getElem? hoo
        have hdl := HB.out.data o hmem
        rw [hab]
        have HAT := hide hat
        have hcv : o.data.length ≤ cv ∧ cv ≤ 9223372036854775807 := by
          obtain ⟨_, _, e, h1, h2, _⟩ := hat.data
          simp only [Value.slice.injEq] at e
          unfold maxLen at h2
          omega
        obtain ⟨hcv1, hcv2⟩ := hcv
        clear hat hat0 hoo hab hmem
        obtain ⟨q0, q1, q2, q3, q4, q5, q6, -, -⟩ := HAT.out.below HD.out.d.bel
        go_wp2_with fail
        obtain ⟨V0, hV0⟩ : ∃ V0, V0 = wr.alloc (.cells #[.int .i64 o.kind, .int .i64 o.a, .int .i64 o.b, .slice av o.data.length cv, .int .i64 o.size, .slice asec o.sec.length csec, .int .i64 o.rest] 32) := ⟨_, rfl⟩
        rw [← hV0]
        have hbv : Below wr.heap.size wr V0 := by rw [hV0]; exact (Below.refl _ _).alloc (Nat.le_refl _) _
        have HZ0 : Hid (V0.heap.size = wr.heap.size + 1) := by show _ = _; rw [hV0]; exact size_alloc' _ _
        have HX0 : Hid (V0.heap[wr.heap.size]? = some (.cells #[.int .i64 o.kind, .int .i64 o.a, .int .i64 o.b, .slice av o.data.length cv, .int .i64 o.size, .slice asec o.sec.length csec, .int .i64 o.rest] 32 (0, 0))) := by show _ = _; rw [hV0]; exact heap_alloc_new _ _
        have HD0 := hide (HD.out.below hbv)
        have HBV := hide hbv
        have HK0 := hide HD.out.d.rep.top
        clear hV0 hbv q0 q1 q2 q3 q4 q5 q6
        obtain ⟨y0, y1, y2, y3, y4, y5, y6⟩ := boxAt HX0.out
        go_wp2_with fail
        refine (refused_any o cn (by omega) hdl hcv1).mono ?_
        rintro e w3 ⟨rfl, hb3⟩
        have HD3 := hide (HD0.out.below hb3)
        have HX3 : Hid (w3.heap[wr.heap.size]? = some (.cells #[.int .i64 o.kind, .int .i64 o.a, .int .i64 o.b, .slice av o.data.length cv, .int .i64 o.size, .slice asec o.sec.length csec, .int .i64 o.rest] 32 (0, 0))) := (hb3.block wr.heap.size (by rw [HZ0.out]; omega)).trans HX0.out
        have HS3 : Hid (wr.heap.size < w3.heap.size) := by show _ < _; have := hb3.size; rw [HZ0.out] at this; omega
        clear hb3 y0 y1 y2 y3 y4 y5 y6
        obtain ⟨rn, hrn⟩ : ∃ rn, rn = refN o cn := ⟨_, rfl⟩
        rw [← hrn]
        have hal := hide (alive_rep HD3.out.d.rep)
        cases hdd : st.dead
        case true =>
          have hod := op_dead (o := o) hdd
          rw [hdd] at hal
          clear hrn hdd
          cases his : isOp o
          case false =>
            have HIS := hide his
            have HC : Hid (opErr st o = 0) := by show _ = _; rw [hod.2, his]; rfl
            clear his hod
            obtain ⟨y0, y1, y2, y3, y4, y5, y6⟩ := boxAt HX3.out
            go_wp2_with fail
            refine hal.out.mono ?_
            rintro e w3 ⟨rfl, rfl⟩
            go_wp2_with fail
            refine (change_any o HD3.out.d.rep HRun.out.inv (HAT.out.data.below HD3.out.d.bel) hdl).mono ?_
            rintro e w4 ⟨rfl, K4, hR4, hF4⟩
            rw [HC.out]
            have HD4 := hide (HD3.out.left hR4 hF4)
            have HX4 : Hid (w4.heap[wr.heap.size]? = some (.cells #[.int .i64 o.kind, .int .i64 o.a, .int .i64 o.b, .slice av o.data.length cv, .int .i64 o.size, .slice asec o.sec.length csec, .int .i64 o.rest] 32 (0, 0))) := (hF4.block wr.heap.size HS3.out (.inl HK0.out)).trans HX3.out
            have HS4 : Hid (wr.heap.size < w4.heap.size) := Nat.lt_of_lt_of_le HS3.out hF4.size
            clear hR4 hF4 y0 y1 y2 y3 y4 y5 y6
            obtain ⟨y0, y1, y2, y3, y4, y5, y6⟩ := boxAt HX4.out
            go_wp2_with fail
            refine (is_any o).mono ?_
            rintro e w5 ⟨rfl, hb5⟩
            rw [HIS.out]
            have HD5 := hide (HD4.out.below hb5)
            have HX5 : Hid (w5.heap[wr.heap.size]? = some (.cells #[.int .i64 o.kind, .int .i64 o.a, .int .i64 o.b, .slice av o.data.length cv, .int .i64 o.size, .slice asec o.sec.length csec, .int .i64 o.rest] 32 (0, 0))) := (hb5.block wr.heap.size HS4.out).trans HX4.out
            clear hb5 y0 y1 y2 y3 y4 y5 y6
            obtain ⟨y0, y1, y2, y3, y4, y5, y6⟩ := boxAt HX5.out
            go_wp2_with fail
            refine (change_any o HD5.out.b.rep HRun.out.inv (HAT.out.data.below HD5.out.d.bel) hdl).mono ?_
            rintro e w6 ⟨rfl, KB6, hR6, hF6⟩
            rw [HC.out]
            have HD6 := hide (HD5.out.right hR6 hF6)
            clear hR6 hF6 y0 y1 y2 y3 y4 y5 y6
            go_wp2
            go_roundw
            case rel => exact ⟨k + 1, by go_num, by omega, K4, KB6, _, HD6.out, HRun.out.step o (by omega)⟩
            case measure => simp [intOf]; omega
          case true =>
            have HIS := hide his
            have HC : Hid (opErr st o = 12) := by show _ = _; rw [hod.2, his]; rfl
            have HSM := hide hod.1
            clear his hod
            obtain ⟨y0, y1, y2, y3, y4, y5, y6⟩ := boxAt HX3.out
            go_wp2_with fail
            refine hal.out.mono ?_
            rintro e w3 ⟨rfl, rfl⟩
            go_wp2_with fail
            refine (change_any o HD3.out.d.rep HRun.out.inv (HAT.out.data.below HD3.out.d.bel) hdl).mono ?_
            rintro e w4 ⟨rfl, K4, hR4, hF4⟩
            rw [HC.out]
            have HD4 := hide (HD3.out.left hR4 hF4)
            have HX4 : Hid (w4.heap[wr.heap.size]? = some (.cells #[.int .i64 o.kind, .int .i64 o.a, .int .i64 o.b, .slice av o.data.length cv, .int .i64 o.size, .slice asec o.sec.length csec, .int .i64 o.rest] 32 (0, 0))) := (hF4.block wr.heap.size HS3.out (.inl HK0.out)).trans HX3.out
            have HS4 : Hid (wr.heap.size < w4.heap.size) := Nat.lt_of_lt_of_le HS3.out hF4.size
            clear hR4 hF4 y0 y1 y2 y3 y4 y5 y6
            obtain ⟨y0, y1, y2, y3, y4, y5, y6⟩ := boxAt HX4.out
            go_wp2_with fail
            refine (is_any o).mono ?_
            rintro e w5 ⟨rfl, hb5⟩
            rw [HIS.out]
            have HD5 := hide (HD4.out.below hb5)
            have HX5 : Hid (w5.heap[wr.heap.size]? = some (.cells #[.int .i64 o.kind, .int .i64 o.a, .int .i64 o.b, .slice av o.data.length cv, .int .i64 o.size, .slice asec o.sec.length csec, .int .i64 o.rest] 32 (0, 0))) := (hb5.block wr.heap.size HS4.out).trans HX4.out
            clear hb5 y0 y1 y2 y3 y4 y5 y6
            go_wp2
            go_roundw
            case rel =>
              have hfin := HD5.out
              rw [HSM.out] at hfin
              exact ⟨k + 1, by go_num, by omega, K4, KB, _, hfin, HRun.out.more⟩
            case measure => simp [intOf]; omega
        case false =>
          rw [hdd] at hal
          by_cases hr0 : rn = 0
          · have HC : Hid (∃ ee, opErr st o = ee) := ⟨_, rfl⟩
            obtain ⟨ee, hee⟩ := HC.out
            clear HC
            have HC : Hid (opErr st o = ee) := hee
            have hself : (ee != ee) = false := by simp
            subst hr0
            clear hrn hdd hee
            obtain ⟨y0, y1, y2, y3, y4, y5, y6⟩ := boxAt HX3.out
            go_wp2_with fail
            refine hal.out.mono ?_
            rintro e w3 ⟨rfl, rfl⟩
            go_wp2_with fail
            refine (change_any o HD3.out.d.rep HRun.out.inv (HAT.out.data.below HD3.out.d.bel) hdl).mono ?_
            rintro e w4 ⟨rfl, K4, hR4, hF4⟩
            rw [HC.out]
            have HD4 := hide (HD3.out.left hR4 hF4)
            have HX4 : Hid (w4.heap[wr.heap.size]? = some (.cells #[.int .i64 o.kind, .int .i64 o.a, .int .i64 o.b, .slice av o.data.length cv, .int .i64 o.size, .slice asec o.sec.length csec, .int .i64 o.rest] 32 (0, 0))) := (hF4.block wr.heap.size HS3.out (.inl HK0.out)).trans HX3.out
            have HS4 : Hid (wr.heap.size < w4.heap.size) := Nat.lt_of_lt_of_le HS3.out hF4.size
            clear hR4 hF4 y0 y1 y2 y3 y4 y5 y6
            obtain ⟨y0, y1, y2, y3, y4, y5, y6⟩ := boxAt HX4.out
            go_wp2_with fail
            refine (change_any o HD4.out.b.rep HRun.out.inv (HAT.out.data.below HD4.out.d.bel) hdl).mono ?_
            rintro e w6 ⟨rfl, KB6, hR6, hF6⟩
            rw [HC.out]
            have HD6 := hide (HD4.out.right hR6 hF6)
            clear hR6 hF6 y0 y1 y2 y3 y4 y5 y6
            go_wp2
            go_roundw
            case rel => exact ⟨k + 1, by go_num, by omega, K4, KB6, _, HD6.out, HRun.out.step o (by omega)⟩
            case measure => simp [intOf]; omega
          · have HIS : Hid (isOp o = true) := refN_is (c := cn) (by rw [← hrn]; exact hr0)
            have hnb : ¬ okOp o st.cap := fun h => hr0 (by rw [hrn, ← HRun.out.cap]; exact h.2)
            have hob := op_bad hnb hdd
            have HC : Hid (opErr st o = rn) := by show _ = _; rw [hob.2, HRun.out.cap, hrn]
            have HSM := hide hob.1
            have hne0 : (rn != 0) = true := by simpa using hr0
            have hself : (rn != rn) = false := by simp
            clear hrn hdd hob hnb hr0
            obtain ⟨y0, y1, y2, y3, y4, y5, y6⟩ := boxAt HX3.out
            go_wp2_with fail
            refine hal.out.mono ?_
            rintro e w3 ⟨rfl, rfl⟩
            go_wp2_with fail
            refine (change_any o HD3.out.d.rep HRun.out.inv (HAT.out.data.below HD3.out.d.bel) hdl).mono ?_
            rintro e w4 ⟨rfl, K4, hR4, hF4⟩
            rw [HC.out]
            have HD4 := hide (HD3.out.left hR4 hF4)
            have HX4 : Hid (w4.heap[wr.heap.size]? = some (.cells #[.int .i64 o.kind, .int .i64 o.a, .int .i64 o.b, .slice av o.data.length cv, .int .i64 o.size, .slice asec o.sec.length csec, .int .i64 o.rest] 32 (0, 0))) := (hF4.block wr.heap.size HS3.out (.inl HK0.out)).trans HX3.out
            have HS4 : Hid (wr.heap.size < w4.heap.size) := Nat.lt_of_lt_of_le HS3.out hF4.size
            clear hR4 hF4 y0 y1 y2 y3 y4 y5 y6
            obtain ⟨y0, y1, y2, y3, y4, y5, y6⟩ := boxAt HX4.out
            go_wp2_with fail
            refine (is_any o).mono ?_
            rintro e w5 ⟨rfl, hb5⟩
            rw [HIS.out]
            have HD5 := hide (HD4.out.below hb5)
            have HX5 : Hid (w5.heap[wr.heap.size]? = some (.cells #[.int .i64 o.kind, .int .i64 o.a, .int .i64 o.b, .slice av o.data.length cv, .int .i64 o.size, .slice asec o.sec.length csec, .int .i64 o.rest] 32 (0, 0))) := (hb5.block wr.heap.size HS4.out).trans HX4.out
            clear hb5 y0 y1 y2 y3 y4 y5 y6
            go_wp2
            go_roundw
            case rel =>
              have hfin := HD5.out
              rw [HSM.out] at hfin
              exact ⟨k + 1, by go_num, by omega, K4, KB, _, hfin, HRun.out.more⟩
            case measure => simp [intOf]; omega
      case neg =>
        have hlt' : ¬ (k : Int) < (ops.length : Int) := by omega
        have had := hide (alive_rep HD.out.d.rep)
        have hab := hide (alive_rep HD.out.b.rep)
        have hcd := hide (calls_rep HD.out.d.rep)
        have hcb := hide (calls_rep HD.out.b.rep)
        obtain ⟨aa, haa⟩ : ∃ aa, aa = !st.dead := ⟨_, rfl⟩
        rw [← haa] at had hab
        have hself : (aa != aa) = false := by simp
        have hself2 : ((st.calls : Int) != st.calls) = false := by simp
        have hcap := HRun.out.inv.p.cap
        have hsz := HRun.out.inv.s.sizes
        have hcl := HRun.out.inv.s.calls
        clear haa
        go_wp2_with fail
        refine had.out.mono ?_
        rintro e wr ⟨rfl, rfl⟩
        go_wp2_with fail
        refine hab.out.mono ?_
        rintro e wr ⟨rfl, rfl⟩
        go_wp2_with fail
        refine hcd.out.mono ?_
        rintro e wr ⟨rfl, rfl⟩
        go_wp2_with fail
        refine hcb.out.mono ?_
        rintro e wr ⟨rfl, rfl⟩
        go_wp2_with fail
        refine (image_rep HD.out.d.rep HRun.out.now).mono ?_
        rintro e w3 ⟨a3, c3, rfl, ho3, hb3⟩
        have HD3 := hide (HD.out.below hb3)
        have HO3 := hide ho3
        clear ho3 hb3
        go_wp2_with fail
        refine (image_rep HD3.out.b.rep HRun.out.now).mono ?_
        rintro e w4 ⟨a4, c4, rfl, ho4, hb4⟩
        have HD4 := hide (HD3.out.below hb4)
        have HO4 := hide (HO3.out.below hb4 (Nat.le_refl _))
        have HP4 := hide ho4
        clear ho4 hb4
        go_wp2_with fail
        refine (same_any _ _ st.now st.now _ HO4.out.sb HP4.out.sb).mono ?_
        rintro e w5 ⟨rfl, n5, hw5⟩
        rw [eqB_self]
        have hb5 : Below w4.heap.size w4 w5 := by rw [hw5]; exact below_drewN (Below.refl _ _) _
        have HD5 := hide (HD4.out.below hb5)
        clear hb5 hw5
        have HBXA : Hid (∀ w', Below W0.heap.size W0 w' → w'.cell? ⟨w.heap.size, 0, none⟩ = some (.int .i64 cs) ∧ w'.cell? ⟨w.heap.size, 1, none⟩ = some (.slice asx sec.length ks) ∧ w'.cell? ⟨w.heap.size, 2, none⟩ = some (.int .i64 rest)) := fun w' hb => by
          have hbx2 := (hb.block w.heap.size (by rw [HS0.out]; omega)).trans HBX.out
          simp [World.cell?, hbx2]
        obtain ⟨x0, x1, x2⟩ := HBXA.out _ HD5.out.d.bel
        go_wp2_with fail
        refine (choice_any cs rest _ sec _ ((HSEC.out.below HB0.out).below HD5.out.d.bel) hr).mono ?_
        rintro e w6 ⟨b6, rfl, hsi6, hbb6, hb6⟩
        have HD6 := hide (HD5.out.below hb6)
        have HSI6 := hide hsi6
        have HK6 := hide (HD5.out.d.rep.roleNew (n := sec.length) (c := sec.length) hbb6)
        clear hsi6 hb6 x0 x1 x2 hbb6
        go_wp2_with fail
        refine (crash_any cs rest HD6.out.d.rep HRun.out.inv.p (by omega) HSI6.out HK6.out).mono ?_
        rintro e w7 ⟨gx, KX, rfl, hR7, hX7, hUX, hF7⟩
        have HD7 := hide (HD6.out.left hR7 hF7)
        have HX7 := hide hX7
        have HZX := hide (HD6.out.b.rep.zero hUX)
        clear hR7 hX7 hUX hF7
        obtain ⟨x0, x1, x2⟩ := HBXA.out _ HD7.out.d.bel
        go_wp2_with fail
        refine (choice_any cs rest _ sec _ ((HSEC.out.below HB0.out).below HD7.out.d.bel) hr).mono ?_
        rintro e w8 ⟨b8, rfl, hsi8, hbb8, hb8⟩
        have HD8 := hide (HD7.out.below hb8)
        have HX8 := hide (HX7.out.below hb8)
        have HSI8 := hide hsi8
        have HK8 := hide (HD7.out.b.rep.roleNew (n := sec.length) (c := sec.length) hbb8)
        clear hsi8 hb8 x0 x1 x2 hbb8
        go_wp2_with fail
        refine (crash_any cs rest HD8.out.b.rep HRun.out.inv.p (by omega) HSI8.out HK8.out).mono ?_
        rintro e w9 ⟨gy, KY, rfl, hR9, hY9, hUY, hF9⟩
        have HD9 := hide (HD8.out.right hR9 hF9)
        have HX9 := hide (HX8.out.other HZX.out hF9)
        have HY9 := hide hY9
        clear hR9 hY9 hUY hF9
        have hbA := HRun.out.inv.p.behind cs
        have hOA : (outcomeL st (cs, sec, rest)).length ≤ st.cap := by rw [length_outcomeL]; exact hbA
        clear hbA
        go_wp2_with fail
        refine (image_rep HX9.out (by exact Nat.le_trans hOA hcap)).mono ?_
        rintro e w10 ⟨a10, c10, rfl, ho10, hb10⟩
        have HO10 := hide ho10
        have HY10 := hide (HY9.out.below hb10)
        have HD10 := hide (HD9.out.below hb10)
        clear ho10 hb10
        go_wp2_with fail
        refine (image_rep HY10.out (by exact Nat.le_trans hOA hcap)).mono ?_
        rintro e w11 ⟨a11, c11, rfl, ho11, hb11⟩
        have HO11 := hide (HO10.out.below hb11 (Nat.le_refl _))
        have HP11 := hide ho11
        have HD11 := hide (HD10.out.below hb11)
        clear ho11 hb11
        go_wp2_with fail
        refine (same_any _ _ (outcomeL st (cs, sec, rest)) (outcomeL st (cs, sec, rest)) _ HO11.out.sb HP11.out.sb).mono ?_
        rintro e w12 ⟨rfl, n12, rfl⟩
        rw [eqB_self]
        go_wp2
        go_ret
        exact ⟨rfl, below_drewN (HB0.out.trans (HD11.out.d.bel.mono HB0.out.size)) _⟩
end Go.Proofs.Yteiajeeincapoab
