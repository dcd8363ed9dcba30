import Derived.Test.YteiajeeincapoabTornM
import Derived.Maps.AppendAt
namespace Go.Proofs.Yteiajeeincapoab
open Go.RowKit Go.Maps

theorem secB_part {out m : List Int} {s : Nat} (h : secB out m s) : partB out m (s * 512) = true :=
  partB_yes fun i h1 h2 h3 => h i (by omega) h3

theorem Torn.outB {st : St} {ms : List (List Int)} (h : Torn st ms) (hk : KInv st) (c : Int × List Int × Int) : (∃ m ∈ ms, m.length = (outcomeL st c).length) ∧ ∀ s, ∃ m ∈ ms, partB (outcomeL st c) m (s * 512) = true := by
  obtain ⟨h1, h2⟩ := h.out hk c
  refine ⟨h1, fun s => ?_⟩
  obtain ⟨m, hm, hs⟩ := h2 s
  exact ⟨m, hm, secB_part hs⟩

theorem torn_new (l : List Int) (c : Nat) : Torn (stNew l c) [l] := Torn.sync (st := stNew l c) rfl (fun _ => rfl) rfl

set_option maxRecDepth 20000 in
set_option maxHeartbeats 4000000 in
theorem torn_walk (v vo vsec : Value) (l sec : List Int) (ops : List OpP) (c cs rest : Int) (w : World) (hs : SB w v l) (ho : SO w vo ops) (hB : OpsB ops) (hsec : SI w vsec sec) (hr : sec.length ≤ 17592186043904) :
    Calls Try.prog 5 #[v, .int .i64 c, vo, .agg #[.int .i64 cs, vsec, .int .i64 rest]] w fun e w' => e = .returned (.bool true) ∧ Below w.heap.size w w' := by
  have HS := hide hs
  have HSEC := hide hsec
  obtain ⟨ao, k, hv, hk1, hk2, _⟩ := hs
  unfold maxLen at hk2
  subst hv
  obtain ⟨asx, ks, hv, hks1, hks2, _⟩ := hsec
  subst hv
  obtain ⟨aop, kop, hv, hop1, hop2, hops⟩ := ho
  unfold maxLen at hop2
  subst hv
  have HOPS := hide hops
  have hB1 := hB.len
  have HB := hide hB
  clear hops hB
  obtain ⟨W0, hW0⟩ : ∃ W0, W0 = w.alloc (.cells #[.int .i64 cs, .slice asx sec.length ks, .int .i64 rest] 26) := ⟨_, rfl⟩
  have hb0 : Below w.heap.size w W0 := by rw [hW0]; exact (Below.refl _ _).alloc (Nat.le_refl _) _
  have hs0 : W0.heap.size = w.heap.size + 1 := by rw [hW0]; exact size_alloc' _ _
  have hbx0 : W0.heap[w.heap.size]? = some (.cells #[.int .i64 cs, .slice asx sec.length ks, .int .i64 rest] 26 (0, 0)) := by rw [hW0]; exact heap_alloc_new _ _
  have HW0 := hide hW0
  have HS0 := hide hs0
  have HB0 := hide hb0
  have HBX := hide hbx0
  clear hW0 hs0 hb0 hbx0
  by_cases hfit : 0 ≤ c ∧ c ≤ 16777216 ∧ (l.length : Int) ≤ c
  case neg =>
    go_enter Try.func5, Try.ntmps5
    go_wp2_with fail
    rw [← HW0.out]
    refine (fits_no ao l.length k c _ hfit (by omega)).mono ?_
    rintro e W0 ⟨rfl, rfl⟩
    clear hfit
    go_wp2
    go_ret
    exact ⟨rfl, HB0.out⟩
  case pos =>
    obtain ⟨hf0, hf1, hf2⟩ := hfit
    obtain ⟨cn, rfl⟩ := Int.eq_ofNat_of_zero_le hf0
    obtain ⟨i0, hi, hz0, hz1, hz2⟩ := info_parts infoBytes
    go_enter Try.func5, Try.ntmps5
    go_wp2_with fail
    rw [← HW0.out]
    refine (fits_yes ao l.length k cn _ (by omega) hf1 hf2 (by omega)).mono ?_
    rintro e W0 ⟨rfl, rfl⟩
    go_wp2_with fail
    refine (fresh_any _ l cn _ (HS.out.below HB0.out) (by omega) (by omega)).mono ?_
    rintro e w1 ⟨g, K1, rfl, hR1, hU1, hb1⟩
    have HL1 : Hid (Live W0 w1 K1 g (stNew l cn)) := ⟨hR1, hU1, hb1⟩
    clear hR1 hU1 hb1
    go_wp2_with fail
    refine (clone_any _ l _ ((HS.out.below HB0.out).below HL1.out.bel) (by omega)).mono ?_
    rintro e w2 ⟨_, rfl, rfl, hg, hb2⟩
    have HO2 : Hid (OB w2 w1.heap.size (.slice (some ⟨w1.heap.size, 0, none⟩) l.length l.length) l) := hg
    have HL2 := hide (HL1.out.below hb2)
    have HRun0 := hide (Run.new l cn (by omega) (by omega))
    clear hg hb2
    go_wp2_with fail
    go_loopw [10, 11] (fun mo i wr => ∃ (k : Nat) (am : Option Addr) (cm : Nat) (ms : List (List Int)), i = .int .i64 k ∧ k ≤ ops.length ∧ mo = .slice am ms.length cm ∧ ms.length ≤ k + 1 ∧ Hid (∃ K st zs, Live W0 wr K g st ∧ Run st cn k ∧ Torn st ms ∧ MomV W0.heap.size wr K (.slice am ms.length cm) ms zs)) (fun _ i _ => ops.length - (intOf i).toNat)
    case atStart => exact ⟨0, _, _, [l], rfl, Nat.zero_le _, rfl, Nat.le_refl _, K1, _, _, HL2.out.below ((Below.refl _ _).alloc (Nat.le_refl _) _), HRun0.out, torn_new l cn, MomV.one HL1.out.rep HO2.out HL1.out.bel.size (by omega)⟩
    case round =>
      obtain ⟨k, am, cm, ms, rfl, hk, rfl, hms, HH⟩ := hrel
      clear HL1 HL2 HO2 HRun0
      obtain ⟨K, st, zs, hL, hRun, hT, hM⟩ := HH.out
      have HL := hide hL
      have HRun := hide hRun
      have HT := hide hT
      have HM := hide hM
      clear HH hL hRun hT hM
      by_cases hlt : k < ops.length
      case pos =>
        have hlt' : (k : Int) < (ops.length : Int) := by omega
        obtain ⟨o, hoo⟩ : ∃ o, ops[k]? = some o := ⟨ops[k], by simp [hlt]⟩
        obtain ⟨b, of, av, cv, asec, csec, hab, hat0⟩ := HOPS.out k o hoo
        have hat := hat0.below HB0.out
        have hmem := List.mem_of_getElem? hoo
        have hdl := HB.out.data o hmem
        rw [hab]
        have HAT := hide hat
        have hcv : o.data.length ≤ cv ∧ cv ≤ 9223372036854775807 := by
          obtain ⟨_, _, e, h1, h2, _⟩ := hat.data
          simp only [Value.slice.injEq] at e
          unfold maxLen at h2
          omega
        obtain ⟨hcv1, hcv2⟩ := hcv
        clear hat hat0 hoo hab hmem
        obtain ⟨q0, q1, q2, q3, q4, q5, q6, -, -⟩ := HAT.out.below HL.out.bel
        have hnl := HRun.out.now
        go_wp2_with fail
        obtain ⟨V0, hV0⟩ : ∃ V0, V0 = wr.alloc (.cells #[.int .i64 o.kind, .int .i64 o.a, .int .i64 o.b, .slice av o.data.length cv, .int .i64 o.size, .slice asec o.sec.length csec, .int .i64 o.rest] 32) := ⟨_, rfl⟩
        rw [← hV0]
        have hbv : Below wr.heap.size wr V0 := by rw [hV0]; exact (Below.refl _ _).alloc (Nat.le_refl _) _
        have HZ0 : Hid (V0.heap.size = wr.heap.size + 1) := by show _ = _; rw [hV0]; exact size_alloc' _ _
        have HX0 : Hid (V0.heap[wr.heap.size]? = some (.cells #[.int .i64 o.kind, .int .i64 o.a, .int .i64 o.b, .slice av o.data.length cv, .int .i64 o.size, .slice asec o.sec.length csec, .int .i64 o.rest] 32 (0, 0))) := by show _ = _; rw [hV0]; exact heap_alloc_new _ _
        have HL0 := hide (HL.out.below hbv)
        have HM0 := hide (HM.out.below hbv)
        have HK0 := hide HL.out.rep.top
        have HSZ : Hid (∀ W : World, W.heap = V0.heap → Calls Try.prog 24 #[.pointer (some ⟨g, 0, none⟩)] W fun e w' => e = .returned (.int .i64 st.now.length) ∧ w' = W) := fun W hW => size_rep (HL0.out.rep.far (by rw [hW]; exact Nat.le_refl _) fun k _ => by rw [hW])
        clear hV0 hbv q0 q1 q2 q3 q4 q5 q6
        obtain ⟨y0, y1, y2, y3, y4, y5, y6⟩ := boxAt HX0.out
        have HDR : Hid (∀ V1, Below V0.heap.size V0 V1 → Live W0 V1 K g st ∧ MomV W0.heap.size V1 K (.slice am ms.length cm) ms zs ∧ wr.heap.size < V1.heap.size ∧ V1.heap[wr.heap.size]? = some (.cells #[.int .i64 o.kind, .int .i64 o.a, .int .i64 o.b, .slice av o.data.length cv, .int .i64 o.size, .slice asec o.sec.length csec, .int .i64 o.rest] 32 (0, 0))) := fun V1 hb => ⟨HL0.out.below hb, HM0.out.below hb, by have := hb.size; rw [HZ0.out] at this; omega, (hb.block wr.heap.size (by rw [HZ0.out]; omega)).trans HX0.out⟩
        by_cases hsk : o.kind = 3 ∧ o.a < (st.now.length : Int)
        case pos =>
          have h3' : (o.kind == 3) = true := by simp [hsk.1]
          have ha := hsk.2
          clear hsk
          go_region_held3 (fun W => W.cell? ⟨wr.heap.size, 0, none⟩ = some (.int .i64 o.kind) ∧ W.cell? ⟨wr.heap.size, 1, none⟩ = some (.int .i64 o.a)) (exact ⟨y0, y1⟩)
            (first
              | (go_at_call 24; refine (HSZ.out _ (by rfl)).mono ?_; rintro e w5 ⟨rfl, hw5⟩; subst hw5))
          have HFN := hide (HDR.out _ (Below.refl V0.heap.size V0).drew)
          clear y0 y1 y2 y3 y4 y5 y6
          go_wp2
          go_roundw
          case rel => exact ⟨k + 1, _, _, ms, by go_num, by omega, rfl, by omega, K, st, zs, HFN.out.1, HRun.out.more, HT.out, HFN.out.2.1⟩
          case measure => simp [intOf]; omega
        case neg =>
          have HSK := hide hsk
          by_cases h3 : o.kind = 3
          case' pos =>
            have h3' : (o.kind == 3) = true := by simp [h3]
            have ha : ¬ o.a < (st.now.length : Int) := fun e => hsk ⟨h3, e⟩
            clear hsk h3
            go_region_held3 (fun W => W.cell? ⟨wr.heap.size, 0, none⟩ = some (.int .i64 o.kind) ∧ W.cell? ⟨wr.heap.size, 1, none⟩ = some (.int .i64 o.a)) (exact ⟨y0, y1⟩)
              (first
                | (go_at_call 24; refine (HSZ.out _ (by rfl)).mono ?_; rintro e w5 ⟨rfl, hw5⟩; subst hw5))
            go_wp2_with fail
            obtain ⟨V1, hV1⟩ : ∃ V1, V1 = V0.drew := ⟨_, rfl⟩
            rw [← hV1]
            have HFN := hide (HDR.out V1 (by rw [hV1]; exact (Below.refl V0.heap.size V0).drew))
            clear hV1 ha h3'
          case' neg =>
            have h3' : (o.kind == 3) = false := by simp [h3]
            clear hsk h3
            go_quiet (fail)
            go_wp2_with fail
            obtain ⟨V1, hV1⟩ : ∃ V1, V1 = V0.drewN nq := ⟨_, rfl⟩
            rw [← hV1]
            have HFN := hide (HDR.out V1 (by rw [hV1]; exact below_drewN (Below.refl V0.heap.size V0) _))
            clear hV1 h3'
          all_goals
            clear y0 y1 y2 y3 y4 y5 y6
            refine (change_any o HFN.out.1.rep HRun.out.inv (HAT.out.data.below HFN.out.1.bel) hdl).mono ?_
            rintro e w3 ⟨rfl, K3, hR3, hF3⟩
            rw [HRun.out.err o]
            have HL3 := hide (HFN.out.1.fr hR3 hF3)
            have HM3 := hide (HFN.out.2.1.fr hF3)
            have HX3 : Hid (w3.heap[wr.heap.size]? = some (.cells #[.int .i64 o.kind, .int .i64 o.a, .int .i64 o.b, .slice av o.data.length cv, .int .i64 o.size, .slice asec o.sec.length csec, .int .i64 o.rest] 32 (0, 0))) := (hF3.block wr.heap.size HFN.out.2.2.1 (.inl HK0.out)).trans HFN.out.2.2.2
            have HS3 : Hid (wr.heap.size < w3.heap.size) := Nat.lt_of_lt_of_le HFN.out.2.2.1 hF3.size
            have HR3 := hide (HRun.out.step o (by omega))
            clear hR3 hF3
            obtain ⟨y0, y1, y2, y3, y4, y5, y6⟩ := boxAt HX3.out
            go_wp2_with fail
            refine (refused_any o cn (by omega) hdl hcv1).mono ?_
            rintro e w4 ⟨rfl, hb4⟩
            have HL4 := hide (HL3.out.below hb4)
            have HM4 := hide (HM3.out.below hb4)
            have HX4 : Hid (w4.heap[wr.heap.size]? = some (.cells #[.int .i64 o.kind, .int .i64 o.a, .int .i64 o.b, .slice av o.data.length cv, .int .i64 o.size, .slice asec o.sec.length csec, .int .i64 o.rest] 32 (0, 0))) := (hb4.block wr.heap.size HS3.out).trans HX3.out
            clear hb4 y0 y1 y2 y3 y4 y5 y6
            obtain ⟨y0, y1, y2, y3, y4, y5, y6⟩ := boxAt HX4.out
            have hne : (refN o cn != refN o cn) = false := by simp
            have hnw := HR3.out.now
            by_cases h4 : o.kind = 4
            case' pos =>
              have h4' : (o.kind == 4) = true := by simp [h4]
              have hsy := op_sync (st := st) o h4 HRun.out.dead HRun.out.fused
              have HTT : Hid (Torn (opSt st o) (([] : List (List Int)) ++ [(opSt st o).now])) := Torn.sync hsy.1 hsy.2.2.1 hsy.2.2.2
              have HMM := hide (MomV.nil W0.heap.size w4 K3)
              have HLL : Hid (([] : List (List Int)).length ≤ k + 1) := Nat.zero_le _
              clear h4 hsy
              go_wp2_with fail
            case' neg =>
              have h4' : (o.kind == 4) = false := by simp [h4]
              have HTT := hide (HT.out.op HRun.out.inv.k o h4 HSK.out)
              have HMM := hide HM4.out
              have HLL := hide hms
              clear h4
              go_wp2_with fail
            all_goals
              refine (image_rep HL4.out.rep hnw).mono ?_
              rintro e w5 ⟨a5, c5, rfl, ho5, hb5⟩
              have HL5 := hide (HL4.out.below hb5)
              have HM5 := hide (HMM.out.below hb5)
              have HO5 := hide ho5
              have HR5 := hide (fresh_role HL4.out.rep (Nat.le_refl _) ho5)
              have HLT5 := hide (World.ownsRow.lt HMM.out.row)
              clear ho5 hb5 y0 y1 y2 y3 y4 y5 y6
              go_wp2_with (at_builtin; go_must (refine wpList_append_own_at _ rfl _ _ 52 rfl W0.heap.size 22 i0 (.slice none 0 0) 1 24 Try.underlying52 hi hz0 hz1 hz2 rfl (by decide) _ _ _ rfl (HM5.out.row.alloc _) ⟨w5.heap.size, 0, none⟩ 1 1 [.slice a5 (opSt st o).now.length c5] rfl rfl (cell_one_new _ _ _) (fun u hu => by rw [List.mem_singleton.1 hu]; rfl) (Nat.le_trans (Nat.add_le_add_right HLL.out 1) (by unfold maxLen; omega)) (Nat.le_trans (Nat.mul_le_mul_right 24 (Nat.add_le_add_right HLL.out 1)) (by omega)) (by rw [size_alloc']; have := HL5.out.bel.size; omega) ?_))
              intro v' w6 hown hgrow _ hloc
              have hm6 := HM5.out.add HL5.out.rep HO5.out.sb (fun k hk => ⟨HR5.out k hk, (HO5.out.lt k hk).2, fun e => by have := (HO5.out.lt k hk).1; have := (HLT5.out k e).2; omega⟩) hnw hown hgrow hloc
              obtain ⟨a6, c6, hv6⟩ := hm6.shape
              have HL6 := hide (HL5.out.grow HM5.out hgrow)
              have HM6 := hide hm6
              have HL7 := HLL.out
              clear hown hgrow hloc hm6
              rw [hv6] at HM6 ⊢
              clear hv6
              go_wp2
              go_roundw
              case rel => exact ⟨k + 1, a6, c6, _, by go_num, by omega, rfl, by rw [List.length_append, List.length_singleton]; omega, K3, _, _, HL6.out, HR3.out, HTT.out, HM6.out⟩
              case measure => simp [intOf]; omega
      case neg =>
        have hlt' : ¬ (k : Int) < (ops.length : Int) := by omega
        have hcap := HRun.out.inv.p.cap
        have hsz := HRun.out.inv.s.sizes
        have hcl := HRun.out.inv.s.calls
        have hbA := HRun.out.inv.p.behind cs
        have hOA : (outcomeL st (cs, sec, rest)).length ≤ st.cap := by rw [length_outcomeL]; exact hbA
        have HTO := hide (HT.out.outB HRun.out.inv.k (cs, sec, rest))
        have hbx2 : wr.heap[w.heap.size]? = some (.cells #[.int .i64 cs, .slice asx sec.length ks, .int .i64 rest] 26 (0, 0)) := (HL.out.bel.block w.heap.size (by rw [HS0.out]; omega)).trans HBX.out
        have x0 : wr.cell? ⟨w.heap.size, 0, none⟩ = some (.int .i64 cs) := by simp [World.cell?, hbx2]
        have x1 : wr.cell? ⟨w.heap.size, 1, none⟩ = some (.slice asx sec.length ks) := by simp [World.cell?, hbx2]
        have x2 : wr.cell? ⟨w.heap.size, 2, none⟩ = some (.int .i64 rest) := by simp [World.cell?, hbx2]
        clear hbx2 hbA
        go_wp2_with fail
        refine (choice_any cs rest _ sec _ ((HSEC.out.below HB0.out).below HL.out.bel) hr).mono ?_
        rintro e w7 ⟨b7, rfl, hsi7, hbb7, hb7⟩
        have HL7 := hide (HL.out.below hb7)
        have HM7 := hide (HM.out.below hb7)
        have HSI7 := hide hsi7
        have HK7 := hide (HL.out.rep.roleNew (n := sec.length) (c := sec.length) hbb7)
        clear hsi7 hb7 x0 x1 x2 hbb7
        go_wp2_with fail
        refine (crash_any cs rest HL7.out.rep HRun.out.inv.p (by omega) HSI7.out HK7.out).mono ?_
        rintro e w8 ⟨g8, K8, rfl, hR8, hN8, hU8, hF8⟩
        have HL8 := hide (HL7.out.fr hR8 hF8)
        have HM8 := hide (HM7.out.fr hF8)
        have HN8 := hide hN8
        clear hR8 hN8 hU8 hF8
        go_wp2_with fail
        refine (image_rep HN8.out (by exact Nat.le_trans hOA hcap)).mono ?_
        rintro e w9 ⟨a9, c9, rfl, ho9, hb9⟩
        have HO9 := hide ho9
        have HL9 := hide (HL8.out.below hb9)
        have HM9 := hide (HM8.out.below hb9)
        clear ho9 hb9
        go_wp2_with fail
        refine (sectors_walk a9 c9 _ (outcomeL st (cs, sec, rest)) ms _ HO9.out.sb HM9.out.sm (by omega) HM9.out.len HTO.out.1 HTO.out.2).mono ?_
        rintro e w9 ⟨rfl, rfl⟩
        go_wp2
        go_ret
        exact ⟨rfl, HB0.out.trans (HL9.out.bel.mono HB0.out.size)⟩
end Go.Proofs.Yteiajeeincapoab
