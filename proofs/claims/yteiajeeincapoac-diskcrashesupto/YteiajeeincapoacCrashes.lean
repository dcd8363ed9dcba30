import Derived.Test.YteiajeeincapoacRBoth
import Derived.Test.YteiajeeincapoacPlays
namespace Go.Proofs.Yteiajeeincapoac
open Go.RowKit Go.Maps

theorem outcomeL_new (O : List Int) (c : Nat) (h1 : c ≤ 16777216) (h2 : O.length ≤ c) (ch : Int × List Int × Int) : outcomeL (stNew O c) ch = O := by
  have hb : behind (stNew O c) ch.1 = O.length := by
    unfold behind
    have hz : keptN ch.1 (stNew O c).sizes.length ≤ 0 := Nat.min_le_right _ _
    rw [if_neg (by omega)]
    rfl
  refine list_ext (by rw [length_outcomeL, hb]) fun i hi => ?_
  rw [length_outcomeL] at hi
  rw [getD_outcomeL (Run.new O c h1 h2).inv.k.bd ch i hi]
  have e : ((stNew O c).pcs (i / 512)) = [] := rfl
  rw [e, List.take_nil]
  rfl

set_option maxRecDepth 20000 in
set_option maxHeartbeats 4000000 in
theorem crashes_walk (v vo vsec : Value) (l sec : List Int) (ops : List OpP) (c cs rest : Int) (w : World) (hs : SB w v l) (hsl : l.length ≤ 140737488351232) (ho : SO w vo ops) (hB : OpsB ops) (hn1 : ops.length ≤ 1048576) (ha : ∀ o ∈ ops, o.a ≤ 9223372036854775807) (hsec : SI w vsec sec) (hr : sec.length ≤ 17592186043904) :
    Calls Try.prog 3 #[v, .int .i64 c, vo, .agg #[.int .i64 cs, vsec, .int .i64 rest]] w fun e w' => e = .returned (.bool true) ∧ Below w.heap.size w w' := by
  obtain ⟨asec, csec, hv, _⟩ := id hsec
  subst hv
  obtain ⟨W, hW⟩ : ∃ W, W = w.alloc (.cells #[.int .i64 cs, .slice asec sec.length csec, .int .i64 rest] 26) := ⟨_, rfl⟩
  have hb0 : Below w.heap.size w W := by rw [hW]; exact (Below.refl _ _).alloc (Nat.le_refl _) _
  have HX0 : Hid (W.heap[w.heap.size]? = some (.cells #[.int .i64 cs, .slice asec sec.length csec, .int .i64 rest] 26 (0, 0))) := by show _ = _; rw [hW]; exact heap_alloc_new _ _
  have HSZ : Hid (W.heap.size = w.heap.size + 1) := by show _ = _; rw [hW]; exact size_alloc' _ _
  have HBX : Hid (∀ w' : World, Below W.heap.size W w' → w'.cell? ⟨w.heap.size, 0, none⟩ = some (.int .i64 cs) ∧ w'.cell? ⟨w.heap.size, 1, none⟩ = some (.slice asec sec.length csec) ∧ w'.cell? ⟨w.heap.size, 2, none⟩ = some (.int .i64 rest)) := by
    intro w' hb
    have e := (hb.block w.heap.size (by rw [HSZ.out]; omega)).trans HX0.out
    simp [World.cell?, e]
  have HS := hide (hs.below hb0)
  have HSI := hide (hsec.below hb0)
  have HB0 := hide hb0
  have HW := hide hW
  obtain ⟨ao, k, hv, _, hk, _⟩ := hs
  subst hv
  obtain ⟨oo, ko, rfl, hko, hkm, hops⟩ := ho
  unfold maxLen at hk hkm
  have HH : Hid (Herd W W []) := ⟨Below.refl _ _, (fun i d hd => by simp at hd), (fun i d hd => by simp at hd), (fun i j d e hd => by simp at hd)⟩
  have HOPS := hide hops
  have HB := hide hB
  have HA := hide ha
  clear hops hB ha hb0 hW hsec
  by_cases hc : (0 ≤ c ∧ c ≤ 16777216) ∧ (l.length : Int) ≤ c
  case neg =>
    go_enter Try.func3, Try.ntmps3
    go_wp2_with fail
    rw [← HW.out]
    refine (made_none _ l c HH.out HS.out hsl hc).mono ?_
    rintro e w1 ⟨rfl, h1⟩
    have HH1 := hide h1
    clear h1 hc
    go_wp2
    go_ret
    exact ⟨rfl, HB0.out.trans (HH1.out.bel.mono HB0.out.size)⟩
  case pos =>
    obtain ⟨⟨hc0, hc1⟩, hc2⟩ := hc
    obtain ⟨cn, rfl⟩ := Int.eq_ofNat_of_zero_le hc0
    go_enter Try.func3, Try.ntmps3
    go_wp2_with fail
    rw [← HW.out]
    refine (made_herd _ l cn HH.out HS.out (by omega) (by omega)).mono ?_
    rintro e w1 ⟨g, gr, K1, KR1, rfl, h1⟩
    have HH1 : Hid (Herd W w1 [(K1, g, .inl (stNew l cn)), (KR1, gr, .inr (rsNew l cn))]) := h1
    have HPN := hide (pair_new l cn (by omega) (by omega))
    clear h1
    go_wp2
    go_loopw [12] (fun i wr => ∃ k : Nat, i = .int .i64 k ∧ k ≤ ops.length ∧ Hid (∃ K KR st rs, Herd W wr [(K, g, .inl st), (KR, gr, .inr rs)] ∧ Pair st rs k ∧ st.cap = cn)) (fun i _ => ops.length - (intOf i).toNat)
    case atStart => exact ⟨0, rfl, Nat.zero_le _, K1, KR1, _, _, HH1.out, HPN.out, rfl⟩
    case round =>
      clear HH1 HPN
      obtain ⟨k, rfl, hk, HQ⟩ := hrel
      obtain ⟨K, KR, st, rs, hH, hP, hcap⟩ := HQ.out
      have HD := hide hH
      have HP := hide hP
      have HCap := hide hcap
      clear HQ hH hP hcap
      by_cases hlt : k < ops.length
      case pos =>
        have hlt' : (k : Int) < (ops.length : Int) := by omega
        obtain ⟨o, hoo⟩ : ∃ o, ops[k]? = some o := ⟨ops[k], by simp [hlt]⟩
        obtain ⟨b, of, av, cv, asec', csec', hab, hat⟩ := HOPS.out k o hoo
        have hdl := HB.out.data o (List.mem_of_getElem? hoo)
        have hoa := HA.out o (List.mem_of_getElem? hoo)
        have HAT := hide (hat.below HB0.out)
        rw [hab]
        clear hat hoo hab
        obtain ⟨q0, q1, q2, q3, q4, q5, q6, -, -⟩ := HAT.out.below HD.out.bel
        go_wp2_with fail
        refine (changes_any 0 1 o HD.out rfl rfl (by decide) HP.out (by omega) HAT.out.data hdl hoa).mono ?_
        rintro e w2 ⟨rfl, K2, KR2, st2, rs2, hH2, hP2, hc2⟩
        have HD2 : Hid (Herd W w2 [(K2, g, .inl st2), (KR2, gr, .inr rs2)]) := hH2
        have HP2 := hide hP2
        have HC2 : Hid (st2.cap = cn) := hc2.trans HCap.out
        clear hH2 hP2 hc2 q0 q1 q2 q3 q4 q5 q6
        go_wp2
        go_roundw
        case rel => exact ⟨k + 1, by go_num, by omega, K2, KR2, st2, rs2, HD2.out, HP2.out, HC2.out⟩
        case measure => simp [intOf]; omega
      case neg =>
        have hlt' : ¬ (k : Int) < (ops.length : Int) := by omega
        have HKz : Hid (∀ k, wr.heap.size ≤ k → K k = 0 ∧ KR k = 0) := fun k hk => ⟨(HD.out.rep 0 _ rfl).zero hk, (HD.out.rep 1 _ rfl).zero hk⟩
        have hcap := HP.out.inv.p.cap
        have hnow := HP.out.inv.p.now
        have hbeh := HP.out.inv.p.behind cs
        obtain ⟨O, HO⟩ : ∃ O, Hid (O = outcomeL st (cs, sec, rest)) := ⟨_, rfl⟩
        have hOl : O.length ≤ st.cap := by rw [HO.out, length_outcomeL]; exact hbeh
        obtain ⟨q0, q1, q2⟩ := HBX.out wr HD.out.bel
        clear hbeh
        go_wp2_with fail
        refine (choice_any cs rest (.slice asec sec.length csec) sec wr (HSI.out.below HD.out.bel) hr).mono ?_
        rintro e w2 ⟨bc, rfl, hsc, hbc, hb2⟩
        have HD2 := hide (HD.out.below hb2)
        have HSc := hide hsc
        have HRc : Hid (Role K (.slice (some ⟨bc, 0, none⟩) sec.length sec.length) 0) := fun q hq => by simp [Value.ownBlock] at hq; rw [← hq]; exact (HKz.out bc hbc).1
        clear hsc hbc hb2 q0 q1 q2
        go_wp2_with fail
        refine (dcrash_herd 0 cs rest HD2.out rfl HP.out.inv HSc.out HRc.out).mono ?_
        rintro e w3 ⟨g2, K2, rfl, hH3, hF3⟩
        rw [← HO.out] at hH3
        have HD3 : Hid (Herd W w3 [(K, g, .inl { st with dead := true }), (KR, gr, .inr rs), (K2, g2, .inl (stNew O st.cap))]) := hH3
        clear hH3 hF3 HSc HRc
        obtain ⟨q0, q1, q2⟩ := HBX.out w3 HD3.out.bel
        go_wp2_with fail
        refine (rcrash_herd 1 cs rest HD3.out rfl HP.out (by omega) (HSI.out.below HD3.out.bel)).mono ?_
        rintro e w4 ⟨g3, K3, rfl, hH4, hF4⟩
        rw [← HO.out] at hH4
        have HD4 : Hid (Herd W w4 [(K, g, .inl { st with dead := true }), (KR, gr, .inr { rs with live := false }), (K2, g2, .inl (stNew O st.cap)), (K3, g3, .inr (rsNew O st.cap))]) := hH4
        clear hH4 hF4 q0 q1 q2
        go_wp2_with fail
        refine (num_any _ _).mono ?_
        rintro e w4 ⟨rfl, rfl⟩
        go_wp2_with fail
        refine (image_rep (HD4.out.rep 2 _ rfl) (by exact Nat.le_trans hOl hcap)).mono ?_
        rintro e w5 ⟨a5, c5, rfl, ho5, hb5⟩
        have HD5 := hide (HD4.out.below hb5)
        have HI5 : Hid (OB w5 w4.heap.size (.slice a5 O.length c5) O) := ho5
        clear ho5 hb5
        go_wp2_with fail
        refine (rimage_any (HD5.out.rep 3 _ rfl) (by exact Nat.le_trans hOl hcap)).mono ?_
        rintro e w6 ⟨a6, c6, rfl, ho6, hb6⟩
        have HD6 := hide (HD5.out.below hb6)
        have HI5b := hide (HI5.out.below hb6 (Nat.le_refl _))
        have HI6 : Hid (OB w6 w5.heap.size (.slice a6 O.length c6) O) := ho6
        clear ho6 hb6
        go_wp2_with fail
        refine (image_rep (HD6.out.rep 0 _ rfl) (by exact Nat.le_trans hnow hcap)).mono ?_
        rintro e w7 ⟨a7, c7, rfl, ho7, hb7⟩
        have HD7 := hide (HD6.out.below hb7)
        have HI5c := hide (HI5b.out.below hb7 (Nat.le_refl _))
        have HI6c := hide (HI6.out.below hb7 (Nat.le_refl _))
        have HI7 : Hid (OB w7 w6.heap.size (.slice a7 st.now.length c7) st.now) := ho7
        clear ho7 hb7
        go_wp2_with fail
        refine (rimage_any (HD7.out.rep 1 _ rfl) (by show rs.now.length ≤ _; rw [HP.out.sim.now]; exact Nat.le_trans hnow hcap)).mono ?_
        rintro e w8 ⟨a8, c8, rfl, ho8, hb8⟩
        have HD8 := hide (HD7.out.below hb8)
        have HI5d := hide (HI5c.out.below hb8 (Nat.le_refl _))
        have HI6d := hide (HI6c.out.below hb8 (Nat.le_refl _))
        have HI7d := hide (HI7.out.below hb8 (Nat.le_refl _))
        have HI8 : Hid (OB w8 w7.heap.size (.slice a8 rs.now.length c8) rs.now) := ho8
        rw [HP.out.sim.now] at HI8
        clear ho8 hb8
        go_wp2_with fail
        refine (same_any _ _ O O _ HI5d.out.sb HI6d.out.sb).mono ?_
        rintro e w9 ⟨rfl, n9, hw9⟩
        rw [eqB_self]
        have hb9 : Below w8.heap.size w8 w9 := by rw [hw9]; exact below_drewN (Below.refl _ _) _
        have HD9 := hide (HD8.out.below hb9)
        have HI6e := hide (HI6d.out.below hb9 (Nat.le_refl _))
        have HI7e := hide (HI7d.out.below hb9 (Nat.le_refl _))
        have HI8e := hide (HI8.out.below hb9 (Nat.le_refl _))
        clear hb9 hw9
        go_wp2_with fail
        refine (same_any _ _ st.now st.now _ HI7e.out.sb (by have h := HI8e.out.sb; show SB _ (.slice a8 rs.now.length c8) st.now; rw [HP.out.sim.now]; exact h)).mono ?_
        rintro e wA ⟨rfl, nA, hwA⟩
        rw [eqB_self]
        have hbA : Below w9.heap.size w9 wA := by rw [hwA]; exact below_drewN (Below.refl _ _) _
        have HDA := hide (HD9.out.below hbA)
        have HI6f := hide (HI6e.out.below hbA (Nat.le_refl _))
        clear hbA hwA
        have en1 : (stNew O st.cap).now.length = O.length := rfl
        have en2 : (rsNew O st.cap).now.length = O.length := rfl
        have en3 : (stNew O st.cap).cap = cn := HCap.out
        have en4 : (stNew O st.cap).calls = 0 := rfl
        have en5 : (stNew O st.cap).dead = false := rfl
        go_wp2_with fail
        refine (size_rep (HDA.out.rep 2 _ rfl)).mono ?_
        rintro e wB ⟨rfl, hwB⟩
        subst hwB
        go_wp2_with fail
        refine (cap_rep (HDA.out.rep 2 _ rfl)).mono ?_
        rintro e wB ⟨rfl, hwB⟩
        subst hwB
        go_wp2_with fail
        refine (calls_rep (HDA.out.rep 2 _ rfl)).mono ?_
        rintro e wB ⟨rfl, hwB⟩
        subst hwB
        go_wp2_with fail
        refine (alive_rep (HDA.out.rep 2 _ rfl)).mono ?_
        rintro e wB ⟨rfl, hwB⟩
        subst hwB
        go_wp2_with fail
        refine (alive_rep (HDA.out.rep 0 _ rfl)).mono ?_
        rintro e wB ⟨rfl, hwB⟩
        subst hwB
        obtain ⟨q0, q1, q2⟩ := HBX.out _ HDA.out.bel
        have HKn : Hid (∀ k, wB.heap.size ≤ k → K2 k = 0) := fun k hk => (HDA.out.rep 2 _ rfl).zero hk
        go_wp2_with fail
        refine (choice_any cs rest (.slice asec sec.length csec) sec _ (HSI.out.below HDA.out.bel) hr).mono ?_
        rintro e wC ⟨bd, rfl, hsd, hbd, hbC⟩
        have HDC := hide (HDA.out.below hbC)
        have HI6g := hide (HI6f.out.below hbC (Nat.le_refl _))
        have HSd := hide hsd
        have HRd : Hid (Role K2 (.slice (some ⟨bd, 0, none⟩) sec.length sec.length) 0) := fun q hq => by simp [Value.ownBlock] at hq; rw [← hq]; exact HKn.out bd hbd
        have HIN : Hid (Inv (stNew O st.cap)) := (Run.new O st.cap hcap hOl).inv
        have HRi : Hid (Role K2 (.slice a6 O.length c6) 0) := fun q hq => (HD5.out.rep 2 _ rfl).zero (HI6g.out.lt q hq).1
        clear hsd hbd hbC q0 q1 q2
        go_wp2_with fail
        refine (dcrash_herd 2 cs rest HDC.out rfl HIN.out HSd.out HRd.out).mono ?_
        rintro e wD ⟨g4, K4, rfl, hHD, hFD⟩
        rw [outcomeL_new O st.cap hcap hOl] at hHD
        have HDD : Hid (Herd W wD [(K, g, .inl { st with dead := true }), (KR, gr, .inr { rs with live := false }), (K2, g2, .inl { stNew O st.cap with dead := true }), (K3, g3, .inr (rsNew O st.cap)), (K4, g4, .inl (stNew O (stNew O st.cap).cap))]) := hHD
        have HI6h := hide (HI6g.out.fr HRi.out hFD).1
        clear hHD hFD
        go_wp2_with fail
        refine (image_rep (HDD.out.rep 4 _ rfl) (by exact Nat.le_trans hOl hcap)).mono ?_
        rintro e wE ⟨aE, cE, rfl, hoE, hbE⟩
        have HDE := hide (HDD.out.below hbE)
        have HIE : Hid (OB wE wD.heap.size (.slice aE O.length cE) O) := hoE
        have HI6i := hide (HI6h.out.below hbE (Nat.le_refl _))
        clear hoE hbE
        go_wp2_with fail
        refine (same_any _ _ O O _ HIE.out.sb HI6i.out.sb).mono ?_
        rintro e wF ⟨rfl, nF, hwF⟩
        rw [eqB_self]
        have hbF : Below wE.heap.size wE wF := by rw [hwF]; exact below_drewN (Below.refl _ _) _
        have HDF := hide (HDE.out.below hbF)
        clear hbF hwF
        go_wp2
        go_ret
        exact ⟨rfl, HB0.out.trans (HDF.out.bel.mono HB0.out.size)⟩
end Go.Proofs.Yteiajeeincapoac
