import Derived.Test.YthlbmpmbbdaboabTrn
namespace Go.Proofs.Ythlbmpmbbdaboab
open Go.RowKit Go.Maps
set_option maxRecDepth 20000

theorem ft_zero (l syms : List Int) : ft l syms 0 = [] := by simp [ft, kep, flat]

/-- The two pairs and the two writers after some symbols. -/
def T1 (W : World) (e1 e2 d1 d2 u v : Nat) (l1 l2 syms : List Int) (k : Nat) (wr : World) : Prop :=
  ∃ K0 K1 K2 K3 K4 K5, Herd W wr [(K0, te e1 l1), (K1, te e2 l2), (K2, td d1 l1), (K3, td d2 l2), (K4, tw u (ft l1 syms k)), (K5, tw v (ft l2 syms k))]

set_option maxHeartbeats 8000000 in
theorem turns_yes (v1 v2 v3 : Value) (l1 l2 syms : List Int) (w : World) (h1 : SI w v1 l1) (h2 : SI w v2 l2) (h3 : SI w v3 syms) (hr1 : l1.length ≤ 17592186043904) (hr2 : l2.length ≤ 17592186043904) (hi64 : ∀ x ∈ syms, -9223372036854775808 ≤ x ∧ x ≤ 9223372036854775807) (hd1 : dcE l1 = 0) (hd2 : dcE l2 = 0) (hsl : syms.length ≤ 16777216) :
    Calls Try.prog 4 #[v1, v2, v3] w fun e w' => e = .returned (.bool true) ∧ Below w.heap.size w w' := by
  have HS1 := hide h1
  have HS2 := hide h2
  have HU := hide h3
  obtain ⟨ao1, cap1, rfl, _, _⟩ := h1.open
  obtain ⟨ao2, cap2, rfl, _, _⟩ := h2.open
  obtain ⟨ao3, cap3, rfl, hlc3, hcm3⟩ := h3.open
  clear h1 h2 h3
  have HD1 := hide hd1
  have HD2 := hide hd2
  have HL1 := hide (dcE_zero hd1).1
  have HL2 := hide (dcE_zero hd2).1
  have HBK1 := hide (dc_bk hd1)
  have HBK2 := hide (dc_bk hd2)
  have HI64 := hide hi64
  clear hd1 hd2 hi64
  have hle : ¬ (16777216 : Int) < syms.length := by omega
  go_enter Try.func4, Try.ntmps4
  go_wp2_with fail
  refine (icopied_any _ l1 _ HS1.out hr1).mono ?_
  rintro e w1 ⟨a1, rfl, ho1, hb1⟩
  have HO1 := hide ho1.sb
  have HH1 := hide ((Herd.nil w).below hb1)
  clear hb1 ho1
  go_wp2_with fail
  refine (hencode HH1.out _ l1 HO1.out).mono ?_
  rintro e w2 (⟨h0, _⟩ | ⟨_, e1, K0, rfl, h2⟩)
  · exact absurd HBK1.out h0
  have HH2 : Hid (Herd w w2 [(K0, te e1 l1)]) := h2
  have HT2 := hide (HS2.out.below h2.bel)
  clear h2
  go_wp2_with fail
  refine (icopied_any _ l2 _ HT2.out hr2).mono ?_
  rintro e w3 ⟨a3, rfl, ho3, hb3⟩
  have HH3 := hide (HH2.out.below hb3)
  have HO3 := hide ho3.sb
  clear hb3 ho3
  go_wp2_with fail
  refine (hencode HH3.out _ l2 HO3.out).mono ?_
  rintro e w4 (⟨h0, _⟩ | ⟨_, e2, K1, rfl, h4⟩)
  · exact absurd HBK2.out h0
  have HH4 : Hid (Herd w w4 [(K0, te e1 l1), (K1, te e2 l2)]) := h4
  have HT4 := hide (HS1.out.below h4.bel)
  clear h4
  go_wp2_with fail
  refine (icopied_any _ l1 _ HT4.out hr1).mono ?_
  rintro e w5 ⟨a5, rfl, ho5, hb5⟩
  have HH5 := hide (HH4.out.below hb5)
  have HO5 := hide ho5.sb
  clear hb5 ho5
  go_wp2_with fail
  refine (hdecode HH5.out _ l1 HO5.out).mono ?_
  rintro e w6 (⟨h0, _⟩ | ⟨_, d1, K2, rfl, h6⟩)
  · exact absurd HD1.out h0
  have HH6 : Hid (Herd w w6 [(K0, te e1 l1), (K1, te e2 l2), (K2, td d1 l1)]) := h6
  have HT6 := hide (HS2.out.below h6.bel)
  clear h6
  go_wp2_with fail
  refine (icopied_any _ l2 _ HT6.out hr2).mono ?_
  rintro e w7 ⟨a7, rfl, ho7, hb7⟩
  have HH7 := hide (HH6.out.below hb7)
  have HO7 := hide ho7.sb
  clear hb7 ho7
  go_wp2_with fail
  refine (hdecode HH7.out _ l2 HO7.out).mono ?_
  rintro e w8 (⟨h0, _⟩ | ⟨_, d2, K3, rfl, h8⟩)
  · exact absurd HD2.out h0
  have HH8 : Hid (Herd w w8 [(K0, te e1 l1), (K1, te e2 l2), (K2, td d1 l1), (K3, td d2 l2)]) := h8
  clear h8 HH1 HH2 HH3 HH4 HH5 HH6 HH7 HO1 HO3 HO5 HO7 HT2 HT4 HT6
  go_wp2_with fail
  refine (num_any _ _).mono ?_
  rintro e wx ⟨rfl, rfl⟩
  go_wp2_with fail
  refine (num_any _ _).mono ?_
  rintro e wx ⟨rfl, rfl⟩
  go_wp2_with fail
  refine (hnewW HH8.out).mono ?_
  rintro e w10 ⟨u, K4, rfl, h10⟩
  have HH10 : Hid (Herd w w10 [(K0, te e1 l1), (K1, te e2 l2), (K2, td d1 l1), (K3, td d2 l2), (K4, tw u [])]) := h10
  clear h10
  go_wp2_with fail
  refine (hnewW HH10.out).mono ?_
  rintro e w11 ⟨v, K5, rfl, h11⟩
  have HT0 : Hid (T1 w e1 e2 d1 d2 u v l1 l2 syms 0 w11) := ⟨K0, K1, K2, K3, K4, K5, by rw [ft_zero, ft_zero]; exact h11⟩
  clear h11 HH8 HH10
  go_wp2_with fail
  refine (num_any _ _).mono ?_
  rintro e wx ⟨rfl, rfl⟩
  go_wp2_with fail
  refine (num_any _ _).mono ?_
  rintro e wx ⟨rfl, rfl⟩
  go_wp2
  go_loopw [19] (fun i wr => ∃ k : Nat, k ≤ syms.length ∧ i = .int .i64 k ∧ Hid (T1 w e1 e2 d1 d2 u v l1 l2 syms k wr)) (fun i _ => syms.length - (intOf i).toNat)
  case atStart => exact ⟨0, Nat.zero_le _, rfl, HT0⟩
  case round =>
    clear HT0
    obtain ⟨k, hk, rfl, HT⟩ := hrel
    by_cases hlt : k < syms.length
    · have hlt' : (k : Int) < (syms.length : Int) := by omega
      obtain ⟨K0', K1', K2', K3', K4', K5', hh⟩ := HT.out
      have HHk := hide hh
      clear hh HT
      obtain ⟨s, HSy⟩ : ∃ s, Hid (syms.getD k 0 = s) := ⟨_, rfl⟩
      obtain ⟨bu, ou, hau, hcu⟩ := HU.out.get HHk.out.bel hlt
      subst hau
      rw [HSy.out] at hcu
      obtain ⟨hs0, hs1⟩ := HI64.out s (by rw [← HSy.out]; exact getD_mem hlt)
      have HP1 : Hid (epR l1 (ft l1 syms k) s = ft l1 syms (k + 1)) := by
        show _ = _
        rw [← HSy.out]; exact ft_put HL1.out hlt hsl
      have HP2 : Hid (epR l2 (ft l2 syms k) s = ft l2 syms (k + 1)) := by
        show _ = _
        rw [← HSy.out]; exact ft_put HL2.out hlt hsl
      go_wp2_with fail
      refine (heput HHk.out 0 4 rfl rfl s hs0 hs1).mono ?_
      rintro e w20 ⟨rfl, K6, h20⟩
      rw [HP1.out] at h20
      have H20 : Hid (Herd w w20 [(K0', te e1 l1), (K1', te e2 l2), (K2', td d1 l1), (K3', td d2 l2), (K6, tw u (ft l1 syms (k + 1))), (K5', tw v (ft l2 syms k))]) := h20
      obtain ⟨bu2, ou2, hau2, hcu2⟩ := HU.out.get h20.bel hlt
      simp only [Option.some.injEq, Addr.mk.injEq, and_true] at hau2
      obtain ⟨hq1, hq2⟩ := hau2
      subst hq1
      subst hq2
      rw [HSy.out] at hcu2
      clear h20 hcu
      obtain ⟨x1, HX1⟩ : ∃ x, Hid (x = epE l1 (ft l1 syms k) s) := ⟨_, rfl⟩
      rw [← HX1.out]
      go_wp2_with fail
      refine (heput H20.out 1 5 rfl rfl s hs0 hs1).mono ?_
      rintro e w21 ⟨rfl, K7, h21⟩
      rw [HP2.out] at h21
      have HN : Hid (T1 w e1 e2 d1 d2 u v l1 l2 syms (k + 1) w21) := ⟨K0', K1', K2', K3', K6, K7, h21⟩
      clear h21 H20 HHk hcu2
      obtain ⟨x2, HX2⟩ : ∃ x, Hid (x = epE l2 (ft l2 syms k) s) := ⟨_, rfl⟩
      rw [← HX2.out]
      go_wp2
      go_roundw
      case rel => exact ⟨k + 1, by omega, by go_num, HN⟩
      case measure => simp [intOf]; omega
    · obtain rfl : k = syms.length := by omega
      have hlt' : ¬ (syms.length : Int) < (syms.length : Int) := by omega
      obtain ⟨K0', K1', K2', K3', K4', K5', hh⟩ := HT.out
      have hB1 := hh.bit 4 rfl
      have hB2 := hh.bit 5 rfl
      obtain ⟨R1, HR1⟩ : ∃ R, Hid (R = ft l1 syms syms.length) := ⟨_, rfl⟩
      obtain ⟨R2, HR2⟩ : ∃ R, Hid (R = ft l2 syms syms.length) := ⟨_, rfl⟩
      rw [← HR1.out] at hh hB1
      rw [← HR2.out] at hh hB2
      obtain ⟨Z1, HZ1⟩ : ∃ Z, Hid (pad R1 = R1 ++ Z) := ⟨_, rfl⟩
      obtain ⟨Z2, HZ2⟩ : ∃ Z, Hid (pad R2 = R2 ++ Z) := ⟨_, rfl⟩
      have hup1 := unpack_pack hB1.1
      have hpl1 := length_pack hB1.1
      have hup2 := unpack_pack hB2.1
      have hpl2 := length_pack hB2.1
      have HPB1 : Hid (Bit (R1 ++ Z1)) := by rw [← HZ1.out]; exact bit_pad hB1.1
      have HPB2 : Hid (Bit (R2 ++ Z2)) := by rw [← HZ2.out]; exact bit_pad hB2.1
      have hP1 : (pack R1).length ≤ 33554432 := by rw [hpl1]; have := hB1.2; omega
      have hP2 : (pack R2).length ≤ 33554432 := by rw [hpl2]; have := hB2.2; omega
      obtain ⟨P1, HP1⟩ : ∃ P, Hid (P = pack R1) := ⟨_, rfl⟩
      obtain ⟨P2, HP2⟩ : ∃ P, Hid (P = pack R2) := ⟨_, rfl⟩
      rw [← HP1.out] at hup1 hP1
      rw [← HP2.out] at hup2 hP2
      have HUP1 := hide hup1
      have HUP2 := hide hup2
      have HHk := hide hh
      clear hh HT hup1 hup2 hpl1 hpl2 hB1 hB2
      go_wp2_with fail
      refine (hbytes HHk.out 4 rfl).mono ?_
      rintro e w21 ⟨a21, c21, K21, rfl, h21⟩
      rw [← HP1.out] at h21 ⊢
      have H21 : Hid (Herd w w21 [(K0', te e1 l1), (K1', te e2 l2), (K2', td d1 l1), (K3', td d2 l2), (K4', tw u R1), (K5', tw v R2), (K21, tl (.slice a21 P1.length c21) P1)]) := h21
      clear h21
      go_wp2_with fail
      refine (hnewR H21.out _ P1 (H21.out.sb 6 rfl) HUP1.out.2 hP1).mono ?_
      rintro e w22 ⟨rg, Kr, rfl, h22⟩
      rw [HUP1.out.1, HZ1.out] at h22
      have H22 : Hid (Herd w w22 [(K0', te e1 l1), (K1', te e2 l2), (K2', td d1 l1), (K3', td d2 l2), (K4', tw u R1), (K5', tw v R2), (K21, tl (.slice a21 P1.length c21) P1), (Kr, tr rg (R1 ++ Z1) 0)]) := h22
      clear h22
      go_wp2_with fail
      refine (hbytes H22.out 5 rfl).mono ?_
      rintro e w23 ⟨a23, c23, K23, rfl, h23⟩
      rw [← HP2.out] at h23 ⊢
      have H23 : Hid (Herd w w23 [(K0', te e1 l1), (K1', te e2 l2), (K2', td d1 l1), (K3', td d2 l2), (K4', tw u R1), (K5', tw v R2), (K21, tl (.slice a21 P1.length c21) P1), (Kr, tr rg (R1 ++ Z1) 0), (K23, tl (.slice a23 P2.length c23) P2)]) := h23
      clear h23
      go_wp2_with fail
      refine (hnewR H23.out _ P2 (H23.out.sb 8 rfl) HUP2.out.2 hP2).mono ?_
      rintro e w24 ⟨qg, Kq, rfl, h24⟩
      rw [HUP2.out.1, HZ2.out] at h24
      have H24 : Hid (Herd w w24 [(K0', te e1 l1), (K1', te e2 l2), (K2', td d1 l1), (K3', td d2 l2), (K4', tw u R1), (K5', tw v R2), (K21, tl (.slice a21 P1.length c21) P1), (Kr, tr rg (R1 ++ Z1) (ft l1 syms 0).length), (K23, tl (.slice a23 P2.length c23) P2), (Kq, tr qg (R2 ++ Z2) (ft l2 syms 0).length)]) := by
        rw [ft_zero, ft_zero]; exact h24
      clear h24 H21 H22 H23 HHk
      go_wp2
      go_loopw [22] (fun i wr => ∃ k : Nat, k ≤ syms.length ∧ i = .int .i64 k ∧ Hid (Herd w wr [(K0', te e1 l1), (K1', te e2 l2), (K2', td d1 l1), (K3', td d2 l2), (K4', tw u R1), (K5', tw v R2), (K21, tl (.slice a21 P1.length c21) P1), (Kr, tr rg (R1 ++ Z1) (ft l1 syms k).length), (K23, tl (.slice a23 P2.length c23) P2), (Kq, tr qg (R2 ++ Z2) (ft l2 syms k).length)])) (fun i _ => syms.length - (intOf i).toNat)
      case atStart => exact ⟨0, Nat.zero_le _, rfl, H24⟩
      case round =>
        clear H24
        obtain ⟨k, hk2, rfl, HT⟩ := hrel
        by_cases hlt2 : k < syms.length
        · have hlt2' : (k : Int) < (syms.length : Int) := by omega
          obtain ⟨s, HSy⟩ : ∃ s, Hid (syms.getD k 0 = s) := ⟨_, rfl⟩
          obtain ⟨bu, ou, hau, hcu⟩ := HU.out.get HT.out.bel hlt2
          subst hau
          rw [HSy.out] at hcu
          obtain ⟨hs0, hs1⟩ := HI64.out s (by rw [← HSy.out]; exact getD_mem hlt2)
          have HN1 : Hid (lnI l1 s ≠ 0 → nxE l1 (R1 ++ Z1) (ft l1 syms k).length = 0 ∧ ((nxS l1 (R1 ++ Z1) (ft l1 syms k).length : Nat) : Int) = s ∧ nxP l1 (R1 ++ Z1) (ft l1 syms k).length = (ft l1 syms (k + 1)).length) := fun hn => by
            have hb := HPB1.out
            rw [HR1.out] at hb ⊢
            rw [← HSy.out] at hn ⊢
            exact ft_read HD1.out hb hlt2 hn
          have HN2 : Hid (lnI l2 s ≠ 0 → nxE l2 (R2 ++ Z2) (ft l2 syms k).length = 0 ∧ ((nxS l2 (R2 ++ Z2) (ft l2 syms k).length : Nat) : Int) = s ∧ nxP l2 (R2 ++ Z2) (ft l2 syms k).length = (ft l2 syms (k + 1)).length) := fun hn => by
            have hb := HPB2.out
            rw [HR2.out] at hb ⊢
            rw [← HSy.out] at hn ⊢
            exact ft_read HD2.out hb hlt2 hn
          have HM1 : Hid (lnI l1 s = 0 → (ft l1 syms (k + 1)).length = (ft l1 syms k).length) := fun hn => by
            rw [← HSy.out] at hn
            rw [ft_no hlt2 hn]
          have HM2 : Hid (lnI l2 s = 0 → (ft l2 syms (k + 1)).length = (ft l2 syms k).length) := fun hn => by
            rw [← HSy.out] at hn
            rw [ft_no hlt2 hn]
          go_wp2_with fail
          refine (hreads HT.out 2 7 0 rfl rfl rfl s hs0 hs1 _ HM1.out HN1.out).mono ?_
          rintro e w25 ⟨rfl, h25⟩
          have H25 : Hid (Herd w w25 [(K0', te e1 l1), (K1', te e2 l2), (K2', td d1 l1), (K3', td d2 l2), (K4', tw u R1), (K5', tw v R2), (K21, tl (.slice a21 P1.length c21) P1), (Kr, tr rg (R1 ++ Z1) (ft l1 syms (k + 1)).length), (K23, tl (.slice a23 P2.length c23) P2), (Kq, tr qg (R2 ++ Z2) (ft l2 syms k).length)]) := h25
          obtain ⟨bu2, ou2, hau2, hcu2⟩ := HU.out.get h25.bel hlt2
          simp only [Option.some.injEq, Addr.mk.injEq, and_true] at hau2
          obtain ⟨hq1, hq2⟩ := hau2
          subst hq1
          subst hq2
          rw [HSy.out] at hcu2
          clear h25 hcu HT
          go_wp2_with fail
          refine (hreads H25.out 3 9 1 rfl rfl rfl s hs0 hs1 _ HM2.out HN2.out).mono ?_
          rintro e w26 ⟨rfl, h26⟩
          have H26 : Hid (Herd w w26 [(K0', te e1 l1), (K1', te e2 l2), (K2', td d1 l1), (K3', td d2 l2), (K4', tw u R1), (K5', tw v R2), (K21, tl (.slice a21 P1.length c21) P1), (Kr, tr rg (R1 ++ Z1) (ft l1 syms (k + 1)).length), (K23, tl (.slice a23 P2.length c23) P2), (Kq, tr qg (R2 ++ Z2) (ft l2 syms (k + 1)).length)]) := h26
          clear h26 H25 hcu2
          go_wp2
          go_roundw
          case rel => exact ⟨k + 1, by omega, by go_num, H26⟩
          case measure => simp [intOf]; omega
        · obtain rfl : k = syms.length := by omega
          have hlt2' : ¬ (syms.length : Int) < (syms.length : Int) := by omega
          have HTT := HT.out
          rw [← HR1.out, ← HR2.out] at HTT
          have H30 := hide HTT
          clear HT HTT
          go_wp2_with fail
          refine (hat H30.out 7 rfl).mono ?_
          rintro e w27 ⟨rfl, h27⟩
          have H27 := hide h27
          clear h27
          go_wp2_with fail
          refine (hlen H27.out 4 rfl).mono ?_
          rintro e w28 ⟨rfl, h28⟩
          have H28 := hide h28
          clear h28
          go_wp2_with fail
          refine (hat H28.out 9 rfl).mono ?_
          rintro e w29 ⟨rfl, h29⟩
          have H29 := hide h29
          clear h29
          go_wp2_with fail
          refine (hlen H29.out 5 rfl).mono ?_
          rintro e w30 ⟨rfl, h30⟩
          have HFB := hide h30.bel
          clear h30
          go_wp2
          go_ret
          exact ⟨by first | rfl | simp, HFB.out⟩

theorem turns_walk (v1 v2 v3 : Value) (l1 l2 syms : List Int) (w : World) (h1 : SI w v1 l1) (h2 : SI w v2 l2) (h3 : SI w v3 syms) (hr1 : l1.length ≤ 17592186043904) (hr2 : l2.length ≤ 17592186043904) (hi64 : ∀ x ∈ syms, -9223372036854775808 ≤ x ∧ x ≤ 9223372036854775807) :
    Calls Try.prog 4 #[v1, v2, v3] w fun e w' => e = .returned (.bool true) ∧ Below w.heap.size w w' := by
  by_cases hd : dcE l1 = 0 ∧ dcE l2 = 0 ∧ syms.length ≤ 16777216
  · exact turns_yes v1 v2 v3 l1 l2 syms w h1 h2 h3 hr1 hr2 hi64 hd.1 hd.2.1 hd.2.2
  · exact turns_no v1 v2 v3 l1 l2 syms w h1 h2 h3 hr1 hr2 hd
end Go.Proofs.Ythlbmpmbbdaboab
