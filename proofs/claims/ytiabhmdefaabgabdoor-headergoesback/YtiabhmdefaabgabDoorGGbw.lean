import Derived.Test.YtiabhmdefaabgabDoorGSnd
namespace Go.Proofs.YtiabhmdefaabgabDoor
open Go.RowKit Go.Maps
set_option maxRecDepth 20000
set_option linter.unusedVariables false

theorem SI.drw {w : World} {v : Value} {l : List Int} (h : SI w v l) (n : Nat) : SI (w.drewN n) v l := h.below (below_drewN (Below.refl _ _) n)

/-- Raw of a list that lay there ahead of all. -/
theorem hrawW {W w : World} {xs : List ((Nat → Nat) × Thing)} (H : Herd W w xs) (i : Nat) {K : Nat → Nat} {g : Nat} {row : List Int} (hi : xs[i]? = some (K, tw g row)) (u : Value) (l : List Int) (hB : Byt l) (hS : SB W u l) :
    Calls Tryd.prog 26 #[.pointer (some ⟨g, 0, none⟩), u] w fun e w' => e = .returned (.int .i64 (rawE row l)) ∧ ∃ K', Herd W w' (xs.set i (K', tw g (rawRow row l))) := by
  have hw : Wp w K g row := H.rep i _ hi
  refine (wraw_any hw u l hB (fun wr K1 hF => hS.move fun a x ha hb => ?_)).mono ?_
  · have hl := World.block_lt_of_cell? W a ha
    have hz : K a.block = 0 := Classical.byContradiction fun q => by have := H.up i _ hi a.block q; omega
    rw [World.cell?_of_block (w := W) ((hF.block a.block (Nat.lt_of_lt_of_le hl H.bel.size) hz).trans (H.bel.block a.block hl))]
    exact ha
  · rintro e w1 ⟨rfl, K', h1, h2⟩
    exact ⟨rfl, K', H.op i hi (x' := tw g (rawRow row l)) h1 h2⟩

theorem gb_row {l d t : List Int} {f : Int} {m : Nat} (h : mkE l d = 0) (hb : Bit (pad (bts f m ++ mkB l d) ++ unpack t)) :
    rdA (unpack (pack (pad (bts f m ++ mkB l d) ++ unpack t))) m = (0, mkL l, mkD d, m + (mkB l d).length) := by
  rw [(unpack_pack hb).1]
  have h2 := bit_pad hb
  refine rd_back h h2 (rest := List.replicate (((bts f m ++ mkB l d).length + 7) / 8 * 8 - (bts f m ++ mkB l d).length) 0 ++ unpack t ++ List.replicate (((pad (bts f m ++ mkB l d) ++ unpack t).length + 7) / 8 * 8 - (pad (bts f m ++ mkB l d) ++ unpack t).length) 0) ?_
  have e : pad (pad (bts f m ++ mkB l d) ++ unpack t) = bts f m ++ (mkB l d ++ (List.replicate (((bts f m ++ mkB l d).length + 7) / 8 * 8 - (bts f m ++ mkB l d).length) 0 ++ unpack t ++ List.replicate (((pad (bts f m ++ mkB l d) ++ unpack t).length + 7) / 8 * 8 - (pad (bts f m ++ mkB l d) ++ unpack t).length) 0)) := by
    simp only [pad, List.append_assoc]
  rw [e]
  exact List.drop_left' (length_bts f m)

set_option maxHeartbeats 8000000 in
theorem headerGoesBack_walk (f n : Int) (v1 v2 v3 : Value) (l d t : List Int) (w : World) (s1 : SI w v1 l) (s2 : SI w v2 d) (s3 : SB w v3 t) (hby : Byt t) (hf0 : 0 ≤ f) (hf1 : f < 4294967296) (hn0 : -9223372036854775808 ≤ n) (hn1 : n ≤ 9223372036854775807) (T : Tab w) (O : Odr w) :
    Calls Tryd.prog 8 #[.int .u32 f, .int .i64 n, v1, v2, v3] w fun e w' => e = .returned (.bool true) ∧ Below w.heap.size w w' := by
  have H1 := hide s1
  have H2 := hide s2
  have H3 := hide s3
  have HBY := hide hby
  have HT := hide T
  have HO := hide O
  have HVD := hide (verdict_any _ _ l d w s1 s2)
  rw [← vd_mk] at HVD
  obtain ⟨a1, c1, rfl, -, -⟩ := s1.open
  obtain ⟨a2, c2, rfl, -, -⟩ := s2.open
  obtain ⟨a3, c3, hv3, hc3, hd3, -, -⟩ := s3
  subst hv3
  unfold maxLen at hd3
  clear s1 s2 hby T O
  obtain ⟨E, HE⟩ : ∃ E, Hid (E = mkE l d) := ⟨_, rfl⟩
  rw [← HE.out] at HVD
  go_enter Tryd.func8, Tryd.ntmps8
  go_wp2_with fail
  refine HVD.out.mono ?_
  rintro e w1 ⟨rfl, hw1⟩
  rw [hw1]
  clear hw1
  by_cases e0 : E = 0
  case neg =>
    have e0' : (E != 0) = true := by simpa using e0
    go_wp2
    go_ret
    exact ⟨rfl, Below.refl _ _⟩
  subst e0
  by_cases g1 : n < 0
  · have g1' : decide (n < 0) = true := decide_eq_true g1
    go_wp2
    go_ret
    exact ⟨rfl, Below.refl _ _⟩
  by_cases g2 : 32 < n
  · have g1' : decide (n < 0) = false := decide_eq_false g1
    go_wp2
    go_ret
    exact ⟨rfl, Below.refl _ _⟩
  by_cases g3 : 1048576 < t.length
  · have g1' : decide (n < 0) = false := decide_eq_false g1
    have g2' : decide (32 < n) = false := decide_eq_false g2
    have g3' : (1048576 : Int) < (t.length : Int) := by omega
    go_wp2
    go_ret
    exact ⟨rfl, Below.refl _ _⟩
  have g3' : ¬ (1048576 : Int) < (t.length : Int) := by omega
  obtain ⟨m, rfl⟩ := Int.eq_ofNat_of_zero_le (show 0 ≤ n by omega)
  have hm : m ≤ 32 := by omega
  have hpw : (2 : Int) ^ m ≤ 4294967296 := by have := pow_le hm; have e : (2 : Int) ^ 32 = 4294967296 := by decide
                                              omega
  have hpp := pow_pos m
  by_cases hfit : 2 ^ m ≤ f
  · go_wp2
    go_ret
    exact ⟨rfl, Below.refl _ _⟩
  have hfit' : f < 2 ^ m := by omega
  have HM0 : Hid (mkE l d = 0) := HE.out.symm
  have HFA := hide (mk_facts HM0.out)
  have hl1 := HFA.out.1
  have hl2 := HFA.out.2.1
  have HI1 : Hid (∀ W', Below w.heap.size w W' → Calls Tryd.prog 11 #[.slice a1 l.length c1] W' fun e w' => e = .returned (.slice (some ⟨W'.heap.size, 0, none⟩) l.length l.length) ∧ OI w' W'.heap.size (.slice (some ⟨W'.heap.size, 0, none⟩) l.length l.length) l ∧ Below W'.heap.size W' w') := fun W' hW' => (ints_any _ l W' (H1.out.below hW') (by omega)).mono fun e w' ⟨v', he, hv, ho, hb⟩ => by subst hv; exact ⟨he, ho, hb⟩
  have HI2 : Hid (∀ W', Below w.heap.size w W' → Calls Tryd.prog 11 #[.slice a2 d.length c2] W' fun e w' => e = .returned (.slice (some ⟨W'.heap.size, 0, none⟩) d.length d.length) ∧ OI w' W'.heap.size (.slice (some ⟨W'.heap.size, 0, none⟩) d.length d.length) d ∧ Below W'.heap.size W' w') := fun W' hW' => (ints_any _ d W' (H2.out.below hW') (by omega)).mono fun e w' ⟨v', he, hv, ho, hb⟩ => by subst hv; exact ⟨he, ho, hb⟩
  clear g1 g2 g3 hn0 hn1
  go_wp2_with fail
  refine (HI1.out w (Below.refl _ _)).mono ?_
  rintro e w2 ⟨rfl, o2, b2⟩
  have HO2 := hide o2
  have HB2 := hide b2
  clear o2 b2
  go_wp2_with fail
  refine (HI2.out w2 HB2.out).mono ?_
  rintro e w3 ⟨rfl, o3, b3⟩
  have HB3 := hide (HB2.out.trans (b3.mono HB2.out.size))
  have HMK := hide (make_any _ _ l d w3 (HO2.out.below b3 (Nat.le_refl _)).sb o3.sb (HT.out.mono HB3.out) (HO.out.mono HB3.out))
  clear o3 b3
  go_wp2_with fail
  refine HMK.out.mono ?_
  rintro e w4 ⟨hyn, b4⟩
  rcases hyn with ⟨hne, _⟩ | ⟨_, vL, vD, vC, vR, rfl, hmk⟩
  · exact absurd HM0.out hne
  obtain ⟨aL, cL, rfl⟩ := hmk.l.shape
  obtain ⟨aD, cD, rfl⟩ := hmk.d.shape
  obtain ⟨aC, cC, rfl⟩ := hmk.c.shape
  obtain ⟨aR, cR, rfl, -, -⟩ := hmk.r.shape
  have HB4 := hide (HB3.out.trans (b4.mono HB3.out.size))
  obtain ⟨wb, hwb⟩ : ∃ wb, w4.alloc (.cells #[.slice aL (mkL l).length cL, .slice aD (mkD d).length cD, .slice aC (mkC l d).length cC, .slice aR (mkR l d).length cR, .int .i64 (mkZ l d)] 26) = wb := ⟨_, rfl⟩
  have bb : Below w4.heap.size w4 wb := by rw [← hwb]; exact (Below.refl _ _).alloc (Nat.le_refl _) _
  have hbx : Hbox wb w4.heap.size (.slice aL (mkL l).length cL) (.slice aD (mkD d).length cD) (.slice aC (mkC l d).length cC) (.slice aR (mkR l d).length cR) (.int .i64 (mkZ l d)) := by rw [← hwb]; exact heap_alloc_new w4 _
  have HBX := hide hbx
  have HB7 := hide (HB4.out.trans (bb.mono HB4.out.size))
  have HM7 := hide (hmk.below bb)
  have HTb := hide (HT.out.mono HB7.out)
  have HOb := hide (HO.out.mono HB7.out)
  have HNW := hide (hnewW (Herd.nil wb))
  have HWB := hide hwb
  have hZ := (mkB_len HM0.out).1
  have hZ2 := (mkB_len HM0.out).2
  obtain ⟨Z, HZ⟩ : ∃ Z, Hid (Z = mkZ l d) := ⟨_, rfl⟩
  rw [← HZ.out] at HBX hZ ⊢
  rw [← HZ.out] at HWB
  clear hwb bb hbx hmk b4 HMK HVD HFA HB2 HO2
  go_wp2_with fail
  rw [HWB.out]
  refine HNW.out.mono ?_
  rintro e w5 ⟨g, K5, rfl, h5⟩
  have hpk : putOk ([] : List Int) f (m : Nat) := ⟨⟨⟨by omega, by omega⟩, by rw [Int.toNat_natCast]; exact hfit'⟩, by simp; omega⟩
  have HPT := hide (hput_ok (h5.drewN 1) 0 rfl f (m : Nat) hpk hf0 hf1)
  rw [Int.toNat_natCast, List.nil_append] at HPT
  have HPUT : Hid (Calls Tryd.prog 24 #[.pointer (some ⟨g, 0, none⟩), .int .u32 f, .int .i64 (m : Nat)] w5.drew fun e w' => e = .returned (.int .i64 0) ∧ ∃ K', Herd wb w' [(K', tw g (bts f m))]) := HPT
  have HWF := hide (wr_facts (l := l) (d := d) (row := bts f m) (by rw [length_bts]; omega))
  have hln : ((bts f m ++ mkB l d).length : Int) = (m : Int) + Z := by rw [List.length_append, length_bts]; omega
  have hwz : IntKind.i64.wrap ((m : Int) + Z) = (m : Int) + Z := by rw [IntKind.wrap_i64]; omega
  clear h5 hpk HPT HNW
  go_wp2
  go_region_with (first
    | (go_at_call 24
       with_reducible refine HPUT.out.mono ?_
       rintro e w6 ⟨rfl, K6, h6⟩
       have HX6 := hide h6
       have HBW6 := hide (HB7.out.trans (h6.bel.mono HB7.out.size))
       clear h6)
    | (go_at_call 11
       first
       | (with_reducible refine (HI1.out w6 HBW6.out).mono ?_
          rintro e w7 ⟨rfl, o7, b7⟩
          have HX7 := hide (HX6.out.below b7)
          have HO7 := hide o7
          have HBW7 := hide (HBW6.out.trans (b7.mono HBW6.out.size))
          clear o7 b7)
       | (with_reducible refine (HI2.out w7 HBW7.out).mono ?_
          rintro e w8 ⟨rfl, o8, b8⟩
          have HX8 := hide (HX7.out.below b8)
          have HW8 := hide (hwrite HX8.out 0 rfl _ _ l d (HO7.out.below b8 (Nat.le_refl _)).sb o8.sb HTb.out HOb.out)
          rw [HWF.out.1, HWF.out.2.1 HM0.out, HM0.out] at HW8
          clear o8 b8))
    | (go_at_call 13
       with_reducible refine HW8.out.mono ?_
       rintro e w9 ⟨rfl, K9, h9⟩
       have HX9 : Hid (Herd wb w9 [(K9, tw g (bts f m ++ mkB l d))]) := h9
       have HL9 := hide (hlen HX9.out 0 rfl)
       rw [hln] at HL9
       have y9 := (HBX.out.below h9.bel).cells.2.2.2.2
       clear h9)
    | (go_at_call 15
       with_reducible refine HL9.out.mono ?_
       rintro e w10 ⟨rfl, h10⟩
       have HX10 := hide h10
       have y10 := (HBX.out.below h10.bel).cells.2.2.2.2
       clear h10))
  all_goals
    obtain ⟨R, HR⟩ : ∃ R, Hid (R = bts f m ++ mkB l d) := ⟨_, rfl⟩
    rw [← HR.out] at HX10
    have hRl : R.length ≤ 11000 := by rw [HR.out, List.length_append, length_bts]; omega
    have HAL := hide (halign HX10.out 0 rfl)
    have HZZ : Hid (((mkB l d).length : Int) = Z) := hZ
    have HMM := hide hm
    have HWZ := hide hwz
    have HGT : Hid ((t.length : Int) ≤ 1048576) := by show _ ≤ _; omega
    have hRm : m ≤ R.length ∧ m + (mkB l d).length = R.length := by rw [HR.out, List.length_append, length_bts]; exact ⟨by omega, rfl⟩
    have HRM := hide hRm
    have HRL := hide hRl
    clear HX6 HX7 HX8 HX9 HW8 HL9 y9 y10 hZ hZ2 hln hwz hpw hpp hfit hfit' hf0 hf1 hm hl1 hl2 hRm hRl HPUT HWF HI1 HI2 HBW6 HBW7 HE
    go_wp2_with fail
    refine HAL.out.mono ?_
    rintro e w11 ⟨rfl, K11, h11⟩
    have HX11 : Hid (Herd wb w11 [(K11, tw g (pad R))]) := h11
    have hpl := length_pad R
    have hRl := HRL.out
    have hgt := HGT.out
    have HRW := hide (hrawW h11 0 rfl _ t HBY.out (H3.out.below HB7.out))
    have e1 : rawE (pad R) t = 0 := by unfold rawE; rw [if_neg (by omega), if_neg (by omega)]
    have e2 : rawRow (pad R) t = pad R ++ unpack t := by unfold rawRow; rw [if_neg (by omega), if_neg (by omega)]
    rw [e1, e2] at HRW
    have HPL := hide hpl
    clear h11 e1 e2 HAL hpl hRl hgt
    go_wp2_with fail
    refine HRW.out.mono ?_
    rintro e w12 ⟨rfl, K12, h12⟩
    have HX12 : Hid (Herd wb w12 [(K12, tw g (pad R ++ unpack t))]) := h12
    have HBT := hide (HX12.out.bit 0 rfl).1
    have HBS := hide (hbytes HX12.out 0 rfl)
    have HRL2 : Hid ((pad R ++ unpack t).length ≤ 9000000) := by
      show _ ≤ _
      have hul := length_unpack t
      have := HPL.out
      have := HRL.out
      have := HGT.out
      rw [List.length_append]
      omega
    have HRL3 : Hid (m ≤ (unpack (pack (pad R ++ unpack t))).length) := by
      show _ ≤ _
      have hul := length_unpack t
      have := HPL.out
      have := HRM.out.1
      rw [(unpack_pack HBT.out).1, length_pad, List.length_append]
      omega
    clear h12 HRW
    go_wp2_with fail
    refine HBS.out.mono ?_
    rintro e w13 ⟨a13, c13, K13, rfl, h13⟩
    have HX13 : Hid (Herd wb w13 [(K12, tw g (pad R ++ unpack t)), (K13, tl (.slice a13 (pack (pad R ++ unpack t)).length c13) (pack (pad R ++ unpack t)))]) := h13
    have HNR := hide (hnewR HX13.out _ _ (HX13.out.sb 1 rfl) (unpack_pack HBT.out).2 (by rw [length_pack HBT.out]; have := HRL2.out; omega))
    clear h13 HBS
    go_wp2_with fail
    refine HNR.out.mono ?_
    rintro e w14 ⟨g14, K14, rfl, h14⟩
    have HX14 : Hid (Herd wb w14 [(K12, tw g (pad R ++ unpack t)), (K13, tl (.slice a13 (pack (pad R ++ unpack t)).length c13) (pack (pad R ++ unpack t))), (K14, tr g14 (unpack (pack (pad R ++ unpack t))) 0)]) := h14
    have HSK := hide (hskip HX14.out 2 rfl (m : Nat))
    obtain ⟨k1, k2⟩ := skip_ok (row := unpack (pack (pad R ++ unpack t))) (p := 0) (n := m) (by have := HRL3.out; omega)
    rw [k1, k2, Nat.zero_add] at HSK
    clear h14 HNR k1 k2
    go_wp2_with fail
    refine HSK.out.mono ?_
    rintro e w15 ⟨rfl, h15⟩
    have HX15 : Hid (Herd wb w15 [(K12, tw g (pad R ++ unpack t)), (K13, tl (.slice a13 (pack (pad R ++ unpack t)).length c13) (pack (pad R ++ unpack t))), (K14, tr g14 (unpack (pack (pad R ++ unpack t))) m)]) := h15
    have HRD := hide (hread HX15.out 2 rfl HTb.out HOb.out)
    rw [HR.out] at HBT
    rw [HR.out, gb_row HM0.out HBT.out] at HRD
    rw [← HR.out] at HRD HBT
    simp only at HRD
    clear h15 HSK
    go_wp2_with fail
    refine HRD.out.mono ?_
    rintro e w16 ⟨aA, cA, aB, cB, q, KA, KB, rfl, hq, h16⟩
    have hq' : q = m + (mkB l d).length := hq trivial
    have HX16 : Hid (Herd wb w16 [(K12, tw g (pad R ++ unpack t)), (K13, tl (.slice a13 (pack (pad R ++ unpack t)).length c13) (pack (pad R ++ unpack t))), (K14, tr g14 (unpack (pack (pad R ++ unpack t))) q), (KA, ti (.slice aA (mkL l).length cA) (mkL l)), (KB, ti (.slice aB (mkD d).length cB) (mkD d))]) := h16
    have HB16 := hide (HB7.out.trans (h16.bel.mono HB7.out.size))
    have HAT : Hid (∀ n, Calls Tryd.prog 23 #[.pointer (some ⟨g14, 0, none⟩)] (w16.drewN n) fun e w'' => e = .returned (.int .i64 ((m : Int) + Z)) ∧ ∃ k, w'' = w16.drewN k) := fun n => (rdat_any ((HX16.out.drewN n).rep 2 _ rfl)).mono fun e w'' ⟨he, hw⟩ => ⟨by rw [he]; congr 2; have := HZZ.out; omega, n, hw⟩
    have hLx := HM7.out.l.sb.below h16.bel
    have hDx := HM7.out.d.sb.below h16.bel
    have HEQ1 : Hid (∀ n, Calls Tryd.prog 19 #[.slice aA (mkL l).length cA, .slice aL (mkL l).length cL] (w16.drewN n) fun e w'' => e = .returned (.bool true) ∧ ∃ k, w'' = w16.drewN k) := fun n => (isame_any _ _ (mkL l) (mkL l) _ ((HX16.out.drewN n).isi 3 rfl) (hLx.drw n)).mono fun e w'' ⟨he, k, hw⟩ => ⟨by rw [he, show eqI (mkL l) (mkL l) = true by simp [eqI]], n + k, by rw [hw, World.drewN_drewN]⟩
    have HEQ2 : Hid (∀ n, Calls Tryd.prog 19 #[.slice aB (mkD d).length cB, .slice aD (mkD d).length cD] (w16.drewN n) fun e w'' => e = .returned (.bool true) ∧ ∃ k, w'' = w16.drewN k) := fun n => (isame_any _ _ (mkD d) (mkD d) _ ((HX16.out.drewN n).isi 4 rfl) (hDx.drw n)).mono fun e w'' ⟨he, k, hw⟩ => ⟨by rw [he, show eqI (mkD d) (mkD d) = true by simp [eqI]], n + k, by rw [hw, World.drewN_drewN]⟩
    have HBG1 : Hid (∀ n, Calls Tryd.prog 16 #[.slice aA (mkL l).length cA, .slice a1 l.length c1] (w16.drewN n) fun e w'' => e = .returned (.bool true) ∧ ∃ k, w'' = w16.drewN k) := fun n => (begins_any _ _ (mkL l) l _ ((HX16.out.drewN n).isi 3 rfl) ((H1.out.below HB16.out).drw n) (fun k => trm_getD l 257 k)).mono fun e w'' ⟨he, hw⟩ => ⟨he, n, hw⟩
    have HBG2 : Hid (∀ n, Calls Tryd.prog 16 #[.slice aB (mkD d).length cB, .slice a2 d.length c2] (w16.drewN n) fun e w'' => e = .returned (.bool true) ∧ ∃ k, w'' = w16.drewN k) := fun n => (begins_any _ _ (mkD d) d _ ((HX16.out.drewN n).isi 4 rfl) ((H2.out.below HB16.out).drw n) (fun k => trm_getD d 1 k)).mono fun e w'' ⟨he, hw⟩ => ⟨he, n, hw⟩
    obtain ⟨x0, x1, x2, x3, x4⟩ := (HBX.out.below h16.bel).cells
    have gt : (((m : Int) + Z) == ((m : Int) + Z)) = true := by simp
    have HBD : Hid (∀ k, Below w.heap.size w (w16.drewN k)) := fun k => below_drewN HB16.out k
    clear h16 hq hq' hLx hDx HRD HX10 HX11 HX12 HX13 HX14 HX15
    have hwz := HWZ.out
    go_wp2
    go_big_quiet (first
      | (go_at_call 23; with_reducible exact HAT.out _)
      | (go_at_call 19; first | (with_reducible exact HEQ1.out _) | (with_reducible exact HEQ2.out _))
      | (go_at_call 16; first | (with_reducible exact HBG1.out _) | (with_reducible exact HBG2.out _)))
    go_wp2
    go_ret
    exact ⟨rfl, HBD.out _⟩
end Go.Proofs.YtiabhmdefaabgabDoor

