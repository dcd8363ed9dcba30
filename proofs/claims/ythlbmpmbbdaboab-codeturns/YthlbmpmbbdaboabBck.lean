import Derived.Test.YthlbmpmbbdaboabDcd
namespace Go.Proofs.Ythlbmpmbbdaboab
open Go.RowKit Go.Maps
set_option maxRecDepth 20000

theorem ck11 : chkE [1, 1] = 0 ∧ chkS [1, 1] = 4 := by decide +kernel

theorem built_si (w : World) (cs : List Int) (h : cs.length ≤ 1000) : SI (w.alloc (.cells (cs.map (Value.int .i64)).toArray 3)) (.slice (some ⟨w.heap.size, 0, none⟩) cs.length cs.length) cs := by
  refine ⟨_, _, rfl, Nat.le_refl _, by unfold maxLen; omega, (fun h => by cases h), fun x hx i hi => ?_⟩
  cases hx
  rw [Addr.add_lit, cell_of_row _ _ _ _ _ _ (heap_alloc_new w _)]
  simp [hi]

set_option maxHeartbeats 4000000 in
theorem back_no (v u : Value) (l syms : List Int) (lead : Int) (w : World) (h : SI w v l) (h2 : SI w u syms) (hr : l.length ≤ 17592186043904) (hd : dcE l ≠ 0) :
    Calls Try.prog 3 #[v, .int .i64 lead, u] w fun e w' => e = .returned (.bool true) ∧ Below w.heap.size w w' := by
  have HS := hide h
  obtain ⟨ao, cap, rfl, hlc, hcm⟩ := h.open
  obtain ⟨au, cau, rfl, hlc2, hcm2⟩ := h2.open
  clear h h2
  have hcase : (chkE l == 0) = false ∨ ((chkE l == 0) = true ∧ (chkS l == 4) = false ∧ (chkS l == 1) = false) := by
    by_cases c0 : chkE l = 0
    · right
      refine ⟨by simpa using c0, ?_, ?_⟩
      · rw [(chkE_zero c0).2]
        simp only [beq_eq_false_iff_ne]
        exact fun hh => hd ((dcE_iff l).2 ⟨c0, .inr hh⟩)
      · rw [(chkE_zero c0).2]
        simp only [beq_eq_false_iff_ne]
        exact fun hh => hd ((dcE_iff l).2 ⟨c0, .inl hh⟩)
    · left; simpa using c0
  obtain ⟨cE, HCE⟩ : ∃ c, Hid (c = chkE l) := ⟨_, rfl⟩
  obtain ⟨cS, HCS⟩ : ∃ c, Hid (c = chkS l) := ⟨_, rfl⟩
  rw [← HCE.out, ← HCS.out] at hcase
  obtain ⟨cD, HCD⟩ : ∃ c, Hid (c = dcE l) := ⟨_, rfl⟩
  have hcd : cD ≠ 0 := by rw [HCD.out]; exact hd
  have HCN : Hid ((cD != 0) = true) := by show _ = _; simpa using hcd
  have HD := hide hd
  clear hd
  go_enter Try.func3, Try.ntmps3
  go_wp2_with fail
  refine (icopied_any _ l _ HS.out hr).mono ?_
  rintro e w1 ⟨a1, rfl, ho1, hb1⟩
  have HB1 := hide hb1
  have HO1 := hide ho1.sb
  clear hb1 ho1
  go_wp2_with fail
  refine (newDecoder_any _ l _ HO1.out).mono ?_
  rintro e w2 ⟨hb2, ⟨_, rfl⟩ | ⟨h0, _⟩⟩
  case inr => exact absurd h0 HD.out
  rw [← HCD.out]
  have HB2 := hide (HB1.out.trans (hb2.mono HB1.out.size))
  have HS2 := hide (HS.out.below HB2.out)
  clear hb2
  go_wp2_with fail
  refine (icopied_any _ l _ HS2.out hr).mono ?_
  rintro e w3 ⟨a3, rfl, ho3, hb3⟩
  have HB3 := hide (HB2.out.trans (hb3.mono HB2.out.size))
  have HO3 := hide ho3.sb
  clear hb3 ho3
  go_wp2_with fail
  refine (newEncoder_any _ l _ HO3.out).mono ?_
  rintro e w4 ⟨hb4, hen⟩
  have HB4 := hide (HB3.out.trans (hb4.mono HB3.out.size))
  have HS4 := hide (HS.out.below HB4.out)
  clear hb4
  have hsh : ∃ p c, e = .returned (.tuple #[.pointer p, .int .i64 c]) := by
    rcases hen with ⟨_, rfl⟩ | ⟨_, g, K, rfl, _, _⟩
    · exact ⟨_, _, rfl⟩
    · exact ⟨_, _, rfl⟩
  obtain ⟨p4, c4, rfl⟩ := hsh
  clear hen
  go_wp2_with fail
  refine (icopied_any _ l _ HS4.out hr).mono ?_
  rintro e w5 ⟨a5, rfl, ho5, hb5⟩
  have HB5 := hide (HB4.out.trans (hb5.mono HB4.out.size))
  have HO5 := hide ho5.sb
  clear hb5 ho5
  go_wp2_with fail
  refine (check_any _ l _ HO5.out).mono ?_
  rintro e w6 ⟨rfl, hb6⟩
  have HB6 := hide (HB5.out.trans (hb6.mono HB5.out.size))
  clear hb6
  rw [← HCE.out, ← HCS.out]
  go_wp2_with fail
  refine (num_any _ _).mono ?_
  rintro e w7 ⟨rfl, rfl⟩
  have HS7 : Hid (SI (w7.alloc (.cells #[.int .i64 1, .int .i64 1] 3)) (.slice (some ⟨w7.heap.size, 0, none⟩) 2 2) [1, 1]) := built_si w7 [1, 1] (by simp)
  have HB7 : Hid (Below w.heap.size w (w7.alloc (.cells #[.int .i64 1, .int .i64 1] 3))) := HB6.out.alloc HB6.out.size _
  have HCK := hide ck11
  rcases hcase with hc | ⟨hc, hc2, hc3⟩
  · have hc' : ¬ cE = 0 := by simpa using hc
    go_wp2_with fail
    refine (check_any _ [1, 1] _ HS7.out).mono ?_
    rintro e w8 ⟨rfl, hb8⟩
    have HB8 := hide (HB7.out.trans (hb8.mono HB7.out.size))
    clear hb8
    rw [HCK.out.1, HCK.out.2]
    go_wp2_with fail
    refine (num_any _ _).mono ?_
    rintro e w9 ⟨rfl, rfl⟩
    by_cases hln : (16777216 : Int) < syms.length
    · go_wp2
      go_ret
      exact ⟨rfl, HB8.out⟩
    · go_wp2_with fail
      refine (num_any _ _).mono ?_
      rintro e w10 ⟨rfl, rfl⟩
      go_wp2
      go_ret
      refine ⟨?_, HB8.out⟩
      show Ending.returned (Value.bool (cD != 0)) = _
      rw [HCN.out]
  · have hc' : cE = 0 := by simpa using hc
    have hc2' : ¬ cS = 4 := by simpa using hc2
    have hc3' : ¬ cS = 1 := by simpa using hc3
    subst hc'
    go_wp2_with fail
    refine (check_any _ [1, 1] _ HS7.out).mono ?_
    rintro e w8 ⟨rfl, hb8⟩
    have HB8 := hide (HB7.out.trans (hb8.mono HB7.out.size))
    clear hb8
    rw [HCK.out.1, HCK.out.2]
    go_wp2_with fail
    refine (num_any _ _).mono ?_
    rintro e w9 ⟨rfl, rfl⟩
    by_cases hln : (16777216 : Int) < syms.length
    · go_wp2
      go_ret
      exact ⟨rfl, HB8.out⟩
    · go_wp2_with fail
      refine (num_any _ _).mono ?_
      rintro e w10 ⟨rfl, rfl⟩
      go_wp2
      go_ret
      refine ⟨?_, HB8.out⟩
      show Ending.returned (Value.bool (cD != 0)) = _
      rw [HCN.out]

/-- The bits ahead. -/
def lead0 (lead : Int) : List Int := putRow [] 0 lead

theorem lead_len (lead : Int) : (lead0 lead).length ≤ 32 ∧ Bit (lead0 lead) := by
  unfold lead0 putRow
  split
  case isTrue h =>
    have := h.1.1
    unfold Cnt at this
    rw [List.nil_append, length_bts]
    exact ⟨by omega, bit_bts _ _⟩
  case isFalse h => exact ⟨by simp, bit_nil⟩

def Bk (W : World) (dg cg wg : Nat) (l R0 : List Int) (syms : List Int) (k : Nat) (u : Value) (wr : World) : Prop :=
  ∃ K0 K1 K2 K3, Herd W wr [(K0, td dg l), (K1, te cg l), (K2, tw wg (R0 ++ flat l (kep l (syms.take k)))), (K3, ti u (kep l (syms.take k)))]

theorem ep_ok {l row : List Int} {s : Int} (h : lnI l s ≠ 0) (hr : row.length + 15 ≤ 268435456) (hl : Lens l) : epE l row s = 0 ∧ epR l row s = row ++ wb l s.toNat := by
  obtain ⟨h1, h2, h3⟩ := lnI_has h
  have := (hl.ln s.toNat).2
  have e : epE l row s = 0 := by unfold epE; rw [if_neg h, if_pos (by omega)]
  exact ⟨e, by unfold epR; rw [if_pos e]⟩

theorem ep_no {l row : List Int} {s : Int} (h : lnI l s = 0) : epE l row s = 56 ∧ epR l row s = row := by
  have e : epE l row s = 56 := if_pos h
  exact ⟨e, by unfold epR; rw [if_neg (by rw [e]; decide)]⟩

/-- One symbol more. -/
theorem Bk.yes {W w0 w1 : World} {dg cg wg : Nat} {l R0 syms : List Int} {k : Nat} {u v' : Value} {K0 K1 K2 K3 : Nat → Nat} {s : Int} (hk : k < syms.length) (hs : syms.getD k 0 = s) (hn : lnI l s ≠ 0)
    (H : Herd W w0 [(K0, td dg l), (K1, te cg l), (K2, tw wg (R0 ++ flat l (kep l (syms.take k)) ++ wb l s.toNat)), (K3, ti u (kep l (syms.take k)))]) {o : Obj} (ho : OI w1 0 v' (kep l (syms.take k) ++ [s])) (hg : Grew (w0.alloc o) w1 u v') : Bk W dg cg wg l R0 syms (k + 1) v' w1 := by
  obtain ⟨K', h⟩ := H.grow 3 rfl ho hg
  have e := (kep_succ (l := l) hk).1 (by rw [hs]; exact hn)
  rw [hs] at e
  refine ⟨K0, K1, K2, K', ?_⟩
  rw [e, flat_append, flat_one, ← List.append_assoc]
  exact h

set_option maxHeartbeats 8000000 in
theorem back_yes (v u : Value) (l syms : List Int) (lead : Int) (w : World) (h : SI w v l) (h2 : SI w u syms) (hr : l.length ≤ 17592186043904) (hi64 : ∀ x ∈ syms, -9223372036854775808 ≤ x ∧ x ≤ 9223372036854775807) (hd : dcE l = 0) :
    Calls Try.prog 3 #[v, .int .i64 lead, u] w fun e w' => e = .returned (.bool true) ∧ Below w.heap.size w w' := by
  have HS := hide h
  have HU := hide h2
  obtain ⟨ao, cap, rfl, hlc, hcm⟩ := h.open
  obtain ⟨au, cau, rfl, hlc2, hcm2⟩ := h2.open
  clear h h2
  obtain ⟨c0, c14⟩ := (dcE_iff l).1 hd
  obtain ⟨hl, hcs⟩ := chkE_zero c0
  rw [← hcs] at c14
  have HL := hide hl
  have h288 := hl.1
  have HC0 := hide c0
  obtain ⟨cS, HCS⟩ : ∃ c, Hid (c = chkS l) := ⟨_, rfl⟩
  rw [← HCS.out] at c14
  have HD := hide hd
  have HBK := hide (dc_bk hd)
  have HI64 := hide hi64
  clear hd hl hcs c0 hi64
  go_enter Try.func3, Try.ntmps3
  go_wp2_with fail
  refine (icopied_any _ l _ HS.out hr).mono ?_
  rintro e w1 ⟨a1, rfl, ho1, hb1⟩
  have HB1 := hide hb1
  have HO1 := hide ho1.sb
  have HH1 := hide ((Herd.nil w).below hb1)
  clear hb1 ho1
  go_wp2_with fail
  refine (hdecode HH1.out _ l HO1.out).mono ?_
  rintro e w2 (⟨h0, _⟩ | ⟨_, dg, K0, rfl, h2⟩)
  · exact absurd HD.out h0
  have HH2 : Hid (Herd w w2 [(K0, td dg l)]) := h2
  have HS2 := hide (HS.out.below h2.bel)
  clear h2
  go_wp2_with fail
  refine (icopied_any _ l _ HS2.out hr).mono ?_
  rintro e w3 ⟨a3, rfl, ho3, hb3⟩
  have HH3 := hide (HH2.out.below hb3)
  have HO3 := hide ho3.sb
  clear hb3 ho3
  go_wp2_with fail
  refine (hencode HH3.out _ l HO3.out).mono ?_
  rintro e w4 (⟨h0, _⟩ | ⟨_, cg, K1, rfl, h4⟩)
  · exact absurd HBK.out h0
  have HH4 : Hid (Herd w w4 [(K0, td dg l), (K1, te cg l)]) := h4
  have HS4 := hide (HS.out.below h4.bel)
  clear h4
  go_wp2_with fail
  refine (icopied_any _ l _ HS4.out hr).mono ?_
  rintro e w5 ⟨a5, rfl, ho5, hb5⟩
  have HH5 := hide (HH4.out.below hb5)
  have HO5 := hide ho5.sb
  clear hb5 ho5
  go_wp2_with fail
  refine (check_any _ l _ HO5.out).mono ?_
  rintro e w6 ⟨rfl, hb6⟩
  have HH6 := hide (HH5.out.below hb6)
  clear hb6
  rw [HC0.out, ← HCS.out]
  go_wp2_with fail
  refine (num_any _ _).mono ?_
  rintro e w7 ⟨rfl, rfl⟩
  have HS7 : Hid (SI (w7.alloc (.cells #[.int .i64 1, .int .i64 1] 3)) (.slice (some ⟨w7.heap.size, 0, none⟩) 2 2) [1, 1]) := built_si w7 [1, 1] (by simp)
  have HH7 : Hid (Herd w (w7.alloc (.cells #[.int .i64 1, .int .i64 1] 3)) [(K0, td dg l), (K1, te cg l)]) := HH6.out.below ((Below.refl _ _).alloc (Nat.le_refl _) _)
  have HCK := hide ck11
  clear HH1 HH2 HH3 HH4 HH5 HH6 HO1 HO3 HO5 HS2 HS4
  rcases c14 with c14 | c14
  · subst c14
    go_wp2_with fail
    refine (check_any _ [1, 1] _ HS7.out).mono ?_
    rintro e w8 ⟨rfl, hb8⟩
    have HH8 := hide (HH7.out.below hb8)
    clear hb8
    rw [HCK.out.1, HCK.out.2]
    go_wp2_with fail
    refine (num_any _ _).mono ?_
    rintro e w9 ⟨rfl, rfl⟩
    clear HH7 HS7
    by_cases hln : (16777216 : Int) < syms.length
    · go_wp2
      go_ret
      exact ⟨rfl, HH8.out.bel⟩
    go_wp2_with fail
    refine (hnewW HH8.out).mono ?_
    rintro e w10 ⟨wg, K2, rfl, h10⟩
    have HH10 : Hid (Herd w w10 [(K0, td dg l), (K1, te cg l), (K2, tw wg [])]) := h10
    clear h10
    go_wp2_with fail
    refine (num_any _ _).mono ?_
    rintro e wx ⟨rfl, rfl⟩
    go_wp2_with fail
    refine (num_any _ _).mono ?_
    rintro e wx ⟨rfl, rfl⟩
    go_wp2_with fail
    refine (hput HH10.out 2 rfl 0 lead (by omega) (by omega)).mono ?_
    rintro e w11 ⟨rfl, K2', h11⟩
    obtain ⟨R0, HR0⟩ : ∃ R0, Hid (R0 = lead0 lead) := ⟨_, rfl⟩
    have HH11 : Hid (Herd w w11 [(K0, td dg l), (K1, te cg l), (K2', tw wg R0)]) := by rw [HR0.out]; exact h11
    have hR0 : R0.length ≤ 32 := by rw [HR0.out]; exact (lead_len lead).1
    clear h11
    obtain ⟨eP, HEP⟩ : ∃ e, Hid (e = putE ([] : List Int) 0 lead) := ⟨_, rfl⟩
    rw [← HEP.out]
    go_wp2_with fail
    refine (hlen HH11.out 2 rfl).mono ?_
    rintro e w12 ⟨rfl, h12⟩
    have HB12 : Hid (Bk w dg cg wg l R0 syms 0 (.slice none 0 0) w12) := by
      refine ⟨K0, K1, K2', fun _ => 0, ?_⟩
      have := h12.nilI
      simpa [kep, flat] using this
    clear h12
    have hsl : syms.length ≤ 16777216 := by omega
    go_wp2
    clear HH8 HH10 HH11
    go_loopw [18, 19] (fun q i wr => ∃ k : Nat, k ≤ syms.length ∧ i = .int .i64 k ∧ Hid (Bk w dg cg wg l R0 syms k q wr)) (fun _ i _ => syms.length - (intOf i).toNat)
    case atStart => exact ⟨0, Nat.zero_le _, rfl, HB12⟩
    case round =>
      clear HB12
      obtain ⟨k, hk, rfl, HT⟩ := hrel
      by_cases hlt : k < syms.length
      · have hlt' : (k : Int) < (syms.length : Int) := by omega
        obtain ⟨K0', K1', K2'', K3', hh⟩ := HT.out
        have HHk := hide hh
        clear hh
        obtain ⟨s, HSy⟩ : ∃ s, Hid (syms.getD k 0 = s) := ⟨_, rfl⟩
        obtain ⟨bu, ou, hau, hcu⟩ := HU.out.get HHk.out.bel hlt
        subst hau
        rw [HSy.out] at hcu
        have hs64 := HI64.out s (by rw [← HSy.out]; exact getD_mem hlt)
        obtain ⟨hs0, hs1⟩ := hs64
        go_wp2_with fail
        refine (heput HHk.out 1 2 rfl rfl s hs0 hs1).mono ?_
        rintro e w20 ⟨rfl, K5, h20⟩
        have HBE : Hid (Below w.heap.size w w20) := h20.bel
        have hkl := kep_len l (syms.take k)
        rw [List.length_take] at hkl
        by_cases hz : lnI l s = 0
        · obtain ⟨e1, e2⟩ := ep_no (row := R0 ++ flat l (kep l (syms.take k))) hz
          rw [e2] at h20
          have HN : Hid (Bk w dg cg wg l R0 syms (k + 1) u18 w20) := by
            refine ⟨K0', K1', K5, K3', ?_⟩
            rw [(kep_succ (l := l) hlt).2 (by rw [HSy.out]; exact hz)]
            exact h20
          have HEP2 : Hid (epE l (R0 ++ flat l (kep l (syms.take k))) s = 56) := e1
          clear h20 e1 e2 HHk HT hcu hkl
          by_cases hneg : s < 0
          · have hneg' : ¬ 0 ≤ s := by omega
            have hd1 : decide (0 ≤ s) = false := decide_eq_false hneg'
            clear hz
            rw [HEP2.out]
            go_wp2_with fail
            refine (num_any _ _).mono ?_
            rintro e wy ⟨rfl, rfl⟩
            go_wp2
            go_roundw
            case rel => exact ⟨k + 1, by omega, by go_num, HN⟩
            case measure => simp [intOf]; omega
          · have hneg' : 0 ≤ s := by omega
            have hd1 : decide (0 ≤ s) = true := decide_eq_true hneg'
            by_cases hin : s < l.length
            · obtain ⟨n, rfl⟩ : ∃ n : Nat, s = n := ⟨s.toNat, by omega⟩
              have hnl : n < l.length := by omega
              have hd2 : decide ((n : Int) < (l.length : Int)) = true := decide_eq_true hin
              have hd3 : decide (n < l.length) = true := decide_eq_true hnl
              obtain ⟨bl, ol, hal, hcl⟩ := HS.out.get HBE.out hnl
              subst hal
              have hz2 : ln l n = 0 := by unfold lnI at hz; rw [if_pos ⟨hneg', hin⟩] at hz; exact hz
              rw [(HL.out.ln n).1, hz2] at hcl
              clear hz hz2
              rw [HEP2.out]
              go_wp2_with fail
              refine (num_any _ _).mono ?_
              rintro e wy ⟨rfl, rfl⟩
              go_wp2
              go_roundw
              case rel => exact ⟨k + 1, by omega, by go_num, HN⟩
              case measure => simp [intOf]; omega
            · have hd2 : decide (s < (l.length : Int)) = false := decide_eq_false hin
              clear hz
              rw [HEP2.out]
              go_wp2_with fail
              refine (num_any _ _).mono ?_
              rintro e wy ⟨rfl, rfl⟩
              go_wp2
              go_roundw
              case rel => exact ⟨k + 1, by omega, by go_num, HN⟩
              case measure => simp [intOf]; omega
        · obtain ⟨e1, e2⟩ := ep_ok (row := R0 ++ flat l (kep l (syms.take k))) hz (by
            have := flat_len (ks := kep l (syms.take k)) HL.out
            rw [List.length_append]; omega) HL.out
          rw [e2] at h20
          have HEP2 : Hid (epE l (R0 ++ flat l (kep l (syms.take k))) s = 0) := e1
          obtain ⟨hh1, hh2, hh3⟩ := lnI_has hz
          obtain ⟨n, hn⟩ : ∃ n : Nat, n = s.toNat := ⟨_, rfl⟩
          rw [← hn] at hh1 hh2 hh3
          subst hh2
          have hnl : n < l.length := hh1.1
          have hneg' : (0 : Int) ≤ n := by omega
          have hin : (n : Int) < (l.length : Int) := by omega
          have hd2 : decide ((n : Int) < (l.length : Int)) = true := decide_eq_true hin
          have hd3 : decide (n < l.length) = true := decide_eq_true hnl
          obtain ⟨bl, ol, hal, hcl⟩ := HS.out.get HBE.out hnl
          subst hal
          rw [(HL.out.ln n).1] at hcl
          have hlp : 0 < ln l n := hh1.2
          obtain ⟨m, HM⟩ : ∃ m, Hid (m = ln l n) := ⟨_, rfl⟩
          rw [← HM.out] at hcl hlp
          have hlp' : (0 : Int) < m := by omega
          have H20 := hide h20
          have HOI := hide (h20.ioi 3 rfl)
          have HZ := hide hz
          obtain ⟨ks, HKS⟩ : ∃ ks, Hid (ks = kep l (syms.take k)) := ⟨_, rfl⟩
          rw [← HKS.out] at HOI hkl
          obtain ⟨a18, c18, hq⟩ := HOI.out.shape
          subst hq
          have HALC : Hid (OI (w20.alloc (.cells #[.int .i64 n] 3)) 0 (.slice a18 ks.length c18) ks) := HOI.out.alloc _
          have HSR : Hid (Src Try.prog 1 22 (.slice (some ⟨w20.heap.size, 0, none⟩) 1 1) ([(n : Int)] : List Int).length (([(n : Int)] : List Int).map (Value.int .i64)) (w20.alloc (.cells #[.int .i64 n] 3))) := built_srcI w20 [(n : Int)]
          clear h20 e1 e2 HHk HT hcu hh1 hh3 hn hz
          rw [HEP2.out]
          go_wp2_with fail
          refine (num_any _ _).mono ?_
          rintro e wy ⟨rfl, rfl⟩
          go_wp2_with (at_builtin; refine wpList_appI rfl _ _ 22 rfl 0 _ _ ks [(n : Int)] rfl HALC.out rfl HSR.out (by simp; omega) (Nat.zero_le _) ?_)
          intro v3 w3 ho3 hgr3
          have HN : Hid (Bk w dg cg wg l R0 syms (k + 1) v3 w3) := by
            rw [HKS.out] at ho3
            exact Bk.yes hlt HSy.out HZ.out H20.out ho3 hgr3
          clear ho3 hgr3
          go_wp2
          go_roundw
          case rel => exact ⟨k + 1, by omega, by go_num, HN⟩
          case measure => simp [intOf]; omega
      · obtain rfl : k = syms.length := by omega
        have hlt' : ¬ (syms.length : Int) < (syms.length : Int) := by omega
        obtain ⟨K0', K1', K2'', K3', hh⟩ := HT.out
        rw [List.take_of_length_le (Nat.le_refl _)] at hh
        obtain ⟨ks, HKS⟩ : ∃ ks, Hid (ks = kep l syms) := ⟨_, rfl⟩
        rw [← HKS.out] at hh
        have hkm : ∀ s ∈ ks, lnI l s ≠ 0 := fun s hs => by rw [HKS.out] at hs; exact kep_mem hs
        have hkl : ks.length ≤ syms.length := by rw [HKS.out]; exact kep_len l syms
        have hRB := hh.bit 2 rfl
        obtain ⟨ROW, HROW⟩ : ∃ ROW, Hid (ROW = R0 ++ flat l ks) := ⟨_, rfl⟩
        rw [← HROW.out] at hh hRB
        obtain ⟨Z, HZ⟩ : ∃ Z, Hid (pad ROW = ROW ++ Z) := ⟨_, rfl⟩
        have hup := unpack_pack hRB.1
        have hpl := length_pack hRB.1
        have hRl : ROW.length = R0.length + (flat l ks).length := by rw [HROW.out, List.length_append]
        have HRL := hide hRl
        have HPB : Hid (Bit (R0 ++ flat l ks ++ Z)) := by rw [← HROW.out, ← HZ.out]; exact bit_pad hRB.1
        have HNX : Hid (∀ i, i < ks.length → nxE l (ROW ++ Z) (R0.length + (flat l (ks.take i)).length) = 0 ∧ ((nxS l (ROW ++ Z) (R0.length + (flat l (ks.take i)).length) : Nat) : Int) = ks.getD i 0 ∧ nxP l (ROW ++ Z) (R0.length + (flat l (ks.take i)).length) = R0.length + (flat l (ks.take (i + 1))).length) := fun i hi => by
          rw [HROW.out]; exact nx_flat HD.out hkm HPB.out hi
        have HHk := hide hh
        have HOI := hide (hh.ioi 3 rfl)
        obtain ⟨a18, c18, hq⟩ := HOI.out.shape
        subst hq
        have hc18 : ks.length ≤ c18 ∧ c18 ≤ 9223372036854775807 := by
          obtain ⟨_, _, e1, e2, e3⟩ := HOI.out.sb.open
          simp only [Value.slice.injEq] at e1
          obtain ⟨-, -, rfl⟩ := e1
          exact ⟨e2, e3⟩
        obtain ⟨q1, q2⟩ := hc18
        have HRBh := hide hRB
        have hsk : skipE (ROW ++ Z) 0 R0.length = 0 ∧ skipP (ROW ++ Z) 0 R0.length = R0.length := by
          have hle : R0.length ≤ (ROW ++ Z).length := by rw [List.length_append]; omega
          exact ⟨by unfold skipE; rw [if_neg (by omega), if_pos (by omega)], by unfold skipP; rw [if_neg (by omega), if_pos (by omega)]; simp⟩
        have HSK := hide hsk
        clear hh HT hkm hRl hRB hsk
        go_wp2_with fail
        refine (hbytes HHk.out 2 rfl).mono ?_
        rintro e w21 ⟨a21, c21, K21, rfl, h21⟩
        have H21 := hide h21
        clear h21
        obtain ⟨P, HP⟩ : ∃ P, Hid (P = pack ROW) := ⟨_, rfl⟩
        rw [← HP.out] at H21 hup hpl ⊢
        have HPL := hide hpl
        have HUP := hide hup
        have hPl : P.length ≤ 33554432 := by rw [hpl]; have := HRBh.out.2; omega
        clear hpl hup
        go_wp2_with fail
        refine (hnewR H21.out _ P (H21.out.sb 4 rfl) HUP.out.2 hPl).mono ?_
        rintro e w22 ⟨rg, Kr, rfl, h22⟩
        rw [HUP.out.1, HZ.out] at h22
        have H22 := hide h22
        clear h22
        go_wp2_with fail
        refine (hskip H22.out 5 rfl R0.length).mono ?_
        rintro e w23 ⟨rfl, h23⟩
        rw [HSK.out.1]
        rw [HSK.out.2] at h23
        have H23 : Hid (Herd w w23 [(K0', td dg l), (K1', te cg l), (K2'', tw wg ROW), (K3', ti (.slice a18 ks.length c18) ks), (K21, tl (.slice a21 P.length c21) P), (Kr, tr rg (ROW ++ Z) (R0.length + (flat l (ks.take 0)).length))]) := h23
        clear h23
        go_wp2_with fail
        refine (num_any _ _).mono ?_
        rintro e wy ⟨rfl, rfl⟩
        go_wp2
        clear HHk H21 H22
        go_loopw [24] (fun i wr => ∃ k : Nat, k ≤ ks.length ∧ i = .int .i64 k ∧ Hid (Herd w wr [(K0', td dg l), (K1', te cg l), (K2'', tw wg ROW), (K3', ti (.slice a18 ks.length c18) ks), (K21, tl (.slice a21 P.length c21) P), (Kr, tr rg (ROW ++ Z) (R0.length + (flat l (ks.take k)).length))])) (fun i _ => ks.length - (intOf i).toNat)
        case atStart => exact ⟨0, Nat.zero_le _, rfl, H23⟩
        case round =>
          clear H23
          obtain ⟨k, hk2, rfl, HT⟩ := hrel
          by_cases hlt2 : k < ks.length
          · have hlt2' : (k : Int) < (ks.length : Int) := by omega
            obtain ⟨n1, n2, n3⟩ := HNX.out k hlt2
            have HN1 := hide n1
            have HN2 := hide n2
            have HN3 := hide n3
            clear n1 n2 n3
            go_wp2_with fail
            refine (hnext HT.out 0 5 rfl rfl).mono ?_
            rintro e w24 ⟨rfl, h24⟩
            rw [HN1.out, HN2.out]
            rw [HN3.out] at h24
            have H24 := hide h24
            obtain ⟨gq, cq, hq, _⟩ := (h24.ioi 3 rfl).form (by omega)
            have hcq := (h24.ioi 3 rfl).get (b := gq) (by rw [hq]; rfl) hlt2
            simp only [Value.slice.injEq] at hq
            obtain ⟨rfl, -, rfl⟩ := hq
            obtain ⟨y, HY⟩ : ∃ y, Hid (y = ks.getD k 0) := ⟨_, rfl⟩
            rw [← HY.out] at hcq ⊢
            clear h24 HT
            go_wp2_with fail
            refine (num_any _ _).mono ?_
            rintro e wy ⟨rfl, rfl⟩
            go_wp2
            go_roundw
            case rel => exact ⟨k + 1, by omega, by go_num, H24⟩
            case measure => simp [intOf]; omega
          · obtain rfl : k = ks.length := by omega
            have hlt2' : ¬ (ks.length : Int) < (ks.length : Int) := by omega
            have HTT := HT.out
            rw [List.take_of_length_le (Nat.le_refl _), ← HRL.out] at HTT
            have H30 := hide HTT
            clear HT HTT
            go_wp2_with fail
            refine (hat H30.out 5 rfl).mono ?_
            rintro e w25 ⟨rfl, h25⟩
            have H25 := hide h25
            clear h25
            go_wp2_with fail
            refine (hlen H25.out 2 rfl).mono ?_
            rintro e w26 ⟨rfl, h26⟩
            have HFB := hide h26.bel
            clear h26
            go_wp2
            go_ret
            exact ⟨by first | rfl | simp, HFB.out⟩
  · subst c14
    go_wp2_with fail
    refine (check_any _ [1, 1] _ HS7.out).mono ?_
    rintro e w8 ⟨rfl, hb8⟩
    have HH8 := hide (HH7.out.below hb8)
    clear hb8
    rw [HCK.out.1, HCK.out.2]
    go_wp2_with fail
    refine (num_any _ _).mono ?_
    rintro e w9 ⟨rfl, rfl⟩
    clear HH7 HS7
    by_cases hln : (16777216 : Int) < syms.length
    · go_wp2
      go_ret
      exact ⟨rfl, HH8.out.bel⟩
    go_wp2_with fail
    refine (hnewW HH8.out).mono ?_
    rintro e w10 ⟨wg, K2, rfl, h10⟩
    have HH10 : Hid (Herd w w10 [(K0, td dg l), (K1, te cg l), (K2, tw wg [])]) := h10
    clear h10
    go_wp2_with fail
    refine (num_any _ _).mono ?_
    rintro e wx ⟨rfl, rfl⟩
    go_wp2_with fail
    refine (num_any _ _).mono ?_
    rintro e wx ⟨rfl, rfl⟩
    go_wp2_with fail
    refine (hput HH10.out 2 rfl 0 lead (by omega) (by omega)).mono ?_
    rintro e w11 ⟨rfl, K2', h11⟩
    obtain ⟨R0, HR0⟩ : ∃ R0, Hid (R0 = lead0 lead) := ⟨_, rfl⟩
    have HH11 : Hid (Herd w w11 [(K0, td dg l), (K1, te cg l), (K2', tw wg R0)]) := by rw [HR0.out]; exact h11
    have hR0 : R0.length ≤ 32 := by rw [HR0.out]; exact (lead_len lead).1
    clear h11
    obtain ⟨eP, HEP⟩ : ∃ e, Hid (e = putE ([] : List Int) 0 lead) := ⟨_, rfl⟩
    rw [← HEP.out]
    go_wp2_with fail
    refine (hlen HH11.out 2 rfl).mono ?_
    rintro e w12 ⟨rfl, h12⟩
    have HB12 : Hid (Bk w dg cg wg l R0 syms 0 (.slice none 0 0) w12) := by
      refine ⟨K0, K1, K2', fun _ => 0, ?_⟩
      have := h12.nilI
      simpa [kep, flat] using this
    clear h12
    have hsl : syms.length ≤ 16777216 := by omega
    go_wp2
    clear HH8 HH10 HH11
    go_loopw [18, 19] (fun q i wr => ∃ k : Nat, k ≤ syms.length ∧ i = .int .i64 k ∧ Hid (Bk w dg cg wg l R0 syms k q wr)) (fun _ i _ => syms.length - (intOf i).toNat)
    case atStart => exact ⟨0, Nat.zero_le _, rfl, HB12⟩
    case round =>
      clear HB12
      obtain ⟨k, hk, rfl, HT⟩ := hrel
      by_cases hlt : k < syms.length
      · have hlt' : (k : Int) < (syms.length : Int) := by omega
        obtain ⟨K0', K1', K2'', K3', hh⟩ := HT.out
        have HHk := hide hh
        clear hh
        obtain ⟨s, HSy⟩ : ∃ s, Hid (syms.getD k 0 = s) := ⟨_, rfl⟩
        obtain ⟨bu, ou, hau, hcu⟩ := HU.out.get HHk.out.bel hlt
        subst hau
        rw [HSy.out] at hcu
        have hs64 := HI64.out s (by rw [← HSy.out]; exact getD_mem hlt)
        obtain ⟨hs0, hs1⟩ := hs64
        go_wp2_with fail
        refine (heput HHk.out 1 2 rfl rfl s hs0 hs1).mono ?_
        rintro e w20 ⟨rfl, K5, h20⟩
        have HBE : Hid (Below w.heap.size w w20) := h20.bel
        have hkl := kep_len l (syms.take k)
        rw [List.length_take] at hkl
        by_cases hz : lnI l s = 0
        · obtain ⟨e1, e2⟩ := ep_no (row := R0 ++ flat l (kep l (syms.take k))) hz
          rw [e2] at h20
          have HN : Hid (Bk w dg cg wg l R0 syms (k + 1) u18 w20) := by
            refine ⟨K0', K1', K5, K3', ?_⟩
            rw [(kep_succ (l := l) hlt).2 (by rw [HSy.out]; exact hz)]
            exact h20
          have HEP2 : Hid (epE l (R0 ++ flat l (kep l (syms.take k))) s = 56) := e1
          clear h20 e1 e2 HHk HT hcu hkl
          by_cases hneg : s < 0
          · have hneg' : ¬ 0 ≤ s := by omega
            have hd1 : decide (0 ≤ s) = false := decide_eq_false hneg'
            clear hz
            rw [HEP2.out]
            go_wp2_with fail
            refine (num_any _ _).mono ?_
            rintro e wy ⟨rfl, rfl⟩
            go_wp2
            go_roundw
            case rel => exact ⟨k + 1, by omega, by go_num, HN⟩
            case measure => simp [intOf]; omega
          · have hneg' : 0 ≤ s := by omega
            have hd1 : decide (0 ≤ s) = true := decide_eq_true hneg'
            by_cases hin : s < l.length
            · obtain ⟨n, rfl⟩ : ∃ n : Nat, s = n := ⟨s.toNat, by omega⟩
              have hnl : n < l.length := by omega
              have hd2 : decide ((n : Int) < (l.length : Int)) = true := decide_eq_true hin
              have hd3 : decide (n < l.length) = true := decide_eq_true hnl
              obtain ⟨bl, ol, hal, hcl⟩ := HS.out.get HBE.out hnl
              subst hal
              have hz2 : ln l n = 0 := by unfold lnI at hz; rw [if_pos ⟨hneg', hin⟩] at hz; exact hz
              rw [(HL.out.ln n).1, hz2] at hcl
              clear hz hz2
              rw [HEP2.out]
              go_wp2_with fail
              refine (num_any _ _).mono ?_
              rintro e wy ⟨rfl, rfl⟩
              go_wp2
              go_roundw
              case rel => exact ⟨k + 1, by omega, by go_num, HN⟩
              case measure => simp [intOf]; omega
            · have hd2 : decide (s < (l.length : Int)) = false := decide_eq_false hin
              clear hz
              rw [HEP2.out]
              go_wp2_with fail
              refine (num_any _ _).mono ?_
              rintro e wy ⟨rfl, rfl⟩
              go_wp2
              go_roundw
              case rel => exact ⟨k + 1, by omega, by go_num, HN⟩
              case measure => simp [intOf]; omega
        · obtain ⟨e1, e2⟩ := ep_ok (row := R0 ++ flat l (kep l (syms.take k))) hz (by
            have := flat_len (ks := kep l (syms.take k)) HL.out
            rw [List.length_append]; omega) HL.out
          rw [e2] at h20
          have HEP2 : Hid (epE l (R0 ++ flat l (kep l (syms.take k))) s = 0) := e1
          obtain ⟨hh1, hh2, hh3⟩ := lnI_has hz
          obtain ⟨n, hn⟩ : ∃ n : Nat, n = s.toNat := ⟨_, rfl⟩
          rw [← hn] at hh1 hh2 hh3
          subst hh2
          have hnl : n < l.length := hh1.1
          have hneg' : (0 : Int) ≤ n := by omega
          have hin : (n : Int) < (l.length : Int) := by omega
          have hd2 : decide ((n : Int) < (l.length : Int)) = true := decide_eq_true hin
          have hd3 : decide (n < l.length) = true := decide_eq_true hnl
          obtain ⟨bl, ol, hal, hcl⟩ := HS.out.get HBE.out hnl
          subst hal
          rw [(HL.out.ln n).1] at hcl
          have hlp : 0 < ln l n := hh1.2
          obtain ⟨m, HM⟩ : ∃ m, Hid (m = ln l n) := ⟨_, rfl⟩
          rw [← HM.out] at hcl hlp
          have hlp' : (0 : Int) < m := by omega
          have H20 := hide h20
          have HOI := hide (h20.ioi 3 rfl)
          have HZ := hide hz
          obtain ⟨ks, HKS⟩ : ∃ ks, Hid (ks = kep l (syms.take k)) := ⟨_, rfl⟩
          rw [← HKS.out] at HOI hkl
          obtain ⟨a18, c18, hq⟩ := HOI.out.shape
          subst hq
          have HALC : Hid (OI (w20.alloc (.cells #[.int .i64 n] 3)) 0 (.slice a18 ks.length c18) ks) := HOI.out.alloc _
          have HSR : Hid (Src Try.prog 1 22 (.slice (some ⟨w20.heap.size, 0, none⟩) 1 1) ([(n : Int)] : List Int).length (([(n : Int)] : List Int).map (Value.int .i64)) (w20.alloc (.cells #[.int .i64 n] 3))) := built_srcI w20 [(n : Int)]
          clear h20 e1 e2 HHk HT hcu hh1 hh3 hn hz
          rw [HEP2.out]
          go_wp2_with fail
          refine (num_any _ _).mono ?_
          rintro e wy ⟨rfl, rfl⟩
          go_wp2_with (at_builtin; refine wpList_appI rfl _ _ 22 rfl 0 _ _ ks [(n : Int)] rfl HALC.out rfl HSR.out (by simp; omega) (Nat.zero_le _) ?_)
          intro v3 w3 ho3 hgr3
          have HN : Hid (Bk w dg cg wg l R0 syms (k + 1) v3 w3) := by
            rw [HKS.out] at ho3
            exact Bk.yes hlt HSy.out HZ.out H20.out ho3 hgr3
          clear ho3 hgr3
          go_wp2
          go_roundw
          case rel => exact ⟨k + 1, by omega, by go_num, HN⟩
          case measure => simp [intOf]; omega
      · obtain rfl : k = syms.length := by omega
        have hlt' : ¬ (syms.length : Int) < (syms.length : Int) := by omega
        obtain ⟨K0', K1', K2'', K3', hh⟩ := HT.out
        rw [List.take_of_length_le (Nat.le_refl _)] at hh
        obtain ⟨ks, HKS⟩ : ∃ ks, Hid (ks = kep l syms) := ⟨_, rfl⟩
        rw [← HKS.out] at hh
        have hkm : ∀ s ∈ ks, lnI l s ≠ 0 := fun s hs => by rw [HKS.out] at hs; exact kep_mem hs
        have hkl : ks.length ≤ syms.length := by rw [HKS.out]; exact kep_len l syms
        have hRB := hh.bit 2 rfl
        obtain ⟨ROW, HROW⟩ : ∃ ROW, Hid (ROW = R0 ++ flat l ks) := ⟨_, rfl⟩
        rw [← HROW.out] at hh hRB
        obtain ⟨Z, HZ⟩ : ∃ Z, Hid (pad ROW = ROW ++ Z) := ⟨_, rfl⟩
        have hup := unpack_pack hRB.1
        have hpl := length_pack hRB.1
        have hRl : ROW.length = R0.length + (flat l ks).length := by rw [HROW.out, List.length_append]
        have HRL := hide hRl
        have HPB : Hid (Bit (R0 ++ flat l ks ++ Z)) := by rw [← HROW.out, ← HZ.out]; exact bit_pad hRB.1
        have HNX : Hid (∀ i, i < ks.length → nxE l (ROW ++ Z) (R0.length + (flat l (ks.take i)).length) = 0 ∧ ((nxS l (ROW ++ Z) (R0.length + (flat l (ks.take i)).length) : Nat) : Int) = ks.getD i 0 ∧ nxP l (ROW ++ Z) (R0.length + (flat l (ks.take i)).length) = R0.length + (flat l (ks.take (i + 1))).length) := fun i hi => by
          rw [HROW.out]; exact nx_flat HD.out hkm HPB.out hi
        have HHk := hide hh
        have HOI := hide (hh.ioi 3 rfl)
        obtain ⟨a18, c18, hq⟩ := HOI.out.shape
        subst hq
        have hc18 : ks.length ≤ c18 ∧ c18 ≤ 9223372036854775807 := by
          obtain ⟨_, _, e1, e2, e3⟩ := HOI.out.sb.open
          simp only [Value.slice.injEq] at e1
          obtain ⟨-, -, rfl⟩ := e1
          exact ⟨e2, e3⟩
        obtain ⟨q1, q2⟩ := hc18
        have HRBh := hide hRB
        have hsk : skipE (ROW ++ Z) 0 R0.length = 0 ∧ skipP (ROW ++ Z) 0 R0.length = R0.length := by
          have hle : R0.length ≤ (ROW ++ Z).length := by rw [List.length_append]; omega
          exact ⟨by unfold skipE; rw [if_neg (by omega), if_pos (by omega)], by unfold skipP; rw [if_neg (by omega), if_pos (by omega)]; simp⟩
        have HSK := hide hsk
        clear hh HT hkm hRl hRB hsk
        go_wp2_with fail
        refine (hbytes HHk.out 2 rfl).mono ?_
        rintro e w21 ⟨a21, c21, K21, rfl, h21⟩
        have H21 := hide h21
        clear h21
        obtain ⟨P, HP⟩ : ∃ P, Hid (P = pack ROW) := ⟨_, rfl⟩
        rw [← HP.out] at H21 hup hpl ⊢
        have HPL := hide hpl
        have HUP := hide hup
        have hPl : P.length ≤ 33554432 := by rw [hpl]; have := HRBh.out.2; omega
        clear hpl hup
        go_wp2_with fail
        refine (hnewR H21.out _ P (H21.out.sb 4 rfl) HUP.out.2 hPl).mono ?_
        rintro e w22 ⟨rg, Kr, rfl, h22⟩
        rw [HUP.out.1, HZ.out] at h22
        have H22 := hide h22
        clear h22
        go_wp2_with fail
        refine (hskip H22.out 5 rfl R0.length).mono ?_
        rintro e w23 ⟨rfl, h23⟩
        rw [HSK.out.1]
        rw [HSK.out.2] at h23
        have H23 : Hid (Herd w w23 [(K0', td dg l), (K1', te cg l), (K2'', tw wg ROW), (K3', ti (.slice a18 ks.length c18) ks), (K21, tl (.slice a21 P.length c21) P), (Kr, tr rg (ROW ++ Z) (R0.length + (flat l (ks.take 0)).length))]) := h23
        clear h23
        go_wp2_with fail
        refine (num_any _ _).mono ?_
        rintro e wy ⟨rfl, rfl⟩
        go_wp2
        clear HHk H21 H22
        go_loopw [24] (fun i wr => ∃ k : Nat, k ≤ ks.length ∧ i = .int .i64 k ∧ Hid (Herd w wr [(K0', td dg l), (K1', te cg l), (K2'', tw wg ROW), (K3', ti (.slice a18 ks.length c18) ks), (K21, tl (.slice a21 P.length c21) P), (Kr, tr rg (ROW ++ Z) (R0.length + (flat l (ks.take k)).length))])) (fun i _ => ks.length - (intOf i).toNat)
        case atStart => exact ⟨0, Nat.zero_le _, rfl, H23⟩
        case round =>
          clear H23
          obtain ⟨k, hk2, rfl, HT⟩ := hrel
          by_cases hlt2 : k < ks.length
          · have hlt2' : (k : Int) < (ks.length : Int) := by omega
            obtain ⟨n1, n2, n3⟩ := HNX.out k hlt2
            have HN1 := hide n1
            have HN2 := hide n2
            have HN3 := hide n3
            clear n1 n2 n3
            go_wp2_with fail
            refine (hnext HT.out 0 5 rfl rfl).mono ?_
            rintro e w24 ⟨rfl, h24⟩
            rw [HN1.out, HN2.out]
            rw [HN3.out] at h24
            have H24 := hide h24
            obtain ⟨gq, cq, hq, _⟩ := (h24.ioi 3 rfl).form (by omega)
            have hcq := (h24.ioi 3 rfl).get (b := gq) (by rw [hq]; rfl) hlt2
            simp only [Value.slice.injEq] at hq
            obtain ⟨rfl, -, rfl⟩ := hq
            obtain ⟨y, HY⟩ : ∃ y, Hid (y = ks.getD k 0) := ⟨_, rfl⟩
            rw [← HY.out] at hcq ⊢
            clear h24 HT
            go_wp2_with fail
            refine (num_any _ _).mono ?_
            rintro e wy ⟨rfl, rfl⟩
            go_wp2
            go_roundw
            case rel => exact ⟨k + 1, by omega, by go_num, H24⟩
            case measure => simp [intOf]; omega
          · obtain rfl : k = ks.length := by omega
            have hlt2' : ¬ (ks.length : Int) < (ks.length : Int) := by omega
            have HTT := HT.out
            rw [List.take_of_length_le (Nat.le_refl _), ← HRL.out] at HTT
            have H30 := hide HTT
            clear HT HTT
            go_wp2_with fail
            refine (hat H30.out 5 rfl).mono ?_
            rintro e w25 ⟨rfl, h25⟩
            have H25 := hide h25
            clear h25
            go_wp2_with fail
            refine (hlen H25.out 2 rfl).mono ?_
            rintro e w26 ⟨rfl, h26⟩
            have HFB := hide h26.bel
            clear h26
            go_wp2
            go_ret
            exact ⟨by first | rfl | simp, HFB.out⟩

theorem back_walk (v u : Value) (l syms : List Int) (lead : Int) (w : World) (h : SI w v l) (h2 : SI w u syms) (hr : l.length ≤ 17592186043904) (hi64 : ∀ x ∈ syms, -9223372036854775808 ≤ x ∧ x ≤ 9223372036854775807) :
    Calls Try.prog 3 #[v, .int .i64 lead, u] w fun e w' => e = .returned (.bool true) ∧ Below w.heap.size w w' := by
  by_cases hd : dcE l = 0
  · exact back_yes v u l syms lead w h h2 hr hi64 hd
  · exact back_no v u l syms lead w h h2 hr hd
end Go.Proofs.Ythlbmpmbbdaboab
