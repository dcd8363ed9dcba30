import Derived.Test.YtiabhmdefaabgaaDoorGSml
namespace Go.Proofs.YtiabhmdefaabgaaDoor
open Go.RowKit Go.Maps
set_option maxRecDepth 20000
set_option linter.unusedVariables false

theorem gsm_bound {C : List Int} (hC : ∀ s, 0 ≤ C.getD s 0 ∧ C.getD s 0 ≤ 15) (R : List Rn) : 0 ≤ gsm C R ∧ gsm C R ≤ 15 * R.length := by
  induction R with
  | nil => simp [gsm]
  | cons r R ih =>
    have := hC r.1.toNat
    simp only [gsm, List.length_cons]
    omega

theorem mk_facts {l d : List Int} (h : mkE l d = 0) : l.length ≤ 286 ∧ d.length ≤ 30 ∧ 257 ≤ (mkL l).length ∧ (mkL l).length ≤ 286 ∧ 1 ≤ (mkD d).length ∧ (mkD d).length ≤ 30 ∧ (∀ x ∈ mkL l ++ mkD d, 0 ≤ x ∧ x ≤ 15) ∧ (∀ r ∈ mkR l d, Okr r) ∧ (mkR l d).length ≤ 316 ∧ (mkL l).getD 256 0 ≠ 0 := by
  unfold mkE at h
  by_cases hb : 286 < l.length ∨ 30 < d.length ∨ wthb l = false ∨ wthb d = false
  · rw [if_pos hb] at h; omega
  · rw [if_neg hb] at h
    have w1 : wthb l = true := by cases q : wthb l with
      | true => rfl
      | false => exact absurd (.inr (.inr (.inl q))) hb
    have w2 : wthb d = true := by cases q : wthb d with
      | true => rfl
      | false => exact absurd (.inr (.inr (.inr q))) hb
    have h1 := trm_lens (l := l) (f := 257) (by omega) (by omega)
    have h2 := trm_lens (l := d) (f := 1) (by omega) (by omega)
    have h3 : ∀ x ∈ mkL l ++ mkD d, 0 ≤ x ∧ x ≤ 15 := fun x hx => by
      rcases List.mem_append.1 hx with q | q
      · exact trm_all l 257 (wth_iff.1 w1) x q
      · exact trm_all d 1 (wth_iff.1 w2) x q
    have h4 := rns_len (mkL l ++ mkD d)
    rw [List.length_append] at h4
    have h5 : (mkL l).getD 256 0 ≠ 0 := fun q => by unfold hck at h; rw [if_pos (.inl q)] at h; omega
    unfold mkL mkD at *
    exact ⟨by omega, by omega, h1.1, by omega, h2.1, by omega, h3, rns_ok h3, by unfold mkR mkL mkD; omega, h5⟩

theorem run1_first {l : List Int} (h : 1 ≤ l.length) : 0 < (rns l).length := by
  have := run1_cnt (l := l) (k := 0) (by omega)
  obtain ⟨c, hc, _⟩ := this
  rw [← rnK_zero, rnK_step (by omega) hc]
  simp

set_option maxHeartbeats 4000000 in
theorem headerSmallCodeIsBest_walk (v1 v2 v3 : Value) (l d o : List Int) (w : World) (s1 : SI w v1 l) (s2 : SI w v2 d) (s3 : SI w v3 o) (T : Tab w) (O : Odr w) :
    Calls Tryd.prog 6 #[v1, v2, v3] w fun e w' => e = .returned (.bool true) ∧ Below w.heap.size w w' := by
  have H1 := hide s1
  have H2 := hide s2
  have H3 := hide s3
  have HT := hide T
  have HO := hide O
  obtain ⟨a1, c1, rfl, hc1, hd1⟩ := s1.open
  obtain ⟨a2, c2, rfl, hc2, hd2⟩ := s2.open
  obtain ⟨a3, c3, rfl, hc3, hd3⟩ := s3.open
  clear s1 s2 s3 T O
  have HVD := hide (verdict_any _ _ l d w H1.out H2.out)
  rw [← vd_mk] at HVD
  obtain ⟨E, HE⟩ : ∃ E, Hid (E = mkE l d) := ⟨_, rfl⟩
  rw [← HE.out] at HVD
  go_enter Tryd.func6, Tryd.ntmps6
  go_wp2_with fail
  refine HVD.out.mono ?_
  rintro e w1 ⟨rfl, hw1⟩
  rw [hw1]
  clear hw1
  by_cases e0 : E = 0
  case neg =>
    have e0' : (E != 0) = true := by simpa using e0
    go_wp2
    go_ret
    exact ⟨rfl, Below.refl _ _⟩
  subst e0
  by_cases o19 : o.length = 19
  case neg =>
    have o19' : ((o.length : Int) != 19) = true := by simp; omega
    clear o19
    go_wp2
    go_ret
    exact ⟨rfl, Below.refl _ _⟩
  have HM0 : Hid (mkE l d = 0) := HE.out.symm
  have HF := hide (mk_facts HM0.out)
  have hl1 := HF.out.1
  have hl2 := HF.out.2.1
  have H19 := hide o19
  have HG3 : Hid (∀ W, Below w.heap.size w W → ∀ k, k < 19 → ∃ b q, a3 = some ⟨b, q, none⟩ ∧ W.cell? ⟨b, q + k, none⟩ = some (.int .i64 (o.getD k 0))) := fun W hW k hk => H3.out.get hW (by rw [H19.out]; exact hk)
  have HK3 : Hid (∀ W, Below w.heap.size w W → (∀ x ∈ o, 0 ≤ x ∧ x ≤ 15) → Calls Tryd.prog 24 #[.slice a3 19 c3] W fun e w' => e = .returned (.tuple #[.int .i64 (usum o : Nat), .int .i64 (tsum o : Nat)]) ∧ w' = W) := fun W hW hh => by
    have := lkraft_any _ o W (H3.out.below hW) hh (by rw [H19.out]; omega)
    rwa [H19.out] at this
  rw [o19] at hc3 ⊢
  clear o19 H3
  go_wp2_with fail
  refine (ints_any _ l w H1.out (by omega)).mono ?_
  rintro e w2 ⟨v4, rfl, hv4, o4, b4⟩
  subst hv4
  have HB4 := hide b4
  have HO4 := hide o4
  clear o4 b4
  go_wp2_with fail
  refine (ints_any _ d w2 (H2.out.below HB4.out) (by omega)).mono ?_
  rintro e w3 ⟨v5, rfl, hv5, o5, b5⟩
  subst hv5
  have HB5 := hide (HB4.out.trans (b5.mono HB4.out.size))
  have HMK := hide (make_any _ _ l d w3 (HO4.out.below b5 (Nat.le_refl _)).sb o5.sb (HT.out.mono HB5.out) (HO.out.mono HB5.out))
  clear o5 b5
  go_wp2_with fail
  refine HMK.out.mono ?_
  rintro e w4 ⟨hyn, b6⟩
  rcases hyn with ⟨hne, _⟩ | ⟨_, vL, vD, vC, vR, rfl, hmk⟩
  · exact absurd HM0.out hne
  obtain ⟨aL, cL, rfl⟩ := hmk.l.shape
  obtain ⟨aD, cD, rfl⟩ := hmk.d.shape
  obtain ⟨aC, cC, rfl⟩ := hmk.c.shape
  obtain ⟨aR, cR, rfl, hr1, hr2⟩ := hmk.r.shape
  have HB6 := hide (HB5.out.trans (b6.mono HB5.out.size))
  have HMD := hide hmk
  obtain ⟨f1, f2, f3, f4, f5, f6, f7, f8, f9, f10⟩ := HF.out
  have hC19 : (mkC l d).length = 19 := (lmt7 (R := mkR l d) (by omega)).1
  have HC7 := hide (lmt7 (R := mkR l d) (by omega)).2
  have HOK := hide f8
  have hRp : 0 < (mkR l d).length := run1_first (by rw [List.length_append]; omega)
  have HCD : Hid (mkC l d = lmt (usg (mkR l d)) 7) := rfl
  obtain ⟨L, HL⟩ : ∃ L, Hid (L = mkL l) := ⟨_, rfl⟩
  obtain ⟨D, HD⟩ : ∃ D, Hid (D = mkD d) := ⟨_, rfl⟩
  obtain ⟨C, HC⟩ : ∃ C, Hid (C = mkC l d) := ⟨_, rfl⟩
  obtain ⟨R, HR⟩ : ∃ R, Hid (R = mkR l d) := ⟨_, rfl⟩
  obtain ⟨Z, HZ⟩ : ∃ Z, Hid (Z = mkZ l d) := ⟨_, rfl⟩
  rw [← HL.out] at HMD ⊢
  rw [← HD.out] at HMD ⊢
  rw [← HC.out] at HMD hC19 HCD ⊢
  rw [← HR.out] at HMD HOK hRp f9 HCD HC7 hr1 ⊢
  rw [← HZ.out]
  rw [← HCD.out] at HC7
  have HSC := hide HMD.out.c.sb
  rw [hC19] at HSC HMD ⊢
  have HC19 := hide hC19
  have HGC : Hid (∀ W, Below w4.heap.size w4 W → ∀ k, k < 19 → ∃ b q, aC = some ⟨b, q, none⟩ ∧ W.cell? ⟨b, q + k, none⟩ = some (.int .i64 (C.getD k 0))) := fun W hW k hk => SI.get (l := C) (cap := cC) (by rw [HC19.out]; exact HSC.out) hW (by rw [HC19.out]; exact hk)
  have hR0 : ((R.length : Int) == 0) = false := by simp; intro q; rw [q] at hRp; simp at hRp
  clear hmk b6 f1 f2 f3 f4 f5 f6 f7 f8 f10 hC19
  obtain ⟨wb, hwb⟩ : ∃ wb, w4.alloc (.cells #[.slice aL L.length cL, .slice aD D.length cD, .slice aC 19 cC, .slice aR R.length cR, .int .i64 Z] 46) = wb := ⟨_, rfl⟩
  have bb : Below w4.heap.size w4 wb := by rw [← hwb]; exact (Below.refl _ _).alloc (Nat.le_refl _) _
  have hbx : Hbox wb w4.heap.size (.slice aL L.length cL) (.slice aD D.length cD) (.slice aC 19 cC) (.slice aR R.length cR) (.int .i64 Z) := by rw [← hwb]; exact heap_alloc_new w4 _
  have HBB := hide bb
  have HBW := hide (HB6.out.trans (bb.mono HB6.out.size))
  have HWB := hide hwb
  obtain ⟨x0, x1, x2, x3, x4⟩ := hbx.cells
  clear hwb bb hbx
  go_wp2
  (try rw [HWB.out])
  have HRS := hide HMD.out.r.sr
  clear HMK HVD HMD
  go_loopw [9] (fun i wr => ∃ k : Nat, k ≤ 19 ∧ i = .int .i64 k ∧ wr = wb ∧ Hid (∀ s, s < k → 0 ≤ o.getD s 0 ∧ o.getD s 0 ≤ 7)) (fun i _ => 19 - (intOf i).toNat)
  case atStart => exact ⟨0, Nat.zero_le _, rfl, rfl, fun s hs => by omega⟩
  case round =>
    obtain ⟨k, hk, rfl, hw, HA⟩ := hrel
    subst hw
    by_cases hlt : k < 19
    · have hlt' : (k : Int) < 19 := by omega
      obtain ⟨b3, q3, e3, y3⟩ := HG3.out wr HBW.out k hlt
      subst e3
      obtain ⟨y, HY⟩ : ∃ y, Hid (y = o.getD k 0) := ⟨_, rfl⟩
      rw [← HY.out] at y3
      by_cases n1 : y < 0
      · go_wp2
        go_ret
        exact ⟨rfl, HBW.out⟩
      · by_cases n2 : 7 < y
        · go_wp2
          go_ret
          exact ⟨rfl, HBW.out⟩
        · have HA2 : Hid (∀ s, s < k + 1 → 0 ≤ o.getD s 0 ∧ o.getD s 0 ≤ 7) := fun s hs => by
            by_cases q : s = k
            · rw [q, ← HY.out]; omega
            · exact HA.out s (by omega)
          go_wp2
          go_roundw
          case rel => exact ⟨k + 1, by omega, by go_num, trivial, HA2⟩
          case measure => simp [intOf]; omega
    · obtain rfl : k = 19 := by omega
      have H7 : Hid (∀ s, 0 ≤ o.getD s 0 ∧ o.getD s 0 ≤ 7) := fun s => by
        by_cases q : s < 19
        · exact HA.out s q
        · rw [show o.getD s 0 = 0 by rw [List.getD_eq_getElem?_getD, List.getElem?_eq_none (by rw [H19.out]; omega)]; rfl]; omega
      have HALL : Hid (∀ x ∈ o, 0 ≤ x ∧ x ≤ 15) := fun x hx => by
        obtain ⟨i, hi, rfl⟩ := List.getElem_of_mem hx
        have := H7.out i
        rw [show o.getD i 0 = o[i] by simp [hi]] at this
        omega
      have HKR := hide (HK3.out wr HBW.out HALL.out)
      obtain ⟨U, HU⟩ : ∃ U, Hid (U = usum o) := ⟨_, rfl⟩
      obtain ⟨N, HN⟩ : ∃ N, Hid (N = tsum o) := ⟨_, rfl⟩
      rw [← HU.out, ← HN.out] at HKR
      clear HA
      go_wp2_with fail
      refine HKR.out.mono ?_
      rintro e w5 ⟨rfl, hw5⟩
      rw [hw5]
      clear hw5
      by_cases uk : 32768 < U
      · have uk' : (32768 : Int) < (U : Int) := by omega
        go_wp2
        go_ret
        exact ⟨rfl, HBW.out⟩
      have uk' : ¬ (32768 : Int) < (U : Int) := by omega
      have HBEST : Hid ((∀ r ∈ R, o.getD r.1.toNat 0 ≠ 0) → gsm C R ≤ gsm o R) := fun hz => by
        have := small_best (R := R) (o := o) (by omega) HOK.out H19.out H7.out (by rw [← HU.out]; omega) hz
        rwa [← HCD.out] at this
      go_wp2
      go_loopw [12, 13, 14] (fun s t i wr2 => ∃ k : Nat, k ≤ R.length ∧ i = .int .i64 k ∧ s = .int .i64 (gsm C (R.take k)) ∧ t = .int .i64 (gsm o (R.take k)) ∧ wr2 = wr ∧ Hid (∀ r ∈ R.take k, o.getD r.1.toNat 0 ≠ 0)) (fun _ _ i _ => R.length - (intOf i).toNat)
      case atStart => exact ⟨0, Nat.zero_le _, rfl, rfl, rfl, rfl, fun r hr => by simp at hr⟩
      case round =>
        obtain ⟨k, hk2, rfl, rfl, rfl, hw, HA⟩ := hrel
        subst hw
        by_cases hlt : k < R.length
        · have hlt' : (k : Int) < (R.length : Int) := by omega
          obtain ⟨b, q, rfl, c1, c2⟩ := HRS.out.get HBB.out hlt
          have ok : Okr (R.getD k rn0) := HOK.out _ (by rw [show R.getD k rn0 = R[k] by simp [hlt]]; exact List.getElem_mem hlt)
          have hk3 := ok.1
          have hk4 := ok.2.1
          have HSN : Hid (R.take (k + 1) = R.take k ++ [R.getD k rn0]) := by show _ = _; rw [List.take_succ_eq_append_getElem hlt]; simp [hlt]
          obtain ⟨r, hr⟩ : ∃ r, r = R.getD k rn0 := ⟨_, rfl⟩
          rw [← hr] at c1 c2 hk3 hk4 HSN
          obtain ⟨s', c⟩ := r
          simp only at c1 c2 hk3 hk4
          obtain ⟨s, rfl⟩ := Int.eq_ofNat_of_zero_le hk3
          have hs : s < 19 := by omega
          have hs' : (s : Int) < 19 := by omega
          have g1 : ¬ (s : Int) < 0 := by omega
          have g2 : ¬ (18 : Int) < (s : Int) := by omega
          obtain ⟨b3, q3, e3, y3⟩ := HG3.out wr HBW.out s hs
          subst e3
          obtain ⟨bC, qC, eC, yC⟩ := HGC.out wr HBB.out s hs
          subst eC
          have HG1 : Hid (gsm C (R.take (k + 1)) = gsm C (R.take k) + C.getD s 0) := by show _ = _; rw [HSN.out, gsm_snoc]; rfl
          have HG2 : Hid (gsm o (R.take (k + 1)) = gsm o (R.take k) + o.getD s 0) := by show _ = _; rw [HSN.out, gsm_snoc]; rfl
          have hbd1 := gsm_bound (C := C) (fun s => by have := HC7.out s; omega) (R.take k)
          have hbd2 := gsm_bound (C := o) (fun s => by have := H7.out s; omega) (R.take k)
          have hrl : (R.take k).length ≤ 316 := by rw [List.length_take]; omega
          have h7c := HC7.out s
          have h7o := H7.out s
          have HAN : Hid (o.getD s 0 ≠ 0 → ∀ r ∈ R.take (k + 1), o.getD r.1.toNat 0 ≠ 0) := fun hz r hr => by
            rw [HSN.out] at hr
            rcases List.mem_append.1 hr with q | q
            · exact HA.out r q
            · rw [List.mem_singleton.1 q]; exact hz
          obtain ⟨Y, HY⟩ : ∃ Y, Hid (Y = o.getD s 0) := ⟨_, rfl⟩
          obtain ⟨X, HX⟩ : ∃ X, Hid (X = C.getD s 0) := ⟨_, rfl⟩
          obtain ⟨A, HAA⟩ : ∃ A, Hid (A = gsm C (R.take k)) := ⟨_, rfl⟩
          obtain ⟨B, HBBB⟩ : ∃ B, Hid (B = gsm o (R.take k)) := ⟨_, rfl⟩
          rw [← HY.out] at y3 HG2 h7o HAN
          rw [← HX.out] at yC HG1 h7c
          rw [← HAA.out] at HG1 hbd1 ⊢
          rw [← HBBB.out] at HG2 hbd2 ⊢
          clear hr ok hk3 hk4
          by_cases y0 : Y = 0
          · subst y0
            go_wp2
            go_ret
            exact ⟨rfl, HBW.out⟩
          · have y0' : (Y == 0) = false := by simpa using y0
            have HA2 := hide (HAN.out y0)
            have b1 : 0 ≤ A := hbd1.1
            have b2 : A ≤ 100000 := by omega
            have b3 : 0 ≤ B := hbd2.1
            have b4 : B ≤ 100000 := by omega
            have b5 : 0 ≤ X := h7c.1
            have b6 : X ≤ 7 := h7c.2
            have b7 : 0 ≤ Y := h7o.1
            have b8 : Y ≤ 7 := h7o.2
            clear hbd1 hbd2 h7c h7o HAN
            go_wp2
            go_roundw
            case rel => exact ⟨k + 1, by omega, by go_num, by rw [HG1.out], by rw [HG2.out], trivial, HA2⟩
            case measure => simp [intOf]; omega
        · obtain rfl : k = R.length := by omega
          have hlt' : ¬ (R.length : Int) < (R.length : Int) := by omega
          have htk : R.take R.length = R := List.take_of_length_le (Nat.le_refl _)
          have hle : gsm C (R.take R.length) ≤ gsm o (R.take R.length) := by rw [htk]; exact HBEST.out (by have := HA.out; rwa [htk] at this)
          have hdl : decide (gsm C (R.take R.length) ≤ gsm o (R.take R.length)) = true := decide_eq_true hle
          obtain ⟨A, HAA⟩ : ∃ A, Hid (A = gsm C (R.take R.length)) := ⟨_, rfl⟩
          obtain ⟨B, HBBB⟩ : ∃ B, Hid (B = gsm o (R.take R.length)) := ⟨_, rfl⟩
          rw [← HAA.out, ← HBBB.out] at hle hdl ⊢
          clear htk
          go_wp2
          go_ret
          exact ⟨rfl, HBW.out⟩
end Go.Proofs.YtiabhmdefaabgaaDoor

