import Derived.Test.YtiabhmdefaabgaaDoorGHlm
import Derived.Test.YtiabhmdefaabgaaDoorGRlr
namespace Go.Proofs.YtiabhmdefaabgaaDoor
open Go.RowKit Go.Maps
set_option maxRecDepth 20000
set_option linter.unusedVariables false

set_option maxHeartbeats 20000000 in
theorem headerHolds_walk (v1 v2 : Value) (l d : List Int) (w : World) (s1 : SI w v1 l) (s2 : SI w v2 d) (T : Tab w) (O : Odr w) :
    Calls Tryd.prog 7 #[v1, v2] w fun e w' => e = .returned (.bool true) ∧ Below w.heap.size w w' := by
  have H1 := hide s1
  have H2 := hide s2
  have HT := hide T
  have HO := hide O
  obtain ⟨a1, c1, rfl, hc1, hd1⟩ := s1.open
  obtain ⟨a2, c2, rfl, hc2, hd2⟩ := s2.open
  clear s1 s2 T O
  have HVD := hide (verdict_any _ _ l d w H1.out H2.out)
  rw [← vd_mk] at HVD
  obtain ⟨E, HE⟩ : ∃ E, Hid (E = mkE l d) := ⟨_, rfl⟩
  rw [← HE.out] at HVD
  go_enter Tryd.func7, Tryd.ntmps7
  go_wp2_with fail
  refine HVD.out.mono ?_
  rintro e w1 ⟨rfl, hw1⟩
  rw [hw1]
  clear hw1
  by_cases e0 : E = 0
  case neg =>
    have e0' : (E != 0) = true := by simpa using e0
    go_wp2
    go_ret
    exact ⟨rfl, Below.refl _ _⟩
  subst e0
  have HM0 : Hid (mkE l d = 0) := HE.out.symm
  have HF := hide (mk_facts HM0.out)
  have hl1 := HF.out.1
  have hl2 := HF.out.2.1
  go_wp2_with fail
  refine (ints_any _ l w H1.out (by omega)).mono ?_
  rintro e w2 ⟨v4, rfl, hv4, o4, b4⟩
  subst hv4
  have HB4 := hide b4
  have HO4 := hide o4
  clear o4 b4
  go_wp2_with fail
  refine (ints_any _ d w2 (H2.out.below HB4.out) (by omega)).mono ?_
  rintro e w3 ⟨v5, rfl, hv5, o5, b5⟩
  subst hv5
  have HB5 := hide (HB4.out.trans (b5.mono HB4.out.size))
  have HMK := hide (make_any _ _ l d w3 (HO4.out.below b5 (Nat.le_refl _)).sb o5.sb (HT.out.mono HB5.out) (HO.out.mono HB5.out))
  clear o5 b5
  go_wp2_with fail
  refine HMK.out.mono ?_
  rintro e w4 ⟨hyn, b6⟩
  rcases hyn with ⟨hne, _⟩ | ⟨_, vL, vD, vC, vR, rfl, hmk⟩
  · exact absurd HM0.out hne
  obtain ⟨aL, cL, rfl⟩ := hmk.l.shape
  obtain ⟨aD, cD, rfl⟩ := hmk.d.shape
  obtain ⟨aC, cC, rfl⟩ := hmk.c.shape
  obtain ⟨aR, cR, rfl, hr1, hr2⟩ := hmk.r.shape
  have HB6 := hide (HB5.out.trans (b6.mono HB5.out.size))
  have HMD := hide hmk
  obtain ⟨f1, f2, f3, f4, f5, f6, f7, f8, f9, f10⟩ := HF.out
  have hC19 : (mkC l d).length = 19 := (lmt7 (R := mkR l d) (by omega)).1
  have HC7 := hide (lmt7 (R := mkR l d) (by omega)).2
  have HOK := hide f8
  have hRp : 0 < (mkR l d).length := run1_first (by rw [List.length_append]; omega)
  have HCD : Hid (mkC l d = lmt (usg (mkR l d)) 7) := rfl
  have h256 : (mkL l ++ mkD d).getD 256 0 ≠ 0 := by rw [List.getD_eq_getElem?_getD, List.getElem?_append_left (by omega), ← List.getD_eq_getElem?_getD]; exact f10
  have hjl : 258 ≤ (mkL l ++ mkD d).length ∧ (mkL l ++ mkD d).length ≤ 316 := by rw [List.length_append]; omega
  have HFU := hide (small_full f7 hjl.1 hjl.2 h256)
  have HXP := hide (xp_rns f7)
  have HRJ : Hid (mkR l d = rns (mkL l ++ mkD d)) := rfl
  have HZD : Hid (mkZ l d = hsz (mkC l d) (mkR l d)) := rfl
  obtain ⟨L, HL⟩ : ∃ L, Hid (L = mkL l) := ⟨_, rfl⟩
  obtain ⟨D, HD⟩ : ∃ D, Hid (D = mkD d) := ⟨_, rfl⟩
  obtain ⟨C, HC⟩ : ∃ C, Hid (C = mkC l d) := ⟨_, rfl⟩
  obtain ⟨R, HR⟩ : ∃ R, Hid (R = mkR l d) := ⟨_, rfl⟩
  obtain ⟨Z, HZ⟩ : ∃ Z, Hid (Z = mkZ l d) := ⟨_, rfl⟩
  rw [← HRJ.out] at HFU HXP
  rw [← HCD.out] at HFU
  rw [← HL.out] at HMD HRJ HXP f3 f4 ⊢
  rw [← HD.out] at HMD HRJ HXP f5 f6 ⊢
  rw [← HC.out] at HMD hC19 HCD HFU HZD ⊢
  rw [← HR.out] at HMD HOK hRp f9 HCD HC7 hr1 HFU HXP HZD ⊢
  rw [← HZ.out] at HZD ⊢
  rw [← HCD.out] at HC7
  have HSC := hide HMD.out.c.sb
  rw [hC19] at HSC HMD ⊢
  have HC19 := hide hC19
  have HGC : Hid (∀ W, Below w4.heap.size w4 W → ∀ k, k < 19 → ∃ b q, aC = some ⟨b, q, none⟩ ∧ W.cell? ⟨b, q + k, none⟩ = some (.int .i64 (C.getD k 0))) := fun W hW k hk => SI.get (l := C) (cap := cC) (by rw [HC19.out]; exact HSC.out) hW (by rw [HC19.out]; exact hk)
  have hR0 : ((R.length : Int) == 0) = false := by simp; intro q; rw [q] at hRp; simp at hRp
  clear hmk b6 f1 f2 f7 f8 f10 hC19 h256 hjl
  obtain ⟨wb, hwb⟩ : ∃ wb, w4.alloc (.cells #[.slice aL L.length cL, .slice aD D.length cD, .slice aC 19 cC, .slice aR R.length cR, .int .i64 Z] 46) = wb := ⟨_, rfl⟩
  have bb : Below w4.heap.size w4 wb := by rw [← hwb]; exact (Below.refl _ _).alloc (Nat.le_refl _) _
  have hbx : Hbox wb w4.heap.size (.slice aL L.length cL) (.slice aD D.length cD) (.slice aC 19 cC) (.slice aR R.length cR) (.int .i64 Z) := by rw [← hwb]; exact heap_alloc_new w4 _
  have HBB := hide bb
  have HBX := hide hbx
  have HBW := hide (HB6.out.trans (bb.mono HB6.out.size))
  have HWB := hide hwb
  obtain ⟨x0, x1, x2, x3, x4⟩ := hbx.cells
  clear hwb bb hbx
  have g1 : ¬ (L.length : Int) < 257 := by omega
  have g2 : ¬ (286 : Int) < (L.length : Int) := by omega
  have g3 : ¬ (D.length : Int) < 1 := by omega
  have g4 : ¬ (30 : Int) < (D.length : Int) := by omega
  have HRS := hide HMD.out.r.sr
  have HLS := hide HMD.out.l.sb
  have HDS := hide HMD.out.d.sb
  have HEX := hide (expand_any _ R wb (HRS.out.below HBB.out) (HT.out.mono HBW.out) (by omega))
  have hxl : xpL R = L ++ D := by unfold xpL; rw [HXP.out.1]; exact HXP.out.2
  rw [HXP.out.1, hxl] at HEX
  obtain ⟨J, HJ⟩ : ∃ J, Hid (J = L ++ D) := ⟨_, rfl⟩
  rw [← HJ.out] at HEX
  clear HMK HVD hxl
  go_wp2_with fail
  rw [HWB.out]
  refine HEX.out.mono ?_
  rintro e w6 ⟨vJ, rfl, oJ, bJ⟩
  obtain ⟨gJ, cJ, hvJ, hJ1, hJ2, hJ3, hJ4⟩ := oJ.form (by rw [HJ.out, List.length_append]; omega)
  subst hvJ
  have HJL : Hid (J.length = L.length + D.length) := by show _ = _; rw [HJ.out, List.length_append]
  have HSJ := hide oJ.sb
  have HP1 : Hid (SI w6 (.slice (some ⟨gJ, 0, none⟩) L.length cJ) L) := by
    have := HSJ.out.sub (i := 0) (j := L.length) (Nat.zero_le _) (by rw [HJL.out]; omega)
    rw [HJ.out, List.drop_zero, Nat.sub_zero, List.take_append_of_le_length (Nat.le_refl _), List.take_of_length_le (Nat.le_refl _), Nat.sub_zero, Nat.add_zero] at this
    exact hide this
  have HP2 : Hid (SI w6 (.slice (some ⟨gJ, L.length, none⟩) (J.length - L.length) (cJ - L.length)) D) := by
    have := HSJ.out.sub (i := L.length) (j := J.length) (by rw [HJL.out]; omega) (Nat.le_refl _)
    rw [Nat.zero_add] at this
    have e : (J.drop L.length).take (J.length - L.length) = D := by
      rw [HJ.out, List.drop_append_of_le_length (Nat.le_refl _), List.drop_of_length_le (Nat.le_refl _), List.nil_append, List.take_of_length_le (by rw [List.length_append]; omega)]
    rw [e] at this
    exact hide this
  have HB7 := hide (HBW.out.trans (bJ.mono HBW.out.size))
  have HBB7 := hide (HBB.out.trans (bJ.mono HBB.out.size))
  have hbx7 : Hbox w6 w4.heap.size (.slice aL L.length cL) (.slice aD D.length cD) (.slice aC 19 cC) (.slice aR R.length cR) (.int .i64 Z) := HBX.out.below bJ
  obtain ⟨y0, y1, y2, y3, y4⟩ := hbx7.cells
  have HQ1 : Hid (∀ n, Calls Tryd.prog 13 #[.slice (some ⟨gJ, 0, none⟩) L.length cJ, .slice aL L.length cL] (w6.drewN n) fun e w'' => e = .returned (.bool true) ∧ ∃ m, w'' = w6.drewN m) := fun n => by
    have := isame_any _ _ L L (w6.drewN n) HP1.out (HLS.out.below (below_drewN HBB7.out n))
    rw [eqI_self] at this
    exact this.mono fun e w' ⟨he, q, hw⟩ => ⟨he, n + q, by rw [hw, World.drewN_drewN]⟩
  have HQ2 : Hid (∀ n, Calls Tryd.prog 13 #[.slice (some ⟨gJ, L.length, none⟩) (J.length - L.length) (cJ - L.length), .slice aD D.length cD] (w6.drewN n) fun e w'' => e = .returned (.bool true) ∧ ∃ m, w'' = w6.drewN m) := fun n => by
    have := isame_any _ _ D D (w6.drewN n) HP2.out (HDS.out.below (below_drewN HBB7.out n))
    rw [eqI_self] at this
    exact this.mono fun e w' ⟨he, q, hw⟩ => ⟨he, n + q, by rw [hw, World.drewN_drewN]⟩
  have j1 : ((J.length : Int) != (L.length : Int) + (D.length : Int)) = false := by simp; have := HJL.out; omega
  have jw : IntKind.i64.wrap ((L.length : Int) + (D.length : Int)) = (L.length : Int) + (D.length : Int) := by rw [IntKind.wrap_i64]; omega
  have j1w : ((J.length : Int) != IntKind.i64.wrap ((L.length : Int) + (D.length : Int))) = false := by rw [jw]; exact j1
  have j2 : (L.length : Int) ≤ (cJ : Int) := by have := HJL.out; omega
  have j3 : (L.length : Int) ≤ (J.length : Int) := by have := HJL.out; omega
  have j4 : (J.length : Int) ≤ (cJ : Int) := by omega
  have HQ : Hid (∀ x y n, (x = Value.slice (some ⟨gJ, 0, none⟩) L.length cJ ∧ y = Value.slice aL L.length cL) ∨ (x = Value.slice (some ⟨gJ, L.length, none⟩) (J.length - L.length) (cJ - L.length) ∧ y = Value.slice aD D.length cD) → Calls Tryd.prog 13 #[x, y] (w6.drewN n) fun e w'' => e = .returned (.bool true) ∧ ∃ m, w'' = w6.drewN m) := fun x y n h => by
    rcases h with ⟨rfl, rfl⟩ | ⟨rfl, rfl⟩
    · exact HQ1.out n
    · exact HQ2.out n
  have hcj : ¬ cJ = L.length := by have := HJL.out; omega
  have HNUM := hide (show 257 ≤ L.length ∧ L.length ≤ 286 ∧ 1 ≤ D.length ∧ D.length ≤ 30 ∧ R.length ≤ 316 ∧ 0 < R.length from ⟨f3, f4, f5, f6, f9, hRp⟩)
  have HBJ := hide (fun n => below_drewN bJ n)
  clear HEX oJ bJ x0 x1 x2 x3 x4 hbx7 hc1 hd1 hc2 hd2 hl1 hl2 hr1 hr2 hRp hR0 g1 g2 g3 g4 f3 f4 f5 f6 f9 HF HM0 HE H1 H2 HB4 HB5 HO4 hJ1 hJ3 hJ4 HQ1 HQ2 HP1 HP2
  go_wp2
  go_big_quiet ((go_at_call 13; refine HQ.out _ _ _ ?_; first | exact .inl ⟨rfl, rfl⟩ | exact .inr ⟨rfl, rfl⟩))
  obtain ⟨w7, HW7⟩ : ∃ w7, Hid (w6.drewN nq = w7) := ⟨_, rfl⟩
  have HB8 : Hid (Below w.heap.size w w7) := by rw [← HW7.out]; exact hide (below_drewN HB7.out nq)
  have HBB8 : Hid (Below w4.heap.size w4 w7) := by rw [← HW7.out]; exact hide (below_drewN HBB7.out nq)
  have HBX8 : Hid (Hbox w7 w4.heap.size (.slice aL L.length cL) (.slice aD D.length cD) (.slice aC 19 cC) (.slice aR R.length cR) (.int .i64 Z)) := by
    rw [← HW7.out]
    exact hide (HBX.out.below (HBJ.out nq))
  rw [HW7.out]
  clear y0 y1 y2 y3 y4 j1 jw j1w j2 j3 j4 hcj HQ hJ2
  obtain ⟨y0, y1, y2, y3, y4⟩ := HBX8.out.cells
  have HALL : Hid (∀ x ∈ C, 0 ≤ x ∧ x ≤ 15) := fun x hx => by
    obtain ⟨i, hi, rfl⟩ := List.getElem_of_mem hx
    have := HC7.out i
    rw [show C.getD i 0 = C[i] by simp [hi]] at this
    omega
  have HKR : Hid (Calls Tryd.prog 24 #[.slice aC 19 cC] w7 fun e w' => e = .returned (.tuple #[.int .i64 32768, .int .i64 (tsum C : Nat)]) ∧ w' = w7) := by
    have h := lkraft_any (.slice aC C.length cC) C w7 (by rw [HC19.out]; exact HSC.out.below HBB8.out) HALL.out (by rw [HC19.out]; omega)
    rw [HFU.out.1, HC19.out] at h
    exact hide h
  go_wp2
  go_loopw [9] (fun i wr => ∃ k : Nat, k ≤ 19 ∧ i = .int .i64 k ∧ wr = w7) (fun i _ => 19 - (intOf i).toNat)
  case atStart => exact ⟨0, Nat.zero_le _, rfl, rfl⟩
  case round =>
    obtain ⟨k, hk, rfl, hw⟩ := hrel
    subst hw
    by_cases hlt : k < 19
    · have hlt' : (k : Int) < 19 := by omega
      obtain ⟨b3, q3, e3, z3⟩ := HGC.out wr HBB8.out k hlt
      subst e3
      have h7 := HC7.out k
      obtain ⟨y, HY⟩ : ∃ y, Hid (y = C.getD k 0) := ⟨_, rfl⟩
      rw [← HY.out] at z3 h7
      have n1 : ¬ y < 0 := by omega
      have n2 : ¬ 7 < y := by omega
      clear h7
      go_wp2
      go_roundw
      case rel => exact ⟨k + 1, by omega, by go_num, trivial⟩
      case measure => simp [intOf]; omega
    · obtain rfl : k = 19 := by omega
      go_wp2_with fail
      refine HKR.out.mono ?_
      rintro e w8 ⟨rfl, hw8⟩
      rw [hw8]
      clear hw8
      go_wp2
      obtain ⟨wz, hz⟩ : ∃ wz, wz = wr := ⟨_, rfl⟩
      subst hz
      obtain ⟨wo, HWO⟩ : ∃ wo, Hid (wz.alloc (.cells #[.int .i64 16, .int .i64 17, .int .i64 18, .int .i64 0, .int .i64 8, .int .i64 7, .int .i64 9, .int .i64 6, .int .i64 10, .int .i64 5, .int .i64 11, .int .i64 4, .int .i64 12, .int .i64 3, .int .i64 13, .int .i64 2, .int .i64 14, .int .i64 1, .int .i64 15] 3) = wo) := ⟨_, rfl⟩
      have HO1 : Hid (OI wo wz.heap.size (.slice (some ⟨wz.heap.size, 0, none⟩) 19 19) zor) := by rw [← HWO.out]; exact hide (OI.of_full (l := zor) (by rw [heap_alloc_new]; rfl) (Nat.le_refl _) (by unfold maxLen; decide))
      have HBo : Hid (Below w.heap.size w wo) := by rw [← HWO.out]; exact hide (HB8.out.alloc HB8.out.size _)
      have HBBo : Hid (Below w4.heap.size w4 wo) := by rw [← HWO.out]; exact hide (HBB8.out.alloc HBB8.out.size _)
      have HBXo : Hid (Hbox wo w4.heap.size (.slice aL L.length cL) (.slice aD D.length cD) (.slice aC 19 cC) (.slice aR R.length cR) (.int .i64 Z)) := by rw [← HWO.out]; exact hide (HBX8.out.below ((Below.refl _ _).alloc (Nat.le_refl _) _))
      rw [HWO.out]
      clear y0 y1 y2 y3 y4
      go_loopw [13, 14] (fun t i w2 => ∃ k : Nat, k ≤ 19 ∧ i = .int .i64 k ∧ t = .int .i64 (wfw C k : Nat) ∧ Hid (OI w2 wz.heap.size (.slice (some ⟨wz.heap.size, 0, none⟩) 19 19) zor) ∧ Hid (Hbox w2 w4.heap.size (.slice aL L.length cL) (.slice aD D.length cD) (.slice aC 19 cC) (.slice aR R.length cR) (.int .i64 Z)) ∧ Hid (Below w.heap.size w w2) ∧ Hid (Below w4.heap.size w4 w2)) (fun _ i _ => 19 - (intOf i).toNat)
      case atStart => exact ⟨0, Nat.zero_le _, rfl, rfl, HO1, HBXo, HBo, HBBo⟩
      case round =>
        obtain ⟨k, hk, rfl, rfl, HOk, HBXk, HBk, HBBk⟩ := hrel
        obtain ⟨y0, y1, y2, y3, y4⟩ := HBXk.out.cells
        by_cases hlt : k < 19
        · have hlt' : (k : Int) < 19 := by omega
          have c0 := HOk.out.get (b := wz.heap.size) rfl (i := k) (by show k < 19; exact hlt)
          have zz := zor_at k hlt
          have HST : Hid (wfw C (k + 1) = if 0 < C.getD (zor.getD k 0).toNat 0 ∧ wfw C k < k + 1 then k + 1 else wfw C k) := rfl
          obtain ⟨z', hz⟩ : ∃ z', z' = zor.getD k 0 := ⟨_, rfl⟩
          rw [← hz] at c0 zz HST
          obtain ⟨z, rfl⟩ := Int.eq_ofNat_of_zero_le zz.1
          rw [Int.toNat_natCast] at HST
          have hz19 : z < 19 := by omega
          have hz19' : (z : Int) < 19 := by omega
          obtain ⟨bC, qC, eC, cz⟩ := HGC.out _ HBBk.out z hz19
          subst eC
          have hG : wfw C k ≤ 19 := by
            by_cases q : 4 ≤ k
            · have := (wfw_wrn (fun s => (HC7.out s).1) k q).2; omega
            · rw [wfw_low C k (by omega)]; omega
          have h7 := HC7.out z
          obtain ⟨Y, HY⟩ : ∃ Y, Hid (Y = C.getD z 0) := ⟨_, rfl⟩
          obtain ⟨G, HGG⟩ : ∃ G, Hid (G = wfw C k) := ⟨_, rfl⟩
          rw [← HY.out] at cz h7 HST
          rw [← HGG.out] at hG HST ⊢
          have kw : IntKind.i64.wrap ((k : Int) + 1) = (k : Int) + 1 := by rw [IntKind.wrap_i64]; omega
          have HOn := hide (fun q => (HOk.out.move (w' := wr.drewN q) fun _ _ => rfl))
          have HXn : Hid (∀ q, Hbox (wr.drewN q) w4.heap.size (.slice aL L.length cL) (.slice aD D.length cD) (.slice (some ⟨bC, qC, none⟩) 19 cC) (.slice aR R.length cR) (.int .i64 Z)) := fun q => HBXk.out
          have HBn := hide (fun q => below_drewN HBk.out q)
          have HBBn := hide (fun q => below_drewN HBBk.out q)
          clear hz zz h7
          by_cases hp : 0 < Y
          · have hp' : decide (0 < Y) = true := decide_eq_true hp
            by_cases hq : G < k + 1
            · have hq' : decide ((G : Int) < (k : Int) + 1) = true := decide_eq_true (by omega)
              have HV : Hid (wfw C (k + 1) = k + 1) := by show _ = _; rw [HST.out, if_pos ⟨hp, hq⟩]
              go_wp2
              go_quiet (fail)
              go_wp2
              go_roundw
              case rel => exact ⟨k + 1, by omega, by go_num, by rw [HV.out]; go_num, HOn.out _, HXn.out _, HBn.out _, HBBn.out _⟩
              case measure => simp [intOf]; omega
            · have hq' : decide ((G : Int) < (k : Int) + 1) = false := decide_eq_false (by omega)
              have HV : Hid (wfw C (k + 1) = G) := by show _ = _; rw [HST.out, if_neg (fun z => hq z.2)]
              go_wp2
              go_quiet (fail)
              go_wp2
              go_roundw
              case rel => exact ⟨k + 1, by omega, by go_num, by rw [HV.out], HOn.out _, HXn.out _, HBn.out _, HBBn.out _⟩
              case measure => simp [intOf]; omega
          · have hp' : decide (0 < Y) = false := decide_eq_false hp
            have HV : Hid (wfw C (k + 1) = G) := by show _ = _; rw [HST.out, if_neg (fun z => hp z.1)]
            go_wp2
            go_quiet (fail)
            go_wp2
            go_roundw
            case rel => exact ⟨k + 1, by omega, by go_num, by rw [HV.out], HOn.out _, HXn.out _, HBn.out _, HBBn.out _⟩
            case measure => simp [intOf]; omega
        · obtain rfl : k = 19 := by omega
          rw [show ((19 : Nat) : Int) = (19 : Int) from rfl]
          have hw19 := wrt_le C
          obtain ⟨W, HW⟩ : ∃ W, Hid (W = wrt C) := ⟨_, rfl⟩
          rw [wfw_wrt (fun s => (HC7.out s).1), ← HW.out]
          rw [← HW.out] at hw19
          have HRB := hide (fun k => rsz_bound (fun s => ⟨(HC7.out s).1, by have := (HC7.out s).2; omega⟩) (R.take k))
          have hR316 : R.length ≤ 316 := HNUM.out.2.2.2.2.1
          go_wp2
          obtain ⟨wy, hz⟩ : ∃ wy, wy = wr := ⟨_, rfl⟩
          subst hz
          clear y0 y1 y2 y3 y4
          go_loopw [15, 16] (fun t i w2 => ∃ k : Nat, k ≤ R.length ∧ i = .int .i64 k ∧ t = .int .i64 (14 + 3 * (W : Int) + rsz C (R.take k)) ∧ Hid (Hbox w2 w4.heap.size (.slice aL L.length cL) (.slice aD D.length cD) (.slice aC 19 cC) (.slice aR R.length cR) (.int .i64 Z)) ∧ Hid (Below w.heap.size w w2) ∧ Hid (Below w4.heap.size w4 w2)) (fun _ i _ => R.length - (intOf i).toNat)
          case atStart => exact ⟨0, Nat.zero_le _, rfl, by simp [rsz], HBXk, HBk, HBBk⟩
          case round =>
            obtain ⟨k, hk, rfl, rfl, HBXm, HBm, HBBm⟩ := hrel
            by_cases hlt : k < R.length
            · have hlt' : (k : Int) < (R.length : Int) := by omega
              obtain ⟨b, o, rfl, c1, c2⟩ := HRS.out.get HBBm.out hlt
              have hmem : R.getD k rn0 ∈ R := by rw [show R.getD k rn0 = R[k] by simp [hlt]]; exact List.getElem_mem hlt
              have ok : Okr (R.getD k rn0) := HOK.out _ hmem
              have hnz := HFU.out.2 _ hmem
              have hk1 := ok.1
              have hk2 := ok.2.1
              have HSN : Hid (R.take (k + 1) = R.take k ++ [R.getD k rn0]) := by show _ = _; rw [List.take_succ_eq_append_getElem hlt]; simp [hlt]
              obtain ⟨r, hr⟩ : ∃ r, r = R.getD k rn0 := ⟨_, rfl⟩
              rw [← hr] at c1 c2 hk1 hk2 HSN hnz
              obtain ⟨s', c⟩ := r
              simp only at c1 c2 hk1 hk2 hnz
              obtain ⟨s, rfl⟩ := Int.eq_ofNat_of_zero_le hk1
              rw [Int.toNat_natCast] at hnz
              have hs : s < 19 := by omega
              have hs' : (s : Int) < 19 := by omega
              have g1 : ¬ (s : Int) < 0 := by omega
              have g2 : ¬ (18 : Int) < (s : Int) := by omega
              have HRN : Hid (rsz C (R.take (k + 1)) = rsz C (R.take k) + (C.getD s 0 + (frt s : Nat))) := by show _ = _; rw [HSN.out, rsz_snoc]; rfl
              have hrb := HRB.out k
              have hrl : (R.take k).length ≤ 316 := by rw [List.length_take]; omega
              obtain ⟨bC, qC, eC, cz⟩ := HGC.out _ HBBm.out s hs
              subst eC
              have h7 := HC7.out s
              have hfb := frt_le s
              have HXF := hide (fun q => lfurther_any s (wr.drewN q) hs)
              obtain ⟨Y, HY⟩ : ∃ Y, Hid (Y = C.getD s 0) := ⟨_, rfl⟩
              obtain ⟨F, HFF⟩ : ∃ F, Hid (F = frt s) := ⟨_, rfl⟩
              obtain ⟨S0, HS0⟩ : ∃ S0, Hid (S0 = 14 + 3 * (W : Int) + rsz C (R.take k)) := ⟨_, rfl⟩
              rw [← HY.out] at cz h7 HRN hnz
              rw [← HFF.out] at HXF hfb HRN
              have hz1 : 0 ≤ S0 := by rw [HS0.out]; omega
              have hz2 : S0 ≤ 1000000 := by rw [HS0.out]; omega
              have HEQ : Hid (14 + 3 * (W : Int) + rsz C (R.take (k + 1)) = S0 + Y + (F : Nat)) := by show _ = _; rw [HRN.out, HS0.out]; omega
              have hy1 : 0 ≤ Y := h7.1
              have hy2 : Y ≤ 7 := h7.2
              have hy0 : (Y == 0) = false := by simpa using hnz
              rw [← HS0.out]
              obtain ⟨y0, y1, y2, y3, y4⟩ := HBXm.out.cells
              have HXn : Hid (∀ q, Hbox (wr.drewN q) w4.heap.size (.slice aL L.length cL) (.slice aD D.length cD) (.slice (some ⟨bC, qC, none⟩) 19 cC) (.slice (some ⟨b, o, none⟩) R.length cR) (.int .i64 Z)) := fun q => HBXm.out
              have HCn : Hid (∀ q, (wr.drewN q).cell? ⟨b, o + k * 2, none⟩ = some (.int .i64 s)) := fun q => c1
              have HBn := hide (fun q => below_drewN HBm.out q)
              have HBBn := hide (fun q => below_drewN HBBm.out q)
              clear hr ok hk1 hk2 h7 hrb hmem hnz
              go_wp2
              go_quiet (fail)
              have x3 := (HXn.out nq).cells.2.2.2.1
              have c3 := HCn.out nq
              go_wp2_with fail
              refine (HXF.out _).mono ?_
              rintro e wn ⟨rfl, hwn⟩
              rw [hwn]
              clear hwn
              go_wp2
              go_roundw
              case rel => exact ⟨k + 1, by omega, by go_num, by rw [HEQ.out], HXn.out _, HBn.out _, HBBn.out _⟩
              case measure => simp [intOf]; omega
            · obtain rfl : k = R.length := by omega
              have hlt' : ¬ (R.length : Int) < (R.length : Int) := by omega
              have e9 : 14 + 3 * (W : Int) + rsz C (R.take R.length) = Z := by rw [List.take_of_length_le (Nat.le_refl _), HZD.out, HW.out]; rfl
              rw [e9]
              clear e9
              have hzz : (Z == Z) = true := by simp
              obtain ⟨y0, y1, y2, y3, y4⟩ := HBXm.out.cells
              go_wp2
              go_ret
              exact ⟨rfl, HBm.out⟩
end Go.Proofs.YtiabhmdefaabgaaDoor

