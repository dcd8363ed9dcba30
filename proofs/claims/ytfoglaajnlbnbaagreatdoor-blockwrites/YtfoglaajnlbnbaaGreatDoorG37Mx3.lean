import Derived.Test.YtfoglaajnlbnbaaGreatDoorG35Mx2
import Derived.Test.YtfoglaajnlbnbaaGreatDoorG22Mk5
import Derived.Test.YtfoglaajnlbnbaaGreatDoorG18Lsd
namespace Go.Proofs.YtfoglaajnlbnbaaGreatDoor
open Go.RowKit Go.Maps
set_option maxRecDepth 20000
set_option linter.unusedVariables false

theorem tlk_stop (l : List Int) (f n : Nat) (h : f < tlk l f n) : l.getD (tlk l f n - 1) 0 ≠ 0 := by
  induction n with
  | zero => simp [tlk] at h
  | succ n ih =>
    simp only [tlk] at h ⊢
    by_cases q : f < n + 1 ∧ l.getD n 0 = 0
    · rw [if_pos q] at h ⊢; exact ih h
    · rw [if_neg q] at h ⊢
      rw [Nat.add_sub_cancel]
      exact fun z => q ⟨h, z⟩

theorem trm_trm (l : List Int) (f : Nat) : trm (trm l f) f = trm l f := by
  have hl := trm_len l f
  have e : tlk (trm l f) f (trm l f).length = (trm l f).length := by
    by_cases h : tln l f ≤ f
    · exact tl_low _ _ _ (by omega)
    · have hlen : (trm l f).length = tln l f := by omega
      have hs := tlk_stop l f l.length (by unfold tln at h; omega)
      obtain ⟨n, hn⟩ : ∃ n, tln l f = n + 1 := ⟨tln l f - 1, by omega⟩
      rw [hlen, hn]
      simp only [tlk]
      rw [if_neg]
      rintro ⟨_, q⟩
      rw [trm_getD] at q
      apply hs
      show l.getD (tln l f - 1) 0 = 0
      rw [hn, Nat.add_sub_cancel]
      exact q
  have e1 : trm (trm l f) f = (trm l f).take (tlk (trm l f) f (trm l f).length) ++ List.replicate (f - tlk (trm l f) f (trm l f).length) 0 := rfl
  rw [e1, e, List.take_of_length_le (Nat.le_refl _), show f - (trm l f).length = 0 by omega, List.replicate_zero, List.append_nil]

theorem hbox_keep {wr w3 : World} {B g : Nat} {u v3 a b c d e : Value} {D : List Int} {o : Obj} (hO : OI wr B u D) (hg : Hbox wr g a b c d e) (hgr : Grew (wr.alloc o) w3 u v3) : Hbox w3 g a b c d e := by
  have hlt := hg.lt
  have hne : u.ownBlock ≠ some g := fun he => oi_apart7 hO hg g he rfl
  exact (hgr.by.block g (by simp; omega) (fun e => hne e.symm)).trans ((Below.heap_alloc wr o g hlt).trans hg)

theorem oi_keep {wr w3 : World} {B : Nat} {u v3 x : Value} {D l : List Int} {o : Obj} {B2 : Nat} (hO : OI wr B u D) (hx : OI wr B2 x l) (hne : ∀ k, x.ownBlock = some k → u.ownBlock ≠ some k) (hgr : Grew (wr.alloc o) w3 u v3) : OI w3 B2 x l := by
  refine hx.move fun k hk => ?_
  have hlt := (hx.lt k hk).2
  exact (hgr.by.block k (by simp; omega) (fun e => hne k hk e.symm)).trans (Below.heap_alloc wr o k hlt)

set_option maxHeartbeats 3000000 in
theorem xmake_any (v1 v2 : Value) (l d : List Int) (w : World) (s1 : SI w v1 l) (s2 : SI w v2 d) (O : Xodr w) :
    Calls Tryz.prog 84 #[v1, v2] w fun e w' => ((mkE l d ≠ 0 ∧ MkNo (mkE l d) e) ∨ (mkE l d = 0 ∧ MkYes w w' l d e)) ∧ Below w.heap.size w w' := by
  have H1 := hide s1
  have H2 := hide s2
  have HO := hide O
  obtain ⟨a1, c1, rfl, hc1, hd1⟩ := s1.open
  obtain ⟨a2, c2, rfl, hc2, hd2⟩ := s2.open
  clear s1 s2 O
  obtain ⟨wb, hwb⟩ : ∃ wb, w.alloc (.cells #[.slice none 0 0, .slice none 0 0, .slice none 0 0, .slice none 0 0, .int .i64 0] 129) = wb := ⟨_, rfl⟩
  have hb0 : Below w.heap.size w wb := by rw [← hwb]; exact (Below.refl _ _).alloc (Nat.le_refl _) _
  have hx0 : Hbox wb w.heap.size (.slice none 0 0) (.slice none 0 0) (.slice none 0 0) (.slice none 0 0) (.int .i64 0) := by rw [← hwb]; exact heap_alloc_new w _
  have HB0 := hide hb0
  have HX0 := hide hx0
  have HWB := hide hwb
  have HCL1 := hide (xlengths_any _ l wb (H1.out.below hb0))
  have HCL2 := hide (xlengths_any _ d wb (H2.out.below hb0))
  obtain ⟨p0, p1, p2, p3, p4⟩ := hx0.cells
  obtain ⟨q0, q1, q2, q3, q4⟩ := hx0.frozen
  clear hwb hb0 hx0
  by_cases hbad : 286 < l.length ∨ 30 < d.length ∨ wthb l = false ∨ wthb d = false
  · have HE : Hid (mkE l d = 1) := by show _ = _; unfold mkE; rw [if_pos hbad]
    have HNE : Hid (mkE l d ≠ 0) := by show _ ≠ _; rw [HE.out]; decide
    obtain ⟨BL, HBL⟩ : ∃ x, Hid (x = wthb l) := ⟨_, rfl⟩
    obtain ⟨BD, HBD⟩ : ∃ x, Hid (x = wthb d) := ⟨_, rfl⟩
    rw [← HBL.out] at HCL1 hbad
    rw [← HBD.out] at HCL2 hbad
    go_enter Tryz.func84, Tryz.ntmps84
    go_wp2_with fail
    rw [HWB.out]
    refine HCL1.out.mono ?_
    rintro e w1 ⟨rfl, hw1⟩
    rw [hw1]
    clear hw1
    go_wp2_with fail
    refine HCL2.out.mono ?_
    rintro e w1 ⟨rfl, hw1⟩
    rw [hw1]
    clear hw1
    by_cases g1 : 286 < l.length
    · have g1' : (286 : Int) < (l.length : Int) := by omega
      clear hbad
      go_wp2
      obtain ⟨wf, hwf⟩ : ∃ wf, (((((wb.setCell ⟨w.heap.size, 0, none⟩ (.slice none 0 0)).setCell ⟨w.heap.size, 1, none⟩ (.slice none 0 0)).setCell ⟨w.heap.size, 2, none⟩ (.slice none 0 0)).setCell ⟨w.heap.size, 3, none⟩ (.slice none 0 0)).setCell ⟨w.heap.size, 4, none⟩ (.int .i64 0)) = wf := ⟨_, rfl⟩
      have hfx : Hbox wf w.heap.size (.slice none 0 0) (.slice none 0 0) (.slice none 0 0) (.slice none 0 0) (.int .i64 0) := by rw [← hwf]; exact HX0.out.put
      have hfb : Below w.heap.size w wf := by rw [← hwf]; exact put_below HB0.out (Nat.le_refl _)
      rw [hwf]
      obtain ⟨f0, f1, f2, f3, f4⟩ := hfx.cells
      refine bodyPost_ret (v := .tuple #[.agg #[.slice none 0 0, .slice none 0 0, .slice none 0 0, .slice none 0 0, .int .i64 0], .int .i64 1]) (by simp [results, Tryz.results84, go_sem, f0, f1, f2, f3, f4]) rfl ?_
      exact ⟨.inl ⟨HNE.out, by unfold MkNo; rw [HE.out]⟩, hfb⟩
    · have g1' : ¬ (286 : Int) < (l.length : Int) := by omega
      by_cases g2 : 30 < d.length
      · have g2' : (30 : Int) < (d.length : Int) := by omega
        clear hbad
        go_wp2
        obtain ⟨wf, hwf⟩ : ∃ wf, (((((wb.setCell ⟨w.heap.size, 0, none⟩ (.slice none 0 0)).setCell ⟨w.heap.size, 1, none⟩ (.slice none 0 0)).setCell ⟨w.heap.size, 2, none⟩ (.slice none 0 0)).setCell ⟨w.heap.size, 3, none⟩ (.slice none 0 0)).setCell ⟨w.heap.size, 4, none⟩ (.int .i64 0)) = wf := ⟨_, rfl⟩
        have hfx : Hbox wf w.heap.size (.slice none 0 0) (.slice none 0 0) (.slice none 0 0) (.slice none 0 0) (.int .i64 0) := by rw [← hwf]; exact HX0.out.put
        have hfb : Below w.heap.size w wf := by rw [← hwf]; exact put_below HB0.out (Nat.le_refl _)
        rw [hwf]
        obtain ⟨f0, f1, f2, f3, f4⟩ := hfx.cells
        refine bodyPost_ret (v := .tuple #[.agg #[.slice none 0 0, .slice none 0 0, .slice none 0 0, .slice none 0 0, .int .i64 0], .int .i64 1]) (by simp [results, Tryz.results84, go_sem, f0, f1, f2, f3, f4]) rfl ?_
        exact ⟨.inl ⟨HNE.out, by unfold MkNo; rw [HE.out]⟩, hfb⟩
      · have g2' : ¬ (30 : Int) < (d.length : Int) := by omega
        cases BL with
        | false =>
          clear hbad
          go_wp2
          obtain ⟨wf, hwf⟩ : ∃ wf, (((((wb.setCell ⟨w.heap.size, 0, none⟩ (.slice none 0 0)).setCell ⟨w.heap.size, 1, none⟩ (.slice none 0 0)).setCell ⟨w.heap.size, 2, none⟩ (.slice none 0 0)).setCell ⟨w.heap.size, 3, none⟩ (.slice none 0 0)).setCell ⟨w.heap.size, 4, none⟩ (.int .i64 0)) = wf := ⟨_, rfl⟩
          have hfx : Hbox wf w.heap.size (.slice none 0 0) (.slice none 0 0) (.slice none 0 0) (.slice none 0 0) (.int .i64 0) := by rw [← hwf]; exact HX0.out.put
          have hfb : Below w.heap.size w wf := by rw [← hwf]; exact put_below HB0.out (Nat.le_refl _)
          rw [hwf]
          obtain ⟨f0, f1, f2, f3, f4⟩ := hfx.cells
          refine bodyPost_ret (v := .tuple #[.agg #[.slice none 0 0, .slice none 0 0, .slice none 0 0, .slice none 0 0, .int .i64 0], .int .i64 1]) (by simp [results, Tryz.results84, go_sem, f0, f1, f2, f3, f4]) rfl ?_
          exact ⟨.inl ⟨HNE.out, by unfold MkNo; rw [HE.out]⟩, hfb⟩
        | true =>
          obtain rfl : BD = false := by
            rcases hbad with h | h | h | h
            · exact absurd h g1
            · exact absurd h g2
            · cases h
            · exact h
          clear hbad
          go_wp2
          obtain ⟨wf, hwf⟩ : ∃ wf, (((((wb.setCell ⟨w.heap.size, 0, none⟩ (.slice none 0 0)).setCell ⟨w.heap.size, 1, none⟩ (.slice none 0 0)).setCell ⟨w.heap.size, 2, none⟩ (.slice none 0 0)).setCell ⟨w.heap.size, 3, none⟩ (.slice none 0 0)).setCell ⟨w.heap.size, 4, none⟩ (.int .i64 0)) = wf := ⟨_, rfl⟩
          have hfx : Hbox wf w.heap.size (.slice none 0 0) (.slice none 0 0) (.slice none 0 0) (.slice none 0 0) (.int .i64 0) := by rw [← hwf]; exact HX0.out.put
          have hfb : Below w.heap.size w wf := by rw [← hwf]; exact put_below HB0.out (Nat.le_refl _)
          rw [hwf]
          obtain ⟨f0, f1, f2, f3, f4⟩ := hfx.cells
          refine bodyPost_ret (v := .tuple #[.agg #[.slice none 0 0, .slice none 0 0, .slice none 0 0, .slice none 0 0, .int .i64 0], .int .i64 1]) (by simp [results, Tryz.results84, go_sem, f0, f1, f2, f3, f4]) rfl ?_
          exact ⟨.inl ⟨HNE.out, by unfold MkNo; rw [HE.out]⟩, hfb⟩
  · have g1 : ¬ (286 : Int) < (l.length : Int) := by omega
    have g2 : ¬ (30 : Int) < (d.length : Int) := by omega
    have g3 : wthb l = true := by
      cases q : wthb l with
      | true => rfl
      | false => exact absurd (.inr (.inr (.inl q))) hbad
    have g4 : wthb d = true := by
      cases q : wthb d with
      | true => rfl
      | false => exact absurd (.inr (.inr (.inr q))) hbad
    have HMK : Hid (mkE l d = hck (mkL l) (mkD d)) := by show _ = _; unfold mkE; rw [if_neg hbad]
    have hl1 : l.length ≤ 286 := by omega
    have hl2 : d.length ≤ 30 := by omega
    have hLl := trm_lens (l := l) (f := 257) hl1 (by omega)
    have hDl := trm_lens (l := d) (f := 1) (by omega) (by omega)
    have HLA := hide (trm_all l 257 (wth_iff.1 g3))
    have HDA := hide (trm_all d 1 (wth_iff.1 g4))
    have HT1 := hide (xcut_any _ l 257 wb (H1.out.below HB0.out) (by omega) (by omega) (by omega))
    rw [g3] at HCL1
    rw [g4] at HCL2
    obtain ⟨L, HLL⟩ : ∃ L, Hid (L = mkL l) := ⟨_, rfl⟩
    obtain ⟨D, HDD⟩ : ∃ D, Hid (D = mkD d) := ⟨_, rfl⟩
    have eL : trm l 257 = L := HLL.out.symm
    have eD : trm d 1 = D := HDD.out.symm
    rw [eL] at HT1 HLA hLl
    rw [eD] at HDA hDl
    rw [← HLL.out, ← HDD.out] at HMK
    have hL1 : 257 ≤ L.length := hLl.1
    have hL2 : L.length ≤ 286 := by omega
    have hD1 : 1 ≤ D.length := hDl.1
    have hD2 : D.length ≤ 30 := by omega
    have HED := hide eD
    clear hbad g3 g4 hLl hDl eL eD
    go_enter Tryz.func84, Tryz.ntmps84
    go_wp2_with fail
    rw [HWB.out]
    refine HCL1.out.mono ?_
    rintro e w1 ⟨rfl, hw1⟩
    rw [hw1]
    clear hw1
    go_wp2_with fail
    refine HCL2.out.mono ?_
    rintro e w1 ⟨rfl, hw1⟩
    rw [hw1]
    clear hw1
    go_wp2_with fail
    refine HT1.out.mono ?_
    rintro e w2 ⟨aL, cL, rfl, oL, b2⟩
    have HOL := hide oL
    have HB2 := hide (HB0.out.trans (b2.mono HB0.out.size))
    have HX2 := hide (HX0.out.below b2)
    have HT2 := hide (xcut_any _ d 1 w2 (H2.out.below HB2.out) (by omega) (by omega) (by omega))
    rw [HED.out] at HT2
    clear oL b2
    go_wp2_with fail
    refine HT2.out.mono ?_
    rintro e w3 ⟨aD, cD, rfl, oD, b3⟩
    have HB3 := hide (HB2.out.trans (b3.mono HB2.out.size))
    have HX3 := hide (HX2.out.below b3)
    have hbw3 : w.heap.size ≤ w2.heap.size := HB2.out.size
    have HOL3 := hide ((HOL.out.below b3 (Nat.le_refl _)).base HB0.out.size)
    have HOD3 := hide (oD.base hbw3)
    clear oD b3
    obtain ⟨wx, hwx⟩ : ∃ wx, w3.alloc (.cells #[.slice aL L.length cL, .slice aD D.length cD, .slice none 0 0, .slice none 0 0, .int .i64 0] 129) = wx := ⟨_, rfl⟩
    have bx3 : Below w3.heap.size w3 wx := by rw [← hwx]; exact (Below.refl _ _).alloc (Nat.le_refl _) _
    have hbx : Hbox wx w3.heap.size (.slice aL L.length cL) (.slice aD D.length cD) (.slice none 0 0) (.slice none 0 0) (.int .i64 0) := by rw [← hwx]; exact heap_alloc_new w3 _
    obtain ⟨x0, x1, x2, x3, x4⟩ := hbx.cells
    have HBX := hide hbx
    have HB4 := hide (HB3.out.trans (bx3.mono HB3.out.size))
    have HX4 := hide (HX3.out.below bx3)
    have HOL4 := hide (HOL3.out.below bx3 (Nat.le_refl _))
    have HOD4 := hide (HOD3.out.below bx3 (Nat.le_refl _))
    have HCK := hide (zcodes_any _ _ L D wx HOL4.out.sb HOD4.out.sb hL1)
    obtain ⟨E, HEE⟩ : ∃ E, Hid (E = hck L D) := ⟨_, rfl⟩
    rw [← HEE.out] at HCK HMK
    have HSB := hide HB3.out.size
    have HWX := hide hwx
    clear hbx bx3 hwx
    go_wp2_with fail
    rw [HWX.out]
    refine HCK.out.mono ?_
    rintro e w5 ⟨rfl, hw5⟩
    have b5 : Below wx.heap.size wx w5 := by rw [hw5]; exact Below.refl _ _
    clear hw5
    have HB5 := hide (HB4.out.trans (b5.mono HB4.out.size))
    have HX5 := hide (HX4.out.below b5)
    have HBX5 := hide (HBX.out.below b5)
    have HOL5 := hide (HOL4.out.below b5 (Nat.le_refl _))
    have HOD5 := hide (HOD4.out.below b5 (Nat.le_refl _))
    clear b5 x0 x1 x2 x3 x4
    by_cases e0 : E = 0
    · have HE : Hid (mkE l d = 0) := by show _ = _; rw [HMK.out]; exact e0
      obtain ⟨x0, x1, x2, x3, x4⟩ := HBX5.out.cells
      have HCT := hide (xcut_any _ L 257 w5 HOL5.out.sb (by omega) (by omega) hL2)
      have ett : trm L 257 = L := by rw [HLL.out]; exact trm_trm l 257
      rw [ett] at HCT
      subst e0
      clear ett
      go_wp2_with fail
      refine HCT.out.mono ?_
      rintro e w6 ⟨aJ, cJ, rfl, o6, b6⟩
      have HB6 := hide (HB5.out.trans (b6.mono HB5.out.size))
      have HX6 := hide (HX5.out.below b6)
      have HBX6 := hide (HBX5.out.below b6)
      have HOL6 := hide (HOL5.out.below b6 (Nat.le_refl _))
      have HOD6 := hide (HOD5.out.below b6 (Nat.le_refl _))
      have HOJ6 := hide o6
      have h56 := HB5.out.size
      have HLT5 := hide (fun k (h : (Value.slice aL L.length cL).ownBlock = some k) => (HOL5.out.lt k h).2)
      have HDT5 := hide (fun k (h : (Value.slice aD D.length cD).ownBlock = some k) => (HOD5.out.lt k h).2)
      have HXT5 := hide HBX5.out.lt
      have h66 := b6.size
      clear o6 b6 x0 x1 x2 x3 x4
      go_wp2
      go_loopw [10, 11] (fun u i wr => ∃ k : Nat, k ≤ D.length ∧ i = .int .i64 k ∧ Hid (OI wr w5.heap.size u (L ++ D.take k)) ∧ Hid (Hbox wr w3.heap.size (.slice aL L.length cL) (.slice aD D.length cD) (.slice none 0 0) (.slice none 0 0) (.int .i64 0)) ∧ Hid (Hbox wr w.heap.size (.slice none 0 0) (.slice none 0 0) (.slice none 0 0) (.slice none 0 0) (.int .i64 0)) ∧ Hid (OI wr w.heap.size (.slice aL L.length cL) L ∧ OI wr w.heap.size (.slice aD D.length cD) D) ∧ Hid (Below w.heap.size w wr) ∧ Hid (w5.heap.size ≤ wr.heap.size)) (fun _ i _ => D.length - (intOf i).toNat)
      case atStart => exact ⟨0, Nat.zero_le _, rfl, by show OI _ _ _ _; rw [List.take_zero, List.append_nil]; exact HOJ6.out, HBX6.out, HX6.out, ⟨HOL6.out, HOD6.out⟩, HB6.out, h66⟩
      case round =>
        obtain ⟨k, hk, rfl, HOJ, HBXk, HXk, HLD, HBk, HSk⟩ := hrel
        obtain ⟨y0, y1, y2, y3, y4⟩ := HBXk.out.cells
        obtain ⟨aK0, cK0, hu10⟩ := HOJ.out.shape
        by_cases hlt : k < D.length
        · have hlt' : (k : Int) < (D.length : Int) := by omega
          obtain ⟨b, o, hab, hc⟩ := HLD.out.2.sb.get (Below.refl _ _) hlt
          have HD2 : Hid (L ++ D.take (k + 1) = (L ++ D.take k) ++ [D.getD k 0]) := by show _ = _; rw [List.take_succ_eq_append_getElem hlt, ← List.append_assoc]; simp [hlt]
          obtain ⟨y, HY⟩ : ∃ y, Hid (y = D.getD k 0) := ⟨_, rfl⟩
          rw [← HY.out] at hc HD2
          obtain ⟨P, HP⟩ : ∃ P, Hid (P = L ++ D.take k) := ⟨_, rfl⟩
          have hPl : P.length ≤ 316 := by rw [HP.out, List.length_append, List.length_take]; omega
          rw [← HP.out] at HOJ HD2 hu10
          subst hu10
          subst hab
          have hSk := HSk.out
          have HALC := hide (HOJ.out.alloc (.cells #[.int .i64 y] 3))
          have HSR := hide (built_srcI wr [y])
          go_wp2_with (at_builtin; refine wpList_appI rfl _ _ 65 rfl w5.heap.size _ _ P [y] rfl HALC.out rfl HSR.out (by simp; omega) (by simp; omega) ?_)
          intro v7 w7 ho7 hgr7
          have HN1 : Hid (OI w7 w5.heap.size v7 (L ++ D.take (k + 1))) := by rw [HD2.out]; exact hide ho7
          have HN2 := hide (hbox_keep HOJ.out HBXk.out hgr7)
          have HN3 := hide (hbox_keep HOJ.out HXk.out hgr7)
          have HN4 : Hid (OI w7 w.heap.size (.slice aL L.length cL) L ∧ OI w7 w.heap.size (.slice (some ⟨b, o, none⟩) D.length cD) D) :=
            ⟨oi_keep HOJ.out HLD.out.1 (fun k hk e => by have h1 := HLT5.out k hk; have h2 := (HOJ.out.lt k e).1; omega) hgr7, oi_keep HOJ.out HLD.out.2 (fun k hk e => by have h1 := HDT5.out k hk; have h2 := (HOJ.out.lt k e).1; omega) hgr7⟩
          have HN5 := hide (grow_one7 HBk.out (Nat.le_refl _) (HOJ.out.base h56) hgr7)
          have HN6 : Hid (w5.heap.size ≤ w7.heap.size) := by
            have := hgr7.by.size
            simp at this
            exact hide (by omega)
          clear ho7 hgr7
          go_wp2
          go_roundw
          case rel => exact ⟨k + 1, by omega, by go_num, HN1, HN2, HN3, HN4, HN5, HN6⟩
          case measure => simp [intOf]; omega
        · obtain rfl : k = D.length := by omega
          have hlt' : ¬ (D.length : Int) < (D.length : Int) := by omega
          obtain ⟨J, HJ⟩ : ∃ J, Hid (J = L ++ D) := ⟨_, rfl⟩
          rw [List.take_of_length_le (Nat.le_refl _), ← HJ.out] at HOJ hu10
          subst hu10
          have HO6 := hide (HOJ.out)
          have HB7 := HBk
          have HX7 := HXk
          have HBX7 := HBXk
          have HOL7 := hide HLD.out.1
          have HOD7 := hide HLD.out.2
          have HLDL : Hid (J.length ≤ 316) := by show _ ≤ _; rw [HJ.out, List.length_append]; omega
          have HALL : Hid (∀ x ∈ J, 0 ≤ x ∧ x ≤ 15) := fun x hx => by
            rw [HJ.out] at hx
            rcases List.mem_append.1 hx with q | q
            · exact HLA.out x q
            · exact HDA.out x q
          have HRN := hide (xruns_any _ J wr HO6.out.sb (by have := HLDL.out; omega))
          have ew : wthb J = true := wth_iff.2 HALL.out
          have er : rnE J = 0 ∧ rnL J = rns J := ⟨by unfold rnE; rw [if_pos ew], by unfold rnL; rw [if_pos ew]⟩
          rw [er.1, er.2] at HRN
          obtain ⟨R, HRR⟩ : ∃ R, Hid (R = rns J) := ⟨_, rfl⟩
          have HROK : Hid (∀ r ∈ R, Okr r) := by rw [HRR.out]; exact hide (rns_ok HALL.out)
          have hRl : R.length ≤ 316 := by rw [HRR.out]; have := rns_len J; have := HLDL.out; omega
          rw [← HRR.out] at HRN
          clear ew er
          go_wp2_with fail
          refine HRN.out.mono ?_
          rintro e w7 ⟨vR, rfl, o7, b7⟩
          obtain ⟨aR, cR, hvR, hr1, hr2⟩ := o7.shape
          subst hvR
          have HB8 := hide (HB7.out.trans (b7.mono HB7.out.size))
          have HX8 := hide (HX7.out.below b7)
          have HBX8 := hide (HBX7.out.below b7)
          have HOL8 := hide (HOL7.out.below b7 (Nat.le_refl _))
          have HOD8 := hide (HOD7.out.below b7 (Nat.le_refl _))
          have HOR8 := hide (o7.base HB7.out.size)
          obtain ⟨y0, y1, y2, y3, y4⟩ := HBX8.out.cells
          obtain ⟨z0, z1, z2, z3, z4⟩ := HBX8.out.frozen
          have HNX : Hid (w.heap.size ≠ w3.heap.size) := by
            intro e
            have h1 := HX3.out.lt
            omega
          obtain ⟨w8, hw8⟩ : ∃ w8, w7.setCell ⟨w3.heap.size, 3, none⟩ (.slice aR R.length cR) = w8 := ⟨_, rfl⟩
          have HB9 : Hid (Below w.heap.size w w8) := by rw [← hw8]; exact hide (HB8.out.setCell (p := ⟨w3.heap.size, 3, none⟩) HSB.out _)
          have HX9 : Hid (Hbox w8 w.heap.size (.slice none 0 0) (.slice none 0 0) (.slice none 0 0) (.slice none 0 0) (.int .i64 0)) := by rw [← hw8]; exact hide (hb_set HX8.out HNX.out)
          have HBX9 : Hid (Hbox w8 w3.heap.size (.slice aL L.length cL) (.slice aD D.length cD) (.slice none 0 0) (.slice aR R.length cR) (.int .i64 0)) := by rw [← hw8]; exact hide (HBX8.out.set _).2.1
          have HOL9 : Hid (OI w8 w.heap.size (.slice aL L.length cL) L) := by rw [← hw8]; exact hide (oi_set HOL8.out HBX8.out)
          have HOD9 : Hid (OI w8 w.heap.size (.slice aD D.length cD) D) := by rw [← hw8]; exact hide (oi_set HOD8.out HBX8.out)
          have HOR9 : Hid (OR w8 w.heap.size (.slice aR R.length cR) R) := by rw [← hw8]; exact hide (or_set HOR8.out HBX8.out)
          have HUS := hide (often_any _ R w8 HOR9.out.sr HROK.out (by omega))
          have HW8 := hide hw8
          clear o7 b7 hw8
          go_wp2_with fail
          rw [HW8.out]
          refine HUS.out.mono ?_
          rintro e w9 ⟨gU, rfl, o9, b9⟩
          have HBA := hide (HB9.out.trans (b9.mono HB9.out.size))
          have HXA := hide (HX9.out.below b9)
          have HBXA := hide (HBX9.out.below b9)
          have HOLA := hide (HOL9.out.below b9 (Nat.le_refl _))
          have HODA := hide (HOD9.out.below b9 (Nat.le_refl _))
          have HORA := hide (HOR9.out.below b9 (Nat.le_refl _))
          have HLM := hide (xlimited_any _ (usg R) 7 w9 o9.sb (by omega))
          obtain ⟨u1, u2⟩ := usg_lm (R := R) (by omega)
          obtain ⟨t1, t2⟩ := lmt7 (R := R) (by omega)
          rw [u1, u2, t1] at HLM
          obtain ⟨C, HCC2⟩ : ∃ C, Hid (C = lmt (usg R) 7) := ⟨_, rfl⟩
          rw [← HCC2.out] at HLM t1 t2
          have HC19 := hide t1
          have HCB := hide t2
          clear o9 b9 u1 u2 t1 t2 y0 y1 y2 y3 y4 z0 z1 z2 z3 z4
          go_wp2_with fail
          refine HLM.out.mono ?_
          rintro e w10 ⟨aK, cK, rfl, oK, bK⟩
          have HBB := hide (HBA.out.trans (bK.mono HBA.out.size))
          have HXB := hide (HXA.out.below bK)
          have HBXB := hide (HBXA.out.below bK)
          have HOLB := hide (HOLA.out.below bK (Nat.le_refl _))
          have HODB := hide (HODA.out.below bK (Nat.le_refl _))
          have HORB := hide (HORA.out.below bK (Nat.le_refl _))
          have HOCB := hide (oK.base HBA.out.size)
          obtain ⟨y0, y1, y2, y3, y4⟩ := HBXB.out.cells
          obtain ⟨z0, z1, z2, z3, z4⟩ := HBXB.out.frozen
          obtain ⟨w11, hw11⟩ : ∃ w11, w10.setCell ⟨w3.heap.size, 2, none⟩ (.slice aK 19 cK) = w11 := ⟨_, rfl⟩
          have HBC : Hid (Below w.heap.size w w11) := by rw [← hw11]; exact hide (HBB.out.setCell (p := ⟨w3.heap.size, 2, none⟩) HSB.out _)
          have HXC : Hid (Hbox w11 w.heap.size (.slice none 0 0) (.slice none 0 0) (.slice none 0 0) (.slice none 0 0) (.int .i64 0)) := by rw [← hw11]; exact hide (hb_set HXB.out HNX.out)
          have HBXC : Hid (Hbox w11 w3.heap.size (.slice aL L.length cL) (.slice aD D.length cD) (.slice aK 19 cK) (.slice aR R.length cR) (.int .i64 0)) := by rw [← hw11]; exact hide (HBXB.out.set _).1
          have HOLC : Hid (OI w11 w.heap.size (.slice aL L.length cL) L) := by rw [← hw11]; exact hide (oi_set HOLB.out HBXB.out)
          have HODC : Hid (OI w11 w.heap.size (.slice aD D.length cD) D) := by rw [← hw11]; exact hide (oi_set HODB.out HBXB.out)
          have HORC : Hid (OR w11 w.heap.size (.slice aR R.length cR) R) := by rw [← hw11]; exact hide (or_set HORB.out HBXB.out)
          have HOCC : Hid (OI w11 w.heap.size (.slice aK 19 cK) C) := by rw [← hw11]; exact hide (oi_set HOCB.out HBXB.out)
          have HWR := hide (xwritten_any _ C w11 HOCC.out.sb (HO.out.mono HBC.out) HC19.out (fun s => (HCB.out s).1))
          have hw19 := wrt_le C
          obtain ⟨W, HW⟩ : ∃ W, Hid (W = wrt C) := ⟨_, rfl⟩
          rw [← HW.out] at HWR hw19
          have HW11 := hide hw11
          clear oK bK hw11 y0 y1 y2 y3 y4 z0 z1 z2 z3 z4
          obtain ⟨y0, y1, y2, y3, y4⟩ := HBXB.out.cells
          obtain ⟨z0, z1, z2, z3, z4⟩ := HBXB.out.frozen
          go_wp2_with fail
          rw [HW11.out]
          refine HWR.out.mono ?_
          rintro e w12 ⟨rfl, hw12⟩
          rw [hw12]
          clear hw12 y0 y1 y2 y3 y4 z0 z1 z2 z3 z4
          obtain ⟨y0, y1, y2, y3, y4⟩ := HBXC.out.cells
          obtain ⟨z0, z1, z2, z3, z4⟩ := HBXC.out.frozen
          obtain ⟨wq, hwq⟩ : ∃ wq, w11.setCell ⟨w3.heap.size, 4, none⟩ (.int .i64 (14 + 3 * (W : Int))) = wq := ⟨_, rfl⟩
          have HBD0 : Hid (Below w.heap.size w wq) := by rw [← hwq]; exact hide (HBC.out.setCell (p := ⟨w3.heap.size, 4, none⟩) HSB.out _)
          have HXD0 : Hid (Hbox wq w.heap.size (.slice none 0 0) (.slice none 0 0) (.slice none 0 0) (.slice none 0 0) (.int .i64 0)) := by rw [← hwq]; exact hide (hb_set HXC.out HNX.out)
          have HBXD0 : Hid (Hbox wq w3.heap.size (.slice aL L.length cL) (.slice aD D.length cD) (.slice aK 19 cK) (.slice aR R.length cR) (.int .i64 (14 + 3 * (W : Int)))) := by rw [← hwq]; exact hide (HBXC.out.set _).2.2
          have HMD0 : Hid (Mkd wq w.heap.size (.slice aL L.length cL) (.slice aD D.length cD) (.slice aK 19 cK) (.slice aR R.length cR) L D C R) := by rw [← hwq]; exact hide ⟨oi_set HOLC.out HBXC.out, oi_set HODC.out HBXC.out, oi_set HOCC.out HBXC.out, or_set HORC.out HBXC.out⟩
          have HWQ := hide hwq
          clear hwq
          go_wp2
          rw [HWQ.out]
          have HCG : Hid (∀ W2 : World, OI W2 w.heap.size (.slice aK 19 cK) C → ∀ k, k < 19 → ∃ b o, aK = some ⟨b, o, none⟩ ∧ W2.cell? ⟨b, o + k, none⟩ = some (.int .i64 (C.getD k 0))) := fun W2 h k hk => by
            have h' : OI W2 w.heap.size (.slice aK C.length cK) C := by rw [HC19.out]; exact h
            exact h'.sb.get (Below.refl _ _) (by rw [HC19.out]; exact hk)
          have HRB := hide (fun k => rsz_bound (fun s => ⟨(HCB.out s).1, by have := (HCB.out s).2; omega⟩) (R.take k))
          clear y0 y1 y2 y3 y4 z0 z1 z2 z3 z4
          go_loopw [12] (fun i wr => ∃ k : Nat, k ≤ R.length ∧ i = .int .i64 k ∧ Hid (Hbox wr w3.heap.size (.slice aL L.length cL) (.slice aD D.length cD) (.slice aK 19 cK) (.slice aR R.length cR) (.int .i64 (14 + 3 * (W : Int) + rsz C (R.take k)))) ∧ Hid (Hbox wr w.heap.size (.slice none 0 0) (.slice none 0 0) (.slice none 0 0) (.slice none 0 0) (.int .i64 0)) ∧ Hid (Mkd wr w.heap.size (.slice aL L.length cL) (.slice aD D.length cD) (.slice aK 19 cK) (.slice aR R.length cR) L D C R) ∧ Hid (Below w.heap.size w wr)) (fun i _ => R.length - (intOf i).toNat)
          case atStart => exact ⟨0, Nat.zero_le _, rfl, by show Hbox _ _ _ _ _ _ _; simp only [List.take_zero, rsz, Int.add_zero]; exact HBXD0.out, HXD0.out, HMD0.out, HBD0.out⟩
          case round =>
            obtain ⟨k, hk, rfl, HBXk, HXk, HMk, HBk⟩ := hrel
            by_cases hlt : k < R.length
            · have hlt' : (k : Int) < (R.length : Int) := by omega
              obtain ⟨b, o, hab, c1, c2⟩ := HMk.out.r.sr.get (Below.refl _ _) hlt
              subst hab
              have ok : Okr (R.getD k rn0) := HROK.out _ (by rw [show R.getD k rn0 = R[k] by simp [hlt]]; exact List.getElem_mem hlt)
              have hk1 := ok.1
              have hk2 := ok.2.1
              have HSN : Hid (R.take (k + 1) = R.take k ++ [R.getD k rn0]) := by show _ = _; rw [List.take_succ_eq_append_getElem hlt]; simp [hlt]
              obtain ⟨r, hr⟩ : ∃ r, r = R.getD k rn0 := ⟨_, rfl⟩
              rw [← hr] at c1 c2 hk1 hk2 HSN
              obtain ⟨s', c⟩ := r
              simp only at c1 c2 hk1 hk2
              obtain ⟨s, rfl⟩ := Int.eq_ofNat_of_zero_le hk1
              have hs : s < 19 := by omega
              have hs' : (s : Int) < 19 := by omega
              have HRN : Hid (rsz C (R.take (k + 1)) = rsz C (R.take k) + (C.getD s 0 + (frt s : Nat))) := by show _ = _; rw [HSN.out, rsz_snoc]; rfl
              have hrb := HRB.out k
              have hrl : (R.take k).length ≤ 316 := by rw [List.length_take]; omega
              obtain ⟨bC, oC, hbC, y5⟩ := HCG.out wr HMk.out.c s hs
              subst hbC
              have hcb := HCB.out s
              have hfb := frt_le s
              have HXF := hide (xfurther_any s wr hs)
              obtain ⟨Y, HY⟩ : ∃ Y, Hid (Y = C.getD s 0) := ⟨_, rfl⟩
              obtain ⟨F, HF⟩ : ∃ F, Hid (F = frt s) := ⟨_, rfl⟩
              obtain ⟨S0, HS0⟩ : ∃ S0, Hid (S0 = 14 + 3 * (W : Int) + rsz C (R.take k)) := ⟨_, rfl⟩
              rw [← HY.out] at y5 hcb HRN
              rw [← HF.out] at HXF hfb HRN
              have hz1 : 0 ≤ S0 := by rw [HS0.out]; omega
              have hz2 : S0 ≤ 1000000 := by rw [HS0.out]; omega
              rw [← HS0.out] at HBXk
              have HEQ : Hid (14 + 3 * (W : Int) + rsz C (R.take (k + 1)) = S0 + Y + (F : Nat)) := by show _ = _; rw [HRN.out, HS0.out]; omega
              have hy1 : 0 ≤ Y := hcb.1
              have hy2 : Y ≤ 15 := by omega
              obtain ⟨y0, y1, y2, y3, y4⟩ := HBXk.out.cells
              obtain ⟨z0, z1, z2, z3, z4⟩ := HBXk.out.frozen
              have HN1 : Hid (Hbox (wr.setCell ⟨w3.heap.size, 4, none⟩ (.int .i64 (S0 + Y + (F : Nat)))).drew w3.heap.size (.slice aL L.length cL) (.slice aD D.length cD) (.slice (some ⟨bC, oC, none⟩) 19 cK) (.slice (some ⟨b, o, none⟩) R.length cR) (.int .i64 (14 + 3 * (W : Int) + rsz C (R.take (k + 1))))) := by rw [HEQ.out]; exact (HBXk.out.set _).2.2
              have HN2 : Hid (Hbox (wr.setCell ⟨w3.heap.size, 4, none⟩ (.int .i64 (S0 + Y + (F : Nat)))).drew w.heap.size (.slice none 0 0) (.slice none 0 0) (.slice none 0 0) (.slice none 0 0) (.int .i64 0)) := hb_set HXk.out HNX.out
              have HN3 : Hid (Mkd (wr.setCell ⟨w3.heap.size, 4, none⟩ (.int .i64 (S0 + Y + (F : Nat)))).drew w.heap.size (.slice aL L.length cL) (.slice aD D.length cD) (.slice (some ⟨bC, oC, none⟩) 19 cK) (.slice (some ⟨b, o, none⟩) R.length cR) L D C R) := ⟨(oi_set HMk.out.l HBXk.out).move fun _ _ => rfl, (oi_set HMk.out.d HBXk.out).move fun _ _ => rfl, (oi_set HMk.out.c HBXk.out).move fun _ _ => rfl, rown_move (or_set HMk.out.r HBXk.out) fun _ _ => rfl⟩
              have HN4 : Hid (Below w.heap.size w (wr.setCell ⟨w3.heap.size, 4, none⟩ (.int .i64 (S0 + Y + (F : Nat)))).drew) := (HBk.out.setCell (p := ⟨w3.heap.size, 4, none⟩) HSB.out _).drew
              clear hr ok hk1 hk2 hcb hrb
              go_wp2_with fail
              refine HXF.out.mono ?_
              rintro e w14 ⟨rfl, hw14⟩
              rw [hw14]
              clear hw14
              go_wp2
              go_region
              go_wp2
              go_roundw
              case rel => exact ⟨k + 1, by omega, by go_num, HN1, HN2, HN3, HN4⟩
              case measure => simp [intOf]; omega
            · obtain rfl : k = R.length := by omega
              have hlt' : ¬ (R.length : Int) < (R.length : Int) := by omega
              obtain ⟨S, HSS⟩ : ∃ S, Hid (S = hsz C R) := ⟨_, rfl⟩
              have e9 : 14 + 3 * (W : Int) + rsz C (R.take R.length) = S := by rw [List.take_of_length_le (Nat.le_refl _), HSS.out, HW.out]; rfl
              rw [e9] at HBXk
              clear e9
              obtain ⟨y0, y1, y2, y3, y4⟩ := HBXk.out.cells
              obtain ⟨z0, z1, z2, z3, z4⟩ := HXk.out.frozen
              obtain ⟨r0, r1, r2, r3, r4⟩ := HXk.out.cells
              have HXE := HXk
              have HBE := HBk
              have HOLE := hide HMk.out.l
              have HODE := hide HMk.out.d
              have HOCE := hide HMk.out.c
              have HORE := hide HMk.out.r
              go_wp2
              have HZZ : Hid (mkZ l d = S ∧ mkL l = L ∧ mkD d = D ∧ mkC l d = C ∧ mkR l d = R) := by
                have hR : mkR l d = R := by unfold mkR; rw [← HLL.out, ← HDD.out, ← HJ.out, HRR.out]
                have hC : mkC l d = C := by unfold mkC; rw [hR, HCC2.out]
                exact ⟨by unfold mkZ; rw [hC, hR, HSS.out], HLL.out.symm, HDD.out.symm, hC, hR⟩
              obtain ⟨wf, hwf⟩ : ∃ wf, (((((wr.setCell ⟨w.heap.size, 0, none⟩ (.slice aL L.length cL)).setCell ⟨w.heap.size, 1, none⟩ (.slice aD D.length cD)).setCell ⟨w.heap.size, 2, none⟩ (.slice aK 19 cK)).setCell ⟨w.heap.size, 3, none⟩ (.slice aR R.length cR)).setCell ⟨w.heap.size, 4, none⟩ (.int .i64 S)) = wf := ⟨_, rfl⟩
              have hfx : Hbox wf w.heap.size (.slice aL L.length cL) (.slice aD D.length cD) (.slice aK 19 cK) (.slice aR R.length cR) (.int .i64 S) := by rw [← hwf]; exact HXE.out.put
              have hfb : Below w.heap.size w wf := by rw [← hwf]; exact put_below HBE.out (Nat.le_refl _)
              have hoth : ∀ k, k ≠ w.heap.size → wf.heap[k]? = wr.heap[k]? := fun k hk => by rw [← hwf]; exact put_other hk
              have hmk : Mkd wf w.heap.size (.slice aL L.length cL) (.slice aD D.length cD) (.slice aK 19 cK) (.slice aR R.length cR) L D C R :=
                ⟨HOLE.out.move fun k hk => hoth k (oi_apart7 HOLE.out HXE.out k hk), HODE.out.move fun k hk => hoth k (oi_apart7 HODE.out HXE.out k hk), HOCE.out.move fun k hk => hoth k (oi_apart7 HOCE.out HXE.out k hk), rown_move HORE.out fun k hk => hoth k (or_apart7 HORE.out HXE.out k hk)⟩
              rw [hwf]
              obtain ⟨f0, f1, f2, f3, f4⟩ := hfx.cells
              refine bodyPost_ret (v := .tuple #[.agg #[(.slice aL L.length cL), (.slice aD D.length cD), .slice aK 19 cK, .slice aR R.length cR, .int .i64 S], .int .i64 0]) (by simp [results, Tryz.results84, go_sem, f0, f1, f2, f3, f4]) rfl ?_
              refine ⟨.inr ⟨HE.out, (.slice aL L.length cL), (.slice aD D.length cD), .slice aK 19 cK, .slice aR R.length cR, ?_, ?_⟩, hfb⟩
              · rw [HZZ.out.1]
              · rw [HZZ.out.2.1, HZZ.out.2.2.1, HZZ.out.2.2.2.1, HZZ.out.2.2.2.2]
                exact hmk
    · have HE : Hid (mkE l d = E) := HMK.out
      have HNE : Hid (mkE l d ≠ 0) := by show _ ≠ _; rw [HE.out]; exact e0
      have e0' : (E != 0) = true := by simpa using e0
      obtain ⟨r0, r1, r2, r3, r4⟩ := HX5.out.cells
      obtain ⟨t0, t1, t2, t3, t4⟩ := HX5.out.frozen
      clear p0 p1 p2 p3 p4 q0 q1 q2 q3 q4
      go_wp2
      obtain ⟨wf, hwf⟩ : ∃ wf, (((((w5.setCell ⟨w.heap.size, 0, none⟩ (.slice none 0 0)).setCell ⟨w.heap.size, 1, none⟩ (.slice none 0 0)).setCell ⟨w.heap.size, 2, none⟩ (.slice none 0 0)).setCell ⟨w.heap.size, 3, none⟩ (.slice none 0 0)).setCell ⟨w.heap.size, 4, none⟩ (.int .i64 0)) = wf := ⟨_, rfl⟩
      have hfx : Hbox wf w.heap.size (.slice none 0 0) (.slice none 0 0) (.slice none 0 0) (.slice none 0 0) (.int .i64 0) := by rw [← hwf]; exact HX5.out.put
      have hfb : Below w.heap.size w wf := by rw [← hwf]; exact put_below HB5.out (Nat.le_refl _)
      rw [hwf]
      obtain ⟨f0, f1, f2, f3, f4⟩ := hfx.cells
      refine bodyPost_ret (v := .tuple #[.agg #[.slice none 0 0, .slice none 0 0, .slice none 0 0, .slice none 0 0, .int .i64 0], .int .i64 E]) (by simp [results, Tryz.results84, go_sem, f0, f1, f2, f3, f4]) rfl ?_
      exact ⟨.inl ⟨HNE.out, by unfold MkNo; rw [HE.out]⟩, hfb⟩
end Go.Proofs.YtfoglaajnlbnbaaGreatDoor

