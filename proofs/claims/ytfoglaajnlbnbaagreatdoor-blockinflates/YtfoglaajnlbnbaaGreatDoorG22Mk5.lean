import Derived.Test.YtfoglaajnlbnbaaGreatDoorG21Mk4
namespace Go.Proofs.YtfoglaajnlbnbaaGreatDoor
open Go.RowKit Go.Maps
set_option maxRecDepth 20000
set_option linter.unusedVariables false

theorem oi_set {w : World} {B g o : Nat} {v a b c d e u : Value} {l : List Int} (h : OI w B v l) (hx : Hbox w g a b c d e) : OI (w.setCell ⟨g, o, none⟩ u) B v l := by
  refine h.move fun k hk => setCell_others w g o u k (fun e => ?_)
  subst e
  rcases h.2 with ⟨rfl, _⟩ | ⟨g', cap, cur, rfl, _, hg', _⟩
  · simp [Value.ownBlock] at hk
  · simp only [Value.ownBlock, Option.some.injEq] at hk
    subst hk
    unfold Hbox at hx
    rw [hg'] at hx
    simp at hx
theorem or_set {w : World} {B g o : Nat} {v a b c d e u : Value} {R : List Rn} (h : OR w B v R) (hx : Hbox w g a b c d e) : OR (w.setCell ⟨g, o, none⟩ u) B v R := by
  refine rown_move h fun k hk => setCell_others w g o u k (fun e => ?_)
  subst e
  rcases h.2 with ⟨rfl, _⟩ | ⟨g', cap, cur, rfl, _, hg', _⟩
  · simp [Value.ownBlock] at hk
  · simp only [Value.ownBlock, Option.some.injEq] at hk
    subst hk
    unfold Hbox at hx
    rw [hg'] at hx
    simp at hx

theorem hb_set {w : World} {g g2 o : Nat} {a b c d e u : Value} (h : Hbox w g a b c d e) (hne : g ≠ g2) : Hbox (w.setCell ⟨g2, o, none⟩ u) g a b c d e := (setCell_others w g2 o u g hne).trans h

theorem put_other {w : World} {g k : Nat} {a b c d e : Value} (h : k ≠ g) : (((((w.setCell ⟨g, 0, none⟩ a).setCell ⟨g, 1, none⟩ b).setCell ⟨g, 2, none⟩ c).setCell ⟨g, 3, none⟩ d).setCell ⟨g, 4, none⟩ e).heap[k]? = w.heap[k]? := by
  rw [setCell_others _ g _ _ k h, setCell_others _ g _ _ k h, setCell_others _ g _ _ k h, setCell_others _ g _ _ k h, setCell_others _ g _ _ k h]

theorem oi_apart7 {w : World} {B g : Nat} {v a b c d e : Value} {l : List Int} (h : OI w B v l) (hx : Hbox w g a b c d e) : ∀ k, v.ownBlock = some k → k ≠ g := by
  intro k hk e
  subst e
  rcases h.2 with ⟨rfl, _⟩ | ⟨g', cap, cur, rfl, _, hg', _⟩
  · simp [Value.ownBlock] at hk
  · simp only [Value.ownBlock, Option.some.injEq] at hk
    subst hk
    unfold Hbox at hx
    rw [hg'] at hx
    simp at hx
theorem or_apart7 {w : World} {B g : Nat} {v a b c d e : Value} {R : List Rn} (h : OR w B v R) (hx : Hbox w g a b c d e) : ∀ k, v.ownBlock = some k → k ≠ g := by
  intro k hk e
  subst e
  rcases h.2 with ⟨rfl, _⟩ | ⟨g', cap, cur, rfl, _, hg', _⟩
  · simp [Value.ownBlock] at hk
  · simp only [Value.ownBlock, Option.some.injEq] at hk
    subst hk
    unfold Hbox at hx
    rw [hg'] at hx
    simp at hx

def MkNo (e : Int) (x : Ending) : Prop := x = .returned (.tuple #[.agg #[.slice none 0 0, .slice none 0 0, .slice none 0 0, .slice none 0 0, .int .i64 0], .int .i64 e])
def MkYes (w w' : World) (l d : List Int) (x : Ending) : Prop := ∃ vL vD vC vR, x = .returned (.tuple #[.agg #[vL, vD, vC, vR, .int .i64 (mkZ l d)], .int .i64 0]) ∧ Mkd w' w.heap.size vL vD vC vR (mkL l) (mkD d) (mkC l d) (mkR l d)

set_option maxHeartbeats 1000000 in
theorem make_any (v1 v2 : Value) (l d : List Int) (w : World) (s1 : SI w v1 l) (s2 : SI w v2 d) (T : Tab w) (O : Odr w) :
    Calls Tryz.prog 96 #[v1, v2] w fun e w' => ((mkE l d ≠ 0 ∧ MkNo (mkE l d) e) ∨ (mkE l d = 0 ∧ MkYes w w' l d e)) ∧ Below w.heap.size w w' := by
  have H1 := hide s1
  have H2 := hide s2
  have HT := hide T
  have HO := hide O
  obtain ⟨a1, c1, rfl, hc1, hd1⟩ := s1.open
  obtain ⟨a2, c2, rfl, hc2, hd2⟩ := s2.open
  clear s1 s2 T O
  obtain ⟨wb, hwb⟩ : ∃ wb, w.alloc (.cells #[.slice none 0 0, .slice none 0 0, .slice none 0 0, .slice none 0 0, .int .i64 0] 129) = wb := ⟨_, rfl⟩
  have hb0 : Below w.heap.size w wb := by rw [← hwb]; exact (Below.refl _ _).alloc (Nat.le_refl _) _
  have hx0 : Hbox wb w.heap.size (.slice none 0 0) (.slice none 0 0) (.slice none 0 0) (.slice none 0 0) (.int .i64 0) := by rw [← hwb]; exact heap_alloc_new w _
  have HB0 := hide hb0
  have HX0 := hide hx0
  have HWB := hide hwb
  have HCL1 := hide (codeLengths_any _ l wb (H1.out.below hb0))
  have HCL2 := hide (codeLengths_any _ d wb (H2.out.below hb0))
  obtain ⟨p0, p1, p2, p3, p4⟩ := hx0.cells
  obtain ⟨q0, q1, q2, q3, q4⟩ := hx0.frozen
  clear hwb hb0 hx0
  by_cases hbad : 286 < l.length ∨ 30 < d.length ∨ wthb l = false ∨ wthb d = false
  · have HE : Hid (mkE l d = 1) := by show _ = _; unfold mkE; rw [if_pos hbad]
    have HNE : Hid (mkE l d ≠ 0) := by show _ ≠ _; rw [HE.out]; decide
    by_cases g1 : 286 < l.length
    · have g1' : (286 : Int) < (l.length : Int) := by omega
      clear hbad
      go_enter Tryz.func96, Tryz.ntmps96
      go_wp2
      rw [HWB.out]
      refine bodyPost_ret (v := .tuple #[.agg #[.slice none 0 0, .slice none 0 0, .slice none 0 0, .slice none 0 0, .int .i64 0], .int .i64 1]) (by simp [results, Tryz.results96, go_sem, p0, p1, p2, p3, p4]) rfl ?_
      exact ⟨.inl ⟨HNE.out, by unfold MkNo; rw [HE.out]⟩, HB0.out⟩
    · have g1' : ¬ (286 : Int) < (l.length : Int) := by omega
      by_cases g2 : 30 < d.length
      · have g2' : (30 : Int) < (d.length : Int) := by omega
        clear hbad
        go_enter Tryz.func96, Tryz.ntmps96
        go_wp2
        rw [HWB.out]
        refine bodyPost_ret (v := .tuple #[.agg #[.slice none 0 0, .slice none 0 0, .slice none 0 0, .slice none 0 0, .int .i64 0], .int .i64 1]) (by simp [results, Tryz.results96, go_sem, p0, p1, p2, p3, p4]) rfl ?_
        exact ⟨.inl ⟨HNE.out, by unfold MkNo; rw [HE.out]⟩, HB0.out⟩
      · have g2' : ¬ (30 : Int) < (d.length : Int) := by omega
        by_cases g3 : wthb l = false
        · clear hbad
          rw [g3] at HCL1
          go_enter Tryz.func96, Tryz.ntmps96
          go_wp2_with fail
          rw [HWB.out]
          refine HCL1.out.mono ?_
          rintro e w1 ⟨rfl, hw1⟩
          rw [hw1]
          clear hw1
          go_wp2
          obtain ⟨wf, hwf⟩ : ∃ wf, (((((wb.setCell ⟨w.heap.size, 0, none⟩ (.slice none 0 0)).setCell ⟨w.heap.size, 1, none⟩ (.slice none 0 0)).setCell ⟨w.heap.size, 2, none⟩ (.slice none 0 0)).setCell ⟨w.heap.size, 3, none⟩ (.slice none 0 0)).setCell ⟨w.heap.size, 4, none⟩ (.int .i64 0)) = wf := ⟨_, rfl⟩
          have hfx : Hbox wf w.heap.size (.slice none 0 0) (.slice none 0 0) (.slice none 0 0) (.slice none 0 0) (.int .i64 0) := by rw [← hwf]; exact HX0.out.put
          have hfb : Below w.heap.size w wf := by rw [← hwf]; exact put_below HB0.out (Nat.le_refl _)
          rw [hwf]
          obtain ⟨f0, f1, f2, f3, f4⟩ := hfx.cells
          refine bodyPost_ret (v := .tuple #[.agg #[.slice none 0 0, .slice none 0 0, .slice none 0 0, .slice none 0 0, .int .i64 0], .int .i64 1]) (by simp [results, Tryz.results96, go_sem, f0, f1, f2, f3, f4]) rfl ?_
          exact ⟨.inl ⟨HNE.out, by unfold MkNo; rw [HE.out]⟩, hfb⟩
        · have g3' : wthb l = true := by simpa using g3
          have g4 : wthb d = false := by
            rcases hbad with h | h | h | h
            · exact absurd h g1
            · exact absurd h g2
            · exact absurd h g3
            · exact h
          clear hbad
          rw [g3'] at HCL1
          rw [g4] at HCL2
          go_enter Tryz.func96, Tryz.ntmps96
          go_wp2_with fail
          rw [HWB.out]
          refine HCL1.out.mono ?_
          rintro e w1 ⟨rfl, hw1⟩
          rw [hw1]
          clear hw1
          go_wp2_with fail
          refine HCL2.out.mono ?_
          rintro e w1 ⟨rfl, hw1⟩
          rw [hw1]
          clear hw1
          go_wp2
          obtain ⟨wf, hwf⟩ : ∃ wf, (((((wb.setCell ⟨w.heap.size, 0, none⟩ (.slice none 0 0)).setCell ⟨w.heap.size, 1, none⟩ (.slice none 0 0)).setCell ⟨w.heap.size, 2, none⟩ (.slice none 0 0)).setCell ⟨w.heap.size, 3, none⟩ (.slice none 0 0)).setCell ⟨w.heap.size, 4, none⟩ (.int .i64 0)) = wf := ⟨_, rfl⟩
          have hfx : Hbox wf w.heap.size (.slice none 0 0) (.slice none 0 0) (.slice none 0 0) (.slice none 0 0) (.int .i64 0) := by rw [← hwf]; exact HX0.out.put
          have hfb : Below w.heap.size w wf := by rw [← hwf]; exact put_below HB0.out (Nat.le_refl _)
          rw [hwf]
          obtain ⟨f0, f1, f2, f3, f4⟩ := hfx.cells
          refine bodyPost_ret (v := .tuple #[.agg #[.slice none 0 0, .slice none 0 0, .slice none 0 0, .slice none 0 0, .int .i64 0], .int .i64 1]) (by simp [results, Tryz.results96, go_sem, f0, f1, f2, f3, f4]) rfl ?_
          exact ⟨.inl ⟨HNE.out, by unfold MkNo; rw [HE.out]⟩, hfb⟩
  · have g1 : ¬ (286 : Int) < (l.length : Int) := by omega
    have g2 : ¬ (30 : Int) < (d.length : Int) := by omega
    have g3 : wthb l = true := by
      cases q : wthb l with
      | true => rfl
      | false => exact absurd (.inr (.inr (.inl q))) hbad
    have g4 : wthb d = true := by
      cases q : wthb d with
      | true => rfl
      | false => exact absurd (.inr (.inr (.inr q))) hbad
    have HMK : Hid (mkE l d = hck (mkL l) (mkD d)) := by show _ = _; unfold mkE; rw [if_neg hbad]
    have hl1 : l.length ≤ 286 := by omega
    have hl2 : d.length ≤ 30 := by omega
    have hLl := trm_lens (l := l) (f := 257) hl1 (by omega)
    have hDl := trm_lens (l := d) (f := 1) (by omega) (by omega)
    have HLA := hide (trm_all l 257 (wth_iff.1 g3))
    have HDA := hide (trm_all d 1 (wth_iff.1 g4))
    have HT1 := hide (trimmed_any _ l 257 wb (H1.out.below HB0.out) (by omega) (by omega))
    rw [g3] at HCL1
    rw [g4] at HCL2
    obtain ⟨L, HLL⟩ : ∃ L, Hid (L = mkL l) := ⟨_, rfl⟩
    obtain ⟨D, HDD⟩ : ∃ D, Hid (D = mkD d) := ⟨_, rfl⟩
    have eL : trm l 257 = L := HLL.out.symm
    have eD : trm d 1 = D := HDD.out.symm
    rw [eL] at HT1 HLA hLl
    rw [eD] at HDA hDl
    rw [← HLL.out, ← HDD.out] at HMK
    have hL1 : 257 ≤ L.length := hLl.1
    have hL2 : L.length ≤ 286 := by omega
    have hD1 : 1 ≤ D.length := hDl.1
    have hD2 : D.length ≤ 30 := by omega
    have HED := hide eD
    clear hbad g3 g4 hLl hDl eL eD
    go_enter Tryz.func96, Tryz.ntmps96
    go_wp2_with fail
    rw [HWB.out]
    refine HCL1.out.mono ?_
    rintro e w1 ⟨rfl, hw1⟩
    rw [hw1]
    clear hw1
    go_wp2_with fail
    refine HCL2.out.mono ?_
    rintro e w1 ⟨rfl, hw1⟩
    rw [hw1]
    clear hw1
    go_wp2_with fail
    refine HT1.out.mono ?_
    rintro e w2 ⟨gL, rfl, oL, b2⟩
    have HOL := hide oL
    have HB2 := hide (HB0.out.trans (b2.mono HB0.out.size))
    have HX2 := hide (HX0.out.below b2)
    have HT2 := hide (trimmed_any _ d 1 w2 (H2.out.below HB2.out) (by omega) (by omega))
    rw [HED.out] at HT2
    clear oL b2
    go_wp2_with fail
    refine HT2.out.mono ?_
    rintro e w3 ⟨gD, rfl, oD, b3⟩
    have HB3 := hide (HB2.out.trans (b3.mono HB2.out.size))
    have HX3 := hide (HX2.out.below b3)
    have hbw3 : w.heap.size ≤ w2.heap.size := HB2.out.size
    have HOL3 := hide ((HOL.out.below b3 (Nat.le_refl _)).base HB0.out.size)
    have HOD3 := hide (oD.base hbw3)
    clear oD b3
    obtain ⟨wx, hwx⟩ : ∃ wx, w3.alloc (.cells #[.slice (some ⟨gL, 0, none⟩) L.length L.length, .slice (some ⟨gD, 0, none⟩) D.length D.length, .slice none 0 0, .slice none 0 0, .int .i64 0] 129) = wx := ⟨_, rfl⟩
    have bx3 : Below w3.heap.size w3 wx := by rw [← hwx]; exact (Below.refl _ _).alloc (Nat.le_refl _) _
    have hbx : Hbox wx w3.heap.size (.slice (some ⟨gL, 0, none⟩) L.length L.length) (.slice (some ⟨gD, 0, none⟩) D.length D.length) (.slice none 0 0) (.slice none 0 0) (.int .i64 0) := by rw [← hwx]; exact heap_alloc_new w3 _
    obtain ⟨x0, x1, x2, x3, x4⟩ := hbx.cells
    have HBX := hide hbx
    have HB4 := hide (HB3.out.trans (bx3.mono HB3.out.size))
    have HX4 := hide (HX3.out.below bx3)
    have HOL4 := hide (HOL3.out.below bx3 (Nat.le_refl _))
    have HOD4 := hide (HOD3.out.below bx3 (Nat.le_refl _))
    have HCK := hide (hcheck_any _ _ L D wx HOL4.out.sb HOD4.out.sb hL1)
    obtain ⟨E, HEE⟩ : ∃ E, Hid (E = hck L D) := ⟨_, rfl⟩
    rw [← HEE.out] at HCK HMK
    have HSB := hide HB3.out.size
    have HWX := hide hwx
    clear hbx bx3 hwx
    go_wp2_with fail
    rw [HWX.out]
    refine HCK.out.mono ?_
    rintro e w5 ⟨rfl, b5⟩
    have HB5 := hide (HB4.out.trans (b5.mono HB4.out.size))
    have HX5 := hide (HX4.out.below b5)
    have HBX5 := hide (HBX.out.below b5)
    have HOL5 := hide (HOL4.out.below b5 (Nat.le_refl _))
    have HOD5 := hide (HOD4.out.below b5 (Nat.le_refl _))
    clear b5 x0 x1 x2 x3 x4
    by_cases e0 : E = 0
    · have HE : Hid (mkE l d = 0) := by show _ = _; rw [HMK.out]; exact e0
      obtain ⟨x0, x1, x2, x3, x4⟩ := HBX5.out.cells
      obtain ⟨wy, hwy⟩ : ∃ wy, w5.alloc (.cells #[(.slice (some ⟨gL, 0, none⟩) L.length L.length), (.slice (some ⟨gD, 0, none⟩) D.length D.length)] 65) = wy := ⟨_, rfl⟩
      have by5 : Below w5.heap.size w5 wy := by rw [← hwy]; exact (Below.refl _ _).alloc (Nat.le_refl _) _
      have hgy : wy.heap[w5.heap.size]? = some (.cells #[(.slice (some ⟨gL, 0, none⟩) L.length L.length), (.slice (some ⟨gD, 0, none⟩) D.length D.length)] 65 (0, 0)) := by rw [← hwy]; exact heap_alloc_new w5 _
      have HCC := hide (concat_any w5.heap.size _ _ L D wy hgy (HOL5.out.below by5 (Nat.le_refl _)).sb (HOD5.out.below by5 (Nat.le_refl _)).sb (by omega) (by omega))
      have HB6 := hide (HB5.out.trans (by5.mono HB5.out.size))
      have HX6 := hide (HX5.out.below by5)
      have HBX6 := hide (HBX5.out.below by5)
      have HOL6 := hide (HOL5.out.below by5 (Nat.le_refl _))
      have HOD6 := hide (HOD5.out.below by5 (Nat.le_refl _))
      have HWY := hide hwy
      obtain ⟨J, HJ⟩ : ∃ J, Hid (J = L ++ D) := ⟨_, rfl⟩
      rw [← HJ.out] at HCC
      clear hwy by5 hgy
      subst e0
      go_wp2_with fail
      rw [HWY.out]
      refine HCC.out.mono ?_
      rintro e w6 ⟨aC, cC, rfl, o6, b6⟩
      have HO6 := hide o6
      have HB7 := hide (HB6.out.trans (b6.mono HB6.out.size))
      have HX7 := hide (HX6.out.below b6)
      have HBX7 := hide (HBX6.out.below b6)
      have HOL7 := hide (HOL6.out.below b6 (Nat.le_refl _))
      have HOD7 := hide (HOD6.out.below b6 (Nat.le_refl _))
      have HLDL : Hid (J.length ≤ 316) := by show _ ≤ _; rw [HJ.out, List.length_append]; omega
      have HALL : Hid (∀ x ∈ J, 0 ≤ x ∧ x ≤ 15) := fun x hx => by
        rw [HJ.out] at hx
        rcases List.mem_append.1 hx with q | q
        · exact HLA.out x q
        · exact HDA.out x q
      have HRN := hide (runs_any _ J w6 o6.sb (HT.out.mono HB7.out) (by have := HLDL.out; omega))
      have ew : wthb J = true := wth_iff.2 HALL.out
      have er : rnE J = 0 ∧ rnL J = rns J := ⟨by unfold rnE; rw [if_pos ew], by unfold rnL; rw [if_pos ew]⟩
      rw [er.1, er.2] at HRN
      obtain ⟨R, HRR⟩ : ∃ R, Hid (R = rns J) := ⟨_, rfl⟩
      have HROK : Hid (∀ r ∈ R, Okr r) := by rw [HRR.out]; exact hide (rns_ok HALL.out)
      have hRl : R.length ≤ 316 := by rw [HRR.out]; have := rns_len J; have := HLDL.out; omega
      rw [← HRR.out] at HRN
      clear o6 b6 ew er
      go_wp2_with fail
      refine HRN.out.mono ?_
      rintro e w7 ⟨vR, rfl, o7, b7⟩
      obtain ⟨aR, cR, hvR, hr1, hr2⟩ := o7.shape
      subst hvR
      have HB8 := hide (HB7.out.trans (b7.mono HB7.out.size))
      have HX8 := hide (HX7.out.below b7)
      have HBX8 := hide (HBX7.out.below b7)
      have HOL8 := hide (HOL7.out.below b7 (Nat.le_refl _))
      have HOD8 := hide (HOD7.out.below b7 (Nat.le_refl _))
      have HOR8 := hide (o7.base HB7.out.size)
      obtain ⟨y0, y1, y2, y3, y4⟩ := HBX8.out.cells
      obtain ⟨z0, z1, z2, z3, z4⟩ := HBX8.out.frozen
      have HNX : Hid (w.heap.size ≠ w3.heap.size) := by
        intro e
        have h1 := HX3.out.lt
        omega
      obtain ⟨w8, hw8⟩ : ∃ w8, w7.setCell ⟨w3.heap.size, 3, none⟩ (.slice aR R.length cR) = w8 := ⟨_, rfl⟩
      have HB9 : Hid (Below w.heap.size w w8) := by rw [← hw8]; exact hide (HB8.out.setCell (p := ⟨w3.heap.size, 3, none⟩) HSB.out _)
      have HX9 : Hid (Hbox w8 w.heap.size (.slice none 0 0) (.slice none 0 0) (.slice none 0 0) (.slice none 0 0) (.int .i64 0)) := by rw [← hw8]; exact hide (hb_set HX8.out HNX.out)
      have HBX9 : Hid (Hbox w8 w3.heap.size (.slice (some ⟨gL, 0, none⟩) L.length L.length) (.slice (some ⟨gD, 0, none⟩) D.length D.length) (.slice none 0 0) (.slice aR R.length cR) (.int .i64 0)) := by rw [← hw8]; exact hide (HBX8.out.set _).2.1
      have HOL9 : Hid (OI w8 w.heap.size (.slice (some ⟨gL, 0, none⟩) L.length L.length) L) := by rw [← hw8]; exact hide (oi_set HOL8.out HBX8.out)
      have HOD9 : Hid (OI w8 w.heap.size (.slice (some ⟨gD, 0, none⟩) D.length D.length) D) := by rw [← hw8]; exact hide (oi_set HOD8.out HBX8.out)
      have HOR9 : Hid (OR w8 w.heap.size (.slice aR R.length cR) R) := by rw [← hw8]; exact hide (or_set HOR8.out HBX8.out)
      have HUS := hide (huses_any _ R w8 HOR9.out.sr HROK.out (by omega))
      have HW8 := hide hw8
      clear o7 b7 hw8 x0 x1 x2 x3 x4
      go_wp2_with fail
      rw [HW8.out]
      refine HUS.out.mono ?_
      rintro e w9 ⟨gU, rfl, o9, b9⟩
      have HBA := hide (HB9.out.trans (b9.mono HB9.out.size))
      have HXA := hide (HX9.out.below b9)
      have HBXA := hide (HBX9.out.below b9)
      have HOLA := hide (HOL9.out.below b9 (Nat.le_refl _))
      have HODA := hide (HOD9.out.below b9 (Nat.le_refl _))
      have HORA := hide (HOR9.out.below b9 (Nat.le_refl _))
      have HLM := hide (limited_any _ (usg R) 7 w9 o9.sb (fun k hk => (o9.lt k hk).2) (by omega))
      obtain ⟨u1, u2⟩ := usg_lm (R := R) (by omega)
      obtain ⟨t1, t2⟩ := lmt7 (R := R) (by omega)
      rw [u1, u2, t1] at HLM
      obtain ⟨C, HCC2⟩ : ∃ C, Hid (C = lmt (usg R) 7) := ⟨_, rfl⟩
      rw [← HCC2.out] at HLM t1 t2
      have HC19 := hide t1
      have HCB := hide t2
      clear o9 b9 u1 u2 t1 t2 y0 y1 y2 y3 y4 z0 z1 z2 z3 z4
      go_wp2_with fail
      refine HLM.out.mono ?_
      rintro e w10 ⟨aK, cK, rfl, oK, bK⟩
      have HBB := hide (HBA.out.trans (bK.mono HBA.out.size))
      have HXB := hide (HXA.out.below bK)
      have HBXB := hide (HBXA.out.below bK)
      have HOLB := hide (HOLA.out.below bK (Nat.le_refl _))
      have HODB := hide (HODA.out.below bK (Nat.le_refl _))
      have HORB := hide (HORA.out.below bK (Nat.le_refl _))
      have HOCB := hide (oK.base HBA.out.size)
      obtain ⟨y0, y1, y2, y3, y4⟩ := HBXB.out.cells
      obtain ⟨z0, z1, z2, z3, z4⟩ := HBXB.out.frozen
      obtain ⟨w11, hw11⟩ : ∃ w11, w10.setCell ⟨w3.heap.size, 2, none⟩ (.slice aK 19 cK) = w11 := ⟨_, rfl⟩
      have HBC : Hid (Below w.heap.size w w11) := by rw [← hw11]; exact hide (HBB.out.setCell (p := ⟨w3.heap.size, 2, none⟩) HSB.out _)
      have HXC : Hid (Hbox w11 w.heap.size (.slice none 0 0) (.slice none 0 0) (.slice none 0 0) (.slice none 0 0) (.int .i64 0)) := by rw [← hw11]; exact hide (hb_set HXB.out HNX.out)
      have HBXC : Hid (Hbox w11 w3.heap.size (.slice (some ⟨gL, 0, none⟩) L.length L.length) (.slice (some ⟨gD, 0, none⟩) D.length D.length) (.slice aK 19 cK) (.slice aR R.length cR) (.int .i64 0)) := by rw [← hw11]; exact hide (HBXB.out.set _).1
      have HOLC : Hid (OI w11 w.heap.size (.slice (some ⟨gL, 0, none⟩) L.length L.length) L) := by rw [← hw11]; exact hide (oi_set HOLB.out HBXB.out)
      have HODC : Hid (OI w11 w.heap.size (.slice (some ⟨gD, 0, none⟩) D.length D.length) D) := by rw [← hw11]; exact hide (oi_set HODB.out HBXB.out)
      have HORC : Hid (OR w11 w.heap.size (.slice aR R.length cR) R) := by rw [← hw11]; exact hide (or_set HORB.out HBXB.out)
      have HOCC : Hid (OI w11 w.heap.size (.slice aK 19 cK) C) := by rw [← hw11]; exact hide (oi_set HOCB.out HBXB.out)
      have HSZ := hide (hsize_any (.slice (some ⟨gL, 0, none⟩) L.length L.length) (.slice (some ⟨gD, 0, none⟩) D.length D.length) (.slice aK 19 cK) (.slice aR R.length cR) C R w11 rfl rfl HOCC.out.sb HORC.out.sr (HT.out.mono HBC.out) (HO.out.mono HBC.out) HC19.out (fun s => by have := HCB.out s; omega) HROK.out (by omega))
      have HW11 := hide hw11
      clear oK bK hw11
      go_wp2_with fail
      rw [HW11.out]
      refine HSZ.out.mono ?_
      rintro e w12 ⟨rfl, b12⟩
      obtain ⟨S, HSS⟩ : ∃ S, Hid (S = hsz C R) := ⟨_, rfl⟩
      rw [← HSS.out]
      have HBD := hide (HBC.out.trans (b12.mono HBC.out.size))
      have HXD := hide (HXC.out.below b12)
      have HBXD := hide (HBXC.out.below b12)
      have HOLD := hide (HOLC.out.below b12 (Nat.le_refl _))
      have HODD := hide (HODC.out.below b12 (Nat.le_refl _))
      have HORD := hide (HORC.out.below b12 (Nat.le_refl _))
      have HOCD := hide (HOCC.out.below b12 (Nat.le_refl _))
      clear b12 y0 y1 y2 y3 y4 z0 z1 z2 z3 z4
      obtain ⟨y0, y1, y2, y3, y4⟩ := HBXD.out.cells
      obtain ⟨z0, z1, z2, z3, z4⟩ := HBXD.out.frozen
      obtain ⟨w13, hw13⟩ : ∃ w13, w12.setCell ⟨w3.heap.size, 4, none⟩ (.int .i64 S) = w13 := ⟨_, rfl⟩
      have HBE : Hid (Below w.heap.size w w13) := by rw [← hw13]; exact hide (HBD.out.setCell (p := ⟨w3.heap.size, 4, none⟩) HSB.out _)
      have HXE : Hid (Hbox w13 w.heap.size (.slice none 0 0) (.slice none 0 0) (.slice none 0 0) (.slice none 0 0) (.int .i64 0)) := by rw [← hw13]; exact hide (hb_set HXD.out HNX.out)
      have HBXE : Hid (Hbox w13 w3.heap.size (.slice (some ⟨gL, 0, none⟩) L.length L.length) (.slice (some ⟨gD, 0, none⟩) D.length D.length) (.slice aK 19 cK) (.slice aR R.length cR) (.int .i64 S)) := by rw [← hw13]; exact hide (HBXD.out.set _).2.2
      have HOLE : Hid (OI w13 w.heap.size (.slice (some ⟨gL, 0, none⟩) L.length L.length) L) := by rw [← hw13]; exact hide (oi_set HOLD.out HBXD.out)
      have HODE : Hid (OI w13 w.heap.size (.slice (some ⟨gD, 0, none⟩) D.length D.length) D) := by rw [← hw13]; exact hide (oi_set HODD.out HBXD.out)
      have HORE : Hid (OR w13 w.heap.size (.slice aR R.length cR) R) := by rw [← hw13]; exact hide (or_set HORD.out HBXD.out)
      have HOCE : Hid (OI w13 w.heap.size (.slice aK 19 cK) C) := by rw [← hw13]; exact hide (oi_set HOCD.out HBXD.out)
      obtain ⟨m0, m1, m2, m3, m4⟩ := HBXE.out.cells
      obtain ⟨n0, n1, n2, n3, n4⟩ := HXE.out.cells
      obtain ⟨o0, o1, o2, o3, o4⟩ := HXE.out.frozen
      go_wp2
      have HZZ : Hid (mkZ l d = S ∧ mkL l = L ∧ mkD d = D ∧ mkC l d = C ∧ mkR l d = R) := by
        have hR : mkR l d = R := by unfold mkR; rw [← HLL.out, ← HDD.out, ← HJ.out, HRR.out]
        have hC : mkC l d = C := by unfold mkC; rw [hR, HCC2.out]
        exact ⟨by unfold mkZ; rw [hC, hR, HSS.out], HLL.out.symm, HDD.out.symm, hC, hR⟩
      obtain ⟨wf, hwf⟩ : ∃ wf, (((((w13.setCell ⟨w.heap.size, 0, none⟩ (.slice (some ⟨gL, 0, none⟩) L.length L.length)).setCell ⟨w.heap.size, 1, none⟩ (.slice (some ⟨gD, 0, none⟩) D.length D.length)).setCell ⟨w.heap.size, 2, none⟩ (.slice aK 19 cK)).setCell ⟨w.heap.size, 3, none⟩ (.slice aR R.length cR)).setCell ⟨w.heap.size, 4, none⟩ (.int .i64 S)) = wf := ⟨_, rfl⟩
      have hfx : Hbox wf w.heap.size (.slice (some ⟨gL, 0, none⟩) L.length L.length) (.slice (some ⟨gD, 0, none⟩) D.length D.length) (.slice aK 19 cK) (.slice aR R.length cR) (.int .i64 S) := by rw [← hwf]; exact HXE.out.put
      have hfb : Below w.heap.size w wf := by rw [← hwf]; exact put_below HBE.out (Nat.le_refl _)
      have hoth : ∀ k, k ≠ w.heap.size → wf.heap[k]? = w13.heap[k]? := fun k hk => by rw [← hwf]; exact put_other hk
      have hmk : Mkd wf w.heap.size (.slice (some ⟨gL, 0, none⟩) L.length L.length) (.slice (some ⟨gD, 0, none⟩) D.length D.length) (.slice aK 19 cK) (.slice aR R.length cR) L D C R :=
        ⟨HOLE.out.move fun k hk => hoth k (oi_apart7 HOLE.out HXE.out k hk), HODE.out.move fun k hk => hoth k (oi_apart7 HODE.out HXE.out k hk), HOCE.out.move fun k hk => hoth k (oi_apart7 HOCE.out HXE.out k hk), rown_move HORE.out fun k hk => hoth k (or_apart7 HORE.out HXE.out k hk)⟩
      rw [hwf]
      obtain ⟨f0, f1, f2, f3, f4⟩ := hfx.cells
      refine bodyPost_ret (v := .tuple #[.agg #[(.slice (some ⟨gL, 0, none⟩) L.length L.length), (.slice (some ⟨gD, 0, none⟩) D.length D.length), .slice aK 19 cK, .slice aR R.length cR, .int .i64 S], .int .i64 0]) (by simp [results, Tryz.results96, go_sem, f0, f1, f2, f3, f4]) rfl ?_
      refine ⟨.inr ⟨HE.out, (.slice (some ⟨gL, 0, none⟩) L.length L.length), (.slice (some ⟨gD, 0, none⟩) D.length D.length), .slice aK 19 cK, .slice aR R.length cR, ?_, ?_⟩, hfb⟩
      · rw [HZZ.out.1]
      · rw [HZZ.out.2.1, HZZ.out.2.2.1, HZZ.out.2.2.2.1, HZZ.out.2.2.2.2]
        exact hmk
    · have HE : Hid (mkE l d = E) := HMK.out
      have HNE : Hid (mkE l d ≠ 0) := by show _ ≠ _; rw [HE.out]; exact e0
      have e0' : (E != 0) = true := by simpa using e0
      obtain ⟨r0, r1, r2, r3, r4⟩ := HX5.out.cells
      obtain ⟨t0, t1, t2, t3, t4⟩ := HX5.out.frozen
      clear p0 p1 p2 p3 p4 q0 q1 q2 q3 q4
      go_wp2
      obtain ⟨wf, hwf⟩ : ∃ wf, (((((w5.setCell ⟨w.heap.size, 0, none⟩ (.slice none 0 0)).setCell ⟨w.heap.size, 1, none⟩ (.slice none 0 0)).setCell ⟨w.heap.size, 2, none⟩ (.slice none 0 0)).setCell ⟨w.heap.size, 3, none⟩ (.slice none 0 0)).setCell ⟨w.heap.size, 4, none⟩ (.int .i64 0)) = wf := ⟨_, rfl⟩
      have hfx : Hbox wf w.heap.size (.slice none 0 0) (.slice none 0 0) (.slice none 0 0) (.slice none 0 0) (.int .i64 0) := by rw [← hwf]; exact HX5.out.put
      have hfb : Below w.heap.size w wf := by rw [← hwf]; exact put_below HB5.out (Nat.le_refl _)
      rw [hwf]
      obtain ⟨f0, f1, f2, f3, f4⟩ := hfx.cells
      refine bodyPost_ret (v := .tuple #[.agg #[.slice none 0 0, .slice none 0 0, .slice none 0 0, .slice none 0 0, .int .i64 0], .int .i64 E]) (by simp [results, Tryz.results96, go_sem, f0, f1, f2, f3, f4]) rfl ?_
      exact ⟨.inl ⟨HNE.out, by unfold MkNo; rw [HE.out]⟩, hfb⟩
end Go.Proofs.YtfoglaajnlbnbaaGreatDoor

