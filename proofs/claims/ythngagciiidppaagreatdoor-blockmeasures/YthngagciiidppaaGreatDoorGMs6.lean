import Derived.Test.YthngagciiidppaaGreatDoorGA37
import Derived.Deep.DeepCutAuto
namespace Go.Proofs.YthngagciiidppaaGreatDoor
open Go.RowKit Go.Maps
set_option maxRecDepth 20000
set_option linter.unusedVariables false

set_option maxHeartbeats 8000000 in
theorem measure_any (v : Value) (R : List Tk) (a : Int) (w : World) (h : SK w v R) (hb : ∀ t ∈ R, Bt t) (hn : R.length ≤ 5864062014805) (ha0 : -9223372036854775808 ≤ a) (ha1 : a ≤ 9223372036854775807) (T : Ltab w ∧ Dtab w) (TH : Tab w) (O : Odr w) :
    Calls Tryz.prog 5 #[v, .int .i64 a] w fun e w' => e = .returned (.tuple #[.agg #[.int .i64 (mzS R a), .int .i64 (mzF R a), .int .i64 (mzD R a)], .int .i64 (mzE R a)]) ∧ Below w.heap.size w w' := by
  obtain ⟨wb, hwb⟩ : ∃ wb, w.alloc (.cells #[.int .i64 0, .int .i64 0, .int .i64 0] 25) = wb := ⟨_, rfl⟩
  have HB : Hid (Below w.heap.size w wb) := by show Below _ _ _; rw [← hwb]; exact (Below.refl _ _).alloc (Nat.le_refl _) _
  have HX : Hid (Bx3 wb w.heap.size 0 0 0) := by show Bx3 _ _ _ _ _; unfold Bx3; rw [← hwb]; exact heap_alloc_new w _
  have hbl : w.heap.size < wb.heap.size := by rw [← hwb]; simp
  have HS := hide (h.below HB.out)
  have HBT := hide hb
  have HTL : Hid (∀ wx, Below wb.heap.size wb wx → Ltab wx ∧ Dtab wx) := fun wx q => ⟨(T.1.low HB.out).low q, (T.2.low HB.out).low q⟩
  have HTT : Hid (∀ wx, Below wb.heap.size wb wx → Tab wx ∧ Odr wx) := fun wx q => ⟨(TH.mono HB.out).mono q, (O.mono HB.out).mono q⟩
  have HSD := hide (said_any v R wb HS.out hn)
  obtain ⟨ao, cap, rfl, hlc, hcm⟩ := h.open
  clear h hb T TH O
  have HXM : Hid (∀ wx, Below wb.heap.size wb wx → Bx3 wx w.heap.size 0 0 0) := fun wx q => (q.block _ hbl).trans HX.out
  have HFI : Hid (∀ wx, Below wb.heap.size wb wx → Below w.heap.size w wx) := fun wx q => HB.out.trans (q.mono HB.out.size)
  have HEND : Hid (∀ (wx : World) (x y z : Int), Below w.heap.size w wx → Below w.heap.size w (((wx.setCell ⟨w.heap.size, 0, none⟩ (.int .i64 x)).setCell ⟨w.heap.size, 1, none⟩ (.int .i64 y)).setCell ⟨w.heap.size, 2, none⟩ (.int .i64 z))) := fun wx x y z q => ((q.setCell (p := ⟨w.heap.size, 0, none⟩) (Nat.le_refl _) _).setCell (p := ⟨w.heap.size, 1, none⟩) (Nat.le_refl _) _).setCell (p := ⟨w.heap.size, 2, none⟩) (Nat.le_refl _) _
  by_cases hneg : a < 0
  · obtain ⟨r0, r1, r2, rf⟩ := HX.out.cells
    have rf0 := rf 0
    have rf1 := rf 1
    have rf2 := rf 2
    have HME : Hid (mzE R a = 1) := by show _ = _; unfold mzE; rw [if_pos hneg]
    have HM0 : Hid (mzS R a = 0 ∧ mzF R a = 0 ∧ mzD R a = 0) := by
      unfold mzS mzF mzD
      rw [HME.out]
      exact ⟨rfl, rfl, rfl⟩
    obtain ⟨wf, hwf⟩ : ∃ wf, ((wb.setCell ⟨w.heap.size, 0, none⟩ (.int .i64 0)).setCell ⟨w.heap.size, 1, none⟩ (.int .i64 0)).setCell ⟨w.heap.size, 2, none⟩ (.int .i64 0) = wf := ⟨_, rfl⟩
    obtain ⟨f0, f1, f2, -⟩ := (HX.out.put 0 0 0).cells
    have HBF := hide (HEND.out wb 0 0 0 HB.out)
    rw [hwf] at f0 f1 f2 HBF
    clear rf
    go_enter Tryz.func5, Tryz.ntmps5
    go_wp2
    refine bodyPost_ret (v := .tuple #[.agg #[.int .i64 0, .int .i64 0, .int .i64 0], .int .i64 1]) (by simp [results, Tryz.results5, go_sem, f0, f1, f2]) rfl ?_
    rw [HM0.out.1, HM0.out.2.1, HM0.out.2.2, HME.out]
    exact ⟨rfl, HBF.out⟩
  obtain ⟨sn, HSN⟩ : ∃ n, Hid (n = sdN R) := ⟨_, rfl⟩
  obtain ⟨se, HSE⟩ : ∃ n, Hid (n = sdE R) := ⟨_, rfl⟩
  rw [← HSN.out, ← HSE.out] at HSD
  have HME : Hid (mzE R a = se) := by show _ = _; unfold mzE; rw [if_neg hneg]; exact HSE.out.symm
  go_enter Tryz.func5, Tryz.ntmps5
  go_wp2_with fail
  refine HSD.out.mono ?_
  rintro e w1 ⟨rfl, b1⟩
  have HB1 := hide b1
  clear b1 HSD hwb
  by_cases hse : se = 0
  case neg =>
    have hse' : (se != 0) = true := by simpa using hse
    have HM0 : Hid (mzS R a = 0 ∧ mzF R a = 0 ∧ mzD R a = 0) := by
      unfold mzS mzF mzD
      rw [HME.out, if_neg hse, if_neg hse, if_neg hse]
      exact ⟨rfl, rfl, rfl⟩
    have hx1 := HXM.out _ HB1.out
    obtain ⟨r0, r1, r2, rf⟩ := hx1.cells
    have rf0 := rf 0
    have rf1 := rf 1
    have rf2 := rf 2
    obtain ⟨wf, hwf⟩ : ∃ wf, ((w1.setCell ⟨w.heap.size, 0, none⟩ (.int .i64 0)).setCell ⟨w.heap.size, 1, none⟩ (.int .i64 0)).setCell ⟨w.heap.size, 2, none⟩ (.int .i64 0) = wf := ⟨_, rfl⟩
    obtain ⟨f0, f1, f2, -⟩ := (hx1.put 0 0 0).cells
    have HBF := hide (HEND.out w1 0 0 0 (HFI.out _ HB1.out))
    rw [hwf] at f0 f1 f2 HBF
    clear rf hx1 hse
    go_wp2
    refine bodyPost_ret (v := .tuple #[.agg #[.int .i64 0, .int .i64 0, .int .i64 0], .int .i64 se]) (by simp [results, Tryz.results5, go_sem, f0, f1, f2]) rfl ?_
    rw [HM0.out.1, HM0.out.2.1, HM0.out.2.2, HME.out]
    exact ⟨rfl, HBF.out⟩
  subst hse
  obtain ⟨q1, q2, q3, q4, q5⟩ := sd_ok HSE.out.symm
  have hsn : sn = lsay R := HSN.out.trans q2
  rw [← hsn] at q3 q4
  have HSNN := hide hsn
  have HASN := hide q1
  obtain ⟨ct0, ct1, ct2, ct3, ct4⟩ := ctl_facts (R := R) (by omega) q1
  obtain ⟨-, tr1, tr2, -, -⟩ := trl_facts (R := R) (by omega) q1
  have htl : trL R = lmL (ctL R) 15 := by unfold trL; rw [if_pos ct0]
  have htd : trD R = lmL (ctD R) 15 := by unfold trD; rw [if_pos ct0]
  rw [htl] at tr1
  rw [htd] at tr2
  have hFe : (cls (List.replicate 286 0) R).set 256 1 = ctL R := by unfold ctL; rw [if_pos ct0]
  have hGe : cdt (List.replicate 30 0) R = ctD R := by unfold ctD; rw [if_pos ct0]
  have HCT := hide (ocount_any _ R w1 (HS.out.below HB1.out) (fun t ht => ⟨asnd_all q1 t ht, HBT.out t ht⟩) (by omega) (HTL.out _ HB1.out))
  rw [hFe, hGe] at HCT
  obtain ⟨F, HF⟩ : ∃ F, Hid (F = ctL R) := ⟨_, rfl⟩
  obtain ⟨G, HG⟩ : ∃ F, Hid (F = ctD R) := ⟨_, rfl⟩
  rw [← HF.out] at HCT ct1 ct3 tr1
  rw [← HG.out] at HCT ct2 ct4 tr2
  have HC1 := hide ct1
  have HC2 := hide ct2
  have HC3 := hide ct3
  have HC4 := hide ct4
  have HT1 := hide tr1
  have HT2 := hide tr2
  clear q1 q2 hsn ct0 ct1 ct2 ct3 ct4 tr1 tr2 htl htd hFe hGe
  go_wp2_with fail
  refine HCT.out.mono ?_
  rintro e w2 ⟨g1, g2, rfl, o1, o2, hne, b2⟩
  have HB2 := hide (HB1.out.trans (b2.mono HB1.out.size))
  obtain ⟨w3, hw3⟩ : ∃ w3, w2.alloc (.cells #[.slice (some ⟨g1, 0, none⟩) 286 286, .slice (some ⟨g2, 0, none⟩) 30 30] 38) = w3 := ⟨_, rfl⟩
  have b3 : Below w2.heap.size w2 w3 := by rw [← hw3]; exact (Below.refl _ _).alloc (Nat.le_refl _) _
  have HB3 := hide (HB2.out.trans (b3.mono HB2.out.size))
  have h23 : w2.heap.size < w3.heap.size := by rw [← hw3]; simp
  have e1 : w3.cell? ⟨w2.heap.size, 0, none⟩ = some (.slice (some ⟨g1, 0, none⟩) 286 286) := by rw [← hw3]; unfold World.cell?; simp only [heap_alloc_new]; rfl
  have e2 : w3.cell? ⟨w2.heap.size, 1, none⟩ = some (.slice (some ⟨g2, 0, none⟩) 30 30) := by rw [← hw3]; unfold World.cell?; simp only [heap_alloc_new]; rfl
  have HPB : Hid (∀ wx, Below w3.heap.size w3 wx → wx.cell? ⟨w2.heap.size, 0, none⟩ = some (.slice (some ⟨g1, 0, none⟩) 286 286) ∧ wx.cell? ⟨w2.heap.size, 1, none⟩ = some (.slice (some ⟨g2, 0, none⟩) 30 30)) := fun wx q => ⟨(q.cell h23).trans e1, (q.cell h23).trans e2⟩
  have HO1 := hide (o1.below b3 (Nat.le_refl _))
  have HO2 := hide (o2.below b3 (Nat.le_refl _))
  obtain ⟨Z1, HZ1⟩ : ∃ z, Hid (z = stz sn a) := ⟨_, rfl⟩
  obtain ⟨Z2, HZ2⟩ : ∃ z, Hid (z = bdz F G (fxL 288) (List.replicate 32 5)) := ⟨_, rfl⟩
  obtain ⟨Z3, HZ3⟩ : ∃ z, Hid (z = dyz F G) := ⟨_, rfl⟩
  have hz2 := bdz_bd (P := fxL 288) (Q := List.replicate 32 5) HC3.out HC4.out
  rw [← HZ2.out] at hz2
  have HST : Hid (Calls Tryz.prog 11 #[.int .i64 sn, .int .i64 a] w3.drew fun e w' => e = .returned (.int .i64 Z1) ∧ Below w3.heap.size w3 w') := by
    have := storedSize_any sn a (by omega) (by omega) (by omega) ha1 w3.drew
    rw [← HZ1.out] at this
    exact this.mono fun e w' ⟨h1, h2⟩ => ⟨h1, by rw [h2]; exact (Below.refl _ _).drew⟩
  have HFX : Hid (∀ wx, Below w3.heap.size w3 wx → Calls Tryz.prog 13 #[] wx fun e w' => ∃ a1 c1 a2 c2, e = .returned (.agg #[.slice a1 288 c1, .slice a2 32 c2]) ∧ SI w' (.slice a1 288 c1) (fxL 288) ∧ SI w' (.slice a2 32 c2) (List.replicate 32 5) ∧ Below w3.heap.size w3 w') := fun wx q => (fixed_any wx).mono fun e w' ⟨a1, c1, a2, c2, h1, h2, h3, h4⟩ => ⟨a1, c1, a2, c2, h1, h2, h3, q.trans (h4.mono q.size)⟩
  have HBS : Hid (∀ wx a1 c1 a2 c2, Below w3.heap.size w3 wx → SI wx (.slice a1 288 c1) (fxL 288) → SI wx (.slice a2 32 c2) (List.replicate 32 5) → Calls Tryz.prog 12 #[.agg #[.slice (some ⟨g1, 0, none⟩) 286 286, .slice (some ⟨g2, 0, none⟩) 30 30], .agg #[.slice a1 288 c1, .slice a2 32 c2]] wx fun e w' => e = .returned (.int .i64 Z2) ∧ Below w3.heap.size w3 w') := fun wx a1 c1 a2 c2 q s1 s2 => by
    have := bodySize_any _ _ _ _ F G (fxL 288) (List.replicate 32 5) wx (HO1.out.sb.below q) (HO2.out.sb.below q) s1 s2 HC1.out HC2.out (by rw [fxL_len]; omega) (by simp) HC3.out HC4.out (HTL.out _ (HB3.out.trans (q.mono HB3.out.size)))
    rw [← HZ2.out] at this
    exact this.mono fun e w' ⟨h1, h2⟩ => ⟨h1, q.trans (h2.mono q.size)⟩
  have HDS : Hid (∀ wx, Below w3.heap.size w3 wx → Calls Tryz.prog 14 #[.agg #[.slice (some ⟨g1, 0, none⟩) 286 286, .slice (some ⟨g2, 0, none⟩) 30 30]] wx fun e w' => e = .returned (.int .i64 Z3) ∧ Below w3.heap.size w3 w') := fun wx q => by
    have hq := HB3.out.trans (q.mono HB3.out.size)
    have := dynamicSize_any _ _ _ _ _ _ F G wx (HO1.out.sb.below q) (HO2.out.sb.below q) (fun k hk => Nat.lt_of_lt_of_le (HO1.out.lt k hk).2 q.size) (fun k hk => Nat.lt_of_lt_of_le (HO2.out.lt k hk).2 q.size) HC1.out HC2.out HC3.out HC4.out (by rw [HT1.out]; omega) (by rw [HT2.out]; omega) (HTL.out _ hq) (HTT.out _ hq).1 (HTT.out _ hq).2
    rw [← HZ3.out] at this
    exact this.mono fun e w' ⟨h1, h2⟩ => ⟨h1, q.trans (h2.mono q.size)⟩
  have HMS : Hid (mzS R a = Z1 ∧ mzF R a = 3 + Z2 ∧ mzD R a = Z3) := by
    unfold mzS mzF mzD
    rw [HME.out, if_pos rfl, if_pos rfl, if_pos rfl, ← HF.out, ← HG.out, HZ1.out, HZ2.out, HZ3.out, HSNN.out]
    exact ⟨rfl, rfl, rfl⟩
  obtain ⟨f1, f2⟩ := HPB.out w3.drew ((Below.refl _ _).drew)
  have v1 : IntKind.i64.wrap (3 + Z2) = 3 + Z2 := by rw [IntKind.wrap_i64]; omega
  clear o1 o2 b2 b3 hne HCT
  go_wp2
  clear hw3 e1 e2
  go_cut [5] (fun s5 wx => s5 = .int .i64 0 ∧ Hid (Bx3 wx w.heap.size Z1 (3 + Z2) Z3) ∧ Hid (Below w.heap.size w wx))
  case first =>
    go_region_with (first
      | (go_at_call 11; with_reducible refine HST.out.mono ?_; rintro e w4 ⟨rfl, b4⟩; have HB4 := hide b4; obtain ⟨y1, y2⟩ := HPB.out _ b4; clear b4)
      | (go_at_call 13; with_reducible refine (HFX.out w4 HB4.out).mono ?_; rintro e w5 ⟨a1, c1, a2, c2, rfl, s1, s2, b5⟩; have HB5 := hide b5; have HS1 := hide s1; have HS2 := hide s2; obtain ⟨y3, y4⟩ := HPB.out _ b5; clear b5 s1 s2)
      | (go_at_call 12; with_reducible refine (HBS.out w5 _ _ _ _ HB5.out HS1.out HS2.out).mono ?_; rintro e w6 ⟨rfl, b6⟩; have HB6 := hide b6; obtain ⟨y5, y6⟩ := HPB.out _ b6; clear b6)
      | (go_at_call 14; with_reducible refine (HDS.out w6 HB6.out).mono ?_; rintro e w7 ⟨rfl, b7⟩; have HB7 := hide b7; have hx7 := HXM.out w7 (HB3.out.trans (b7.mono HB3.out.size)); obtain ⟨r0, r1, r2, rf⟩ := hx7.cells; have rf0 := rf 0; have rf1 := rf 1; have rf2 := rf 2; have HP7 := hide (hx7.put Z1 (3 + Z2) Z3); clear b7 hx7 rf))
    all_goals
      have HBF := hide (HEND.out w7 Z1 (3 + Z2) Z3 (HFI.out _ (HB3.out.trans (HB7.out.mono HB3.out.size))))
      clear r0 r1 r2 rf0 rf1 rf2 y1 y2 y3 y4 y5 y6 f1 f2 HS1 HS2 HB4 HB5 HB6 HST HFX HBS HDS
      go_wp2_with fail
      go_meet
      exact ⟨rfl, HP7, HBF⟩
  case rest =>
  obtain ⟨rfl, HP7, HBF⟩ := hcut
  obtain ⟨x0, x1, x2, -⟩ := HP7.out.cells
  clear HST HFX HBS HDS f1 f2
  go_wp2
  refine bodyPost_ret (v := .tuple #[.agg #[.int .i64 Z1, .int .i64 (3 + Z2), .int .i64 Z3], .int .i64 0]) (by simp [results, Tryz.results5, go_sem, x0, x1, x2]) rfl ?_
  rw [HMS.out.1, HMS.out.2.1, HMS.out.2.2, HME.out]
  exact ⟨rfl, HBF.out⟩
end Go.Proofs.YthngagciiidppaaGreatDoor

