import Derived.Test.YthngagciiidppaaGreatDoorGA37
import Derived.Test.YthngagciiidppaaGreatDoorGMx3
import Derived.Test.YthngagciiidppaaGreatDoorGA25
import Derived.Deep.DeepCutAuto
import Derived.Deep.RegionWith
namespace Go.Proofs.YthngagciiidppaaGreatDoor
open Go.RowKit Go.Maps
set_option maxRecDepth 20000
set_option linter.unusedVariables false

theorem gd_lok {f n : List Int} {m : Nat} (hf : Bd f m) (h : Gd f n 15) : ∀ i, 0 ≤ n.getD i 0 ∧ n.getD i 0 ≤ 15 := by
  intro i
  by_cases hi : i < f.length
  · by_cases h0 : f.getD i 0 = 0
    · rw [h.zero i hi h0]; omega
    · have hb := hf i
      have := h.ok i (mem_us.2 ⟨hi, by omega⟩)
      omega
  · rw [List.getD_eq_getElem?_getD, List.getElem?_eq_none (by rw [h.len]; omega)]
    simp

theorem tr_lok {R : List Tk} (hn : R.length ≤ 16777216) (ha : asnd R = true) : Lok (trL R) 286 ∧ Lok (trD R) 30 := by
  obtain ⟨hE, h1, h2, b1, b2⟩ := ctl_facts hn ha
  obtain ⟨t1, t2, t3, t4, t5⟩ := trl_facts hn ha
  have e2 := cnt_lmE (by omega) b2 (by omega)
  have q2 : trD R = lmt (ctD R) 15 := by unfold trD lmL; rw [if_pos hE, if_pos e2.1]; rfl
  have hs2 := cnt_sound (l := ctD R) (by omega) b2 (by omega)
  have g2 := gd_lmt hs2 (L := 15) (by omega) e2.2
  rw [← t1] at t4
  rw [← q2] at g2
  exact ⟨⟨by omega, gd_lok b1 t4⟩, ⟨by omega, gd_lok b2 g2⟩⟩

theorem fx_lok : Lok (fxL 288) 286 ∧ Lok (List.replicate 32 5) 30 := by
  refine ⟨⟨by rw [fxL_len]; omega, fun i => ?_⟩, ⟨by simp, fun i => ?_⟩⟩
  · by_cases h : i < 288
    · have e : (fxL 288).getD i 0 = fxl i := by
        unfold fxL
        rw [List.getD_eq_getElem?_getD, List.getElem?_map, List.getElem?_range h]
        rfl
      rw [e]
      unfold fxl
      split
      · omega
      · split
        · omega
        · split <;> omega
    · rw [List.getD_eq_getElem?_getD, List.getElem?_eq_none (by rw [fxL_len]; omega)]
      simp
  · by_cases h : i < 32
    · have e : (List.replicate 32 (5 : Int)).getD i 0 = 5 := by rw [List.getD_eq_getElem?_getD, List.getElem?_replicate, if_pos h]; rfl
      rw [e]; omega
    · rw [List.getD_eq_getElem?_getD, List.getElem?_eq_none (by simp; omega)]
      simp

set_option maxHeartbeats 8000000 in
theorem kmeasure_any (v : Value) (R : List Tk) (a : Int) (w : World) (h : SK w v R) (hb : ∀ t ∈ R, Bt t) (hn : R.length ≤ 5864062014805) (ha0 : -9223372036854775808 ≤ a) (ha1 : a ≤ 9223372036854775807) (O : Xodr w) :
    Calls Tryz.prog 6 #[v, .int .i64 a] w fun e w' => e = .returned (.tuple #[.agg #[.int .i64 (mzS R a), .int .i64 (mzF R a), .int .i64 (mzD R a)], .int .i64 (mzE R a)]) ∧ Below w.heap.size w w' := by
  obtain ⟨wb, hwb⟩ : ∃ wb, w.alloc (.cells #[.int .i64 0, .int .i64 0, .int .i64 0] 25) = wb := ⟨_, rfl⟩
  have HB : Hid (Below w.heap.size w wb) := by show Below _ _ _; rw [← hwb]; exact (Below.refl _ _).alloc (Nat.le_refl _) _
  have HX : Hid (Bx3 wb w.heap.size 0 0 0) := by show Bx3 _ _ _ _ _; unfold Bx3; rw [← hwb]; exact heap_alloc_new w _
  have hbl : w.heap.size < wb.heap.size := by rw [← hwb]; simp
  have HS := hide (h.below HB.out)
  have HBT := hide hb
  have HTT : Hid (∀ wx, Below wb.heap.size wb wx → Xodr wx) := fun wx q => (O.mono HB.out).mono q
  have HSD := hide (ksound_any v R wb HS.out)
  obtain ⟨ao, cap, rfl, hlc, hcm⟩ := h.open
  clear h hb O
  have HXM : Hid (∀ wx, Below wb.heap.size wb wx → Bx3 wx w.heap.size 0 0 0) := fun wx q => (q.block _ hbl).trans HX.out
  have HFI : Hid (∀ wx, Below wb.heap.size wb wx → Below w.heap.size w wx) := fun wx q => HB.out.trans (q.mono HB.out.size)
  have HEND : Hid (∀ (wx : World) (x y z : Int), Below w.heap.size w wx → Below w.heap.size w (((wx.setCell ⟨w.heap.size, 0, none⟩ (.int .i64 x)).setCell ⟨w.heap.size, 1, none⟩ (.int .i64 y)).setCell ⟨w.heap.size, 2, none⟩ (.int .i64 z))) := fun wx x y z q => ((q.setCell (p := ⟨w.heap.size, 0, none⟩) (Nat.le_refl _) _).setCell (p := ⟨w.heap.size, 1, none⟩) (Nat.le_refl _) _).setCell (p := ⟨w.heap.size, 2, none⟩) (Nat.le_refl _) _
  by_cases hneg : a < 0
  · obtain ⟨r0, r1, r2, rf⟩ := HX.out.cells
    have rf0 := rf 0
    have rf1 := rf 1
    have rf2 := rf 2
    have HME : Hid (mzE R a = 1) := by show _ = _; unfold mzE; rw [if_pos hneg]
    have HM0 : Hid (mzS R a = 0 ∧ mzF R a = 0 ∧ mzD R a = 0) := by
      unfold mzS mzF mzD
      rw [HME.out]
      exact ⟨rfl, rfl, rfl⟩
    obtain ⟨wf, hwf⟩ : ∃ wf, ((wb.setCell ⟨w.heap.size, 0, none⟩ (.int .i64 0)).setCell ⟨w.heap.size, 1, none⟩ (.int .i64 0)).setCell ⟨w.heap.size, 2, none⟩ (.int .i64 0) = wf := ⟨_, rfl⟩
    obtain ⟨f0, f1, f2, -⟩ := (HX.out.put 0 0 0).cells
    have HBF := hide (HEND.out wb 0 0 0 HB.out)
    rw [hwf] at f0 f1 f2 HBF
    clear rf
    go_enter Tryz.func6, Tryz.ntmps6
    go_wp2
    refine bodyPost_ret (v := .tuple #[.agg #[.int .i64 0, .int .i64 0, .int .i64 0], .int .i64 1]) (by simp [results, Tryz.results6, go_sem, f0, f1, f2]) rfl ?_
    rw [HM0.out.1, HM0.out.2.1, HM0.out.2.2, HME.out]
    exact ⟨rfl, HBF.out⟩
  have HZO : Hid (∀ (wx : World) (E : Int), Below wb.heap.size wb wx → mzE R a = E → E ≠ 0 → ∃ wf, ((wx.setCell ⟨w.heap.size, 0, none⟩ (.int .i64 0)).setCell ⟨w.heap.size, 1, none⟩ (.int .i64 0)).setCell ⟨w.heap.size, 2, none⟩ (.int .i64 0) = wf ∧ wf.cell? ⟨w.heap.size, 0, none⟩ = some (.int .i64 0) ∧ wf.cell? ⟨w.heap.size, 1, none⟩ = some (.int .i64 0) ∧ wf.cell? ⟨w.heap.size, 2, none⟩ = some (.int .i64 0) ∧ Below w.heap.size w wf ∧ mzS R a = 0 ∧ mzF R a = 0 ∧ mzD R a = 0) := fun wx E q hE h0 => by
    obtain ⟨f0, f1, f2, -⟩ := ((HXM.out wx q).put 0 0 0).cells
    refine ⟨_, rfl, f0, f1, f2, HEND.out wx 0 0 0 (HFI.out wx q), ?_⟩
    unfold mzS mzF mzD
    rw [hE, if_neg h0, if_neg h0, if_neg h0]
    exact ⟨rfl, rfl, rfl⟩
  have HMS : Hid (mzE R a = sdE R) := by show _ = _; unfold mzE; rw [if_neg hneg]
  go_enter Tryz.func6, Tryz.ntmps6
  go_wp2_with fail
  refine HSD.out.mono ?_
  rintro e w1 ⟨rfl, b1⟩
  have HB1 := hide b1
  clear b1 HSD hwb
  by_cases hs : asnd R = true
  case neg =>
    have hs' : asnd R = false := by simpa using hs
    have hE : mzE R a = 100 := by rw [HMS.out]; unfold sdE; rw [hs']; rfl
    obtain ⟨wf, hwf, f0, f1, f2, bf, m1, m2, m3⟩ := HZO.out w1 100 HB1.out hE (by omega)
    obtain ⟨r0, r1, r2, rf⟩ := (HXM.out _ HB1.out).cells
    have rf0 := rf 0
    have rf1 := rf 1
    have rf2 := rf 2
    have HBF := hide bf
    have HMM := hide (And.intro hE (And.intro m1 (And.intro m2 m3)))
    rw [hs']
    clear rf bf hE m1 m2 m3 hs hs'
    go_wp2
    refine bodyPost_ret (v := .tuple #[.agg #[.int .i64 0, .int .i64 0, .int .i64 0], .int .i64 100]) (by simp [results, Tryz.results6, go_sem, f0, f1, f2]) rfl ?_
    rw [HMM.out.1, HMM.out.2.1, HMM.out.2.2.1, HMM.out.2.2.2]
    exact ⟨rfl, HBF.out⟩
  rw [hs]
  have HSY := hide (ksays_any _ R w1 (HS.out.below HB1.out) hn hs)
  obtain ⟨n, HN⟩ : ∃ n, Hid (n = lsay R) := ⟨_, rfl⟩
  rw [← HN.out] at HSY
  have hin := lsay_in R hs
  rw [← HN.out] at hin
  have hn0 : 0 ≤ n := hin.1
  have hn1 : n ≤ 1512928000000000 := by have := hin.2; omega
  clear hin
  go_wp2_with fail
  refine HSY.out.mono ?_
  rintro e w2 ⟨rfl, hw2⟩
  rw [hw2]
  clear hw2 HSY
  by_cases hbig : 65535 < n
  · have hE : mzE R a = 102 := by rw [HMS.out]; unfold sdE; rw [if_pos hs, if_pos (by rw [← HN.out]; exact hbig)]
    obtain ⟨wf, hwf, f0, f1, f2, bf, m1, m2, m3⟩ := HZO.out w1 102 HB1.out hE (by omega)
    obtain ⟨r0, r1, r2, rf⟩ := (HXM.out _ HB1.out).cells
    have rf0 := rf 0
    have rf1 := rf 1
    have rf2 := rf 2
    have HBF := hide bf
    have HMM := hide (And.intro hE (And.intro m1 (And.intro m2 m3)))
    clear rf bf hE m1 m2 m3 hs
    go_wp2
    refine bodyPost_ret (v := .tuple #[.agg #[.int .i64 0, .int .i64 0, .int .i64 0], .int .i64 102]) (by simp [results, Tryz.results6, go_sem, f0, f1, f2]) rfl ?_
    rw [HMM.out.1, HMM.out.2.1, HMM.out.2.2.1, HMM.out.2.2.2]
    exact ⟨rfl, HBF.out⟩
  have hE0 : sdE R = 0 := by unfold sdE; rw [if_pos hs, if_neg (by rw [← HN.out]; exact hbig)]
  obtain ⟨-, -, -, -, hRl⟩ := sd_ok hE0
  obtain ⟨ct0, ct1, ct2, ct3, ct4⟩ := ctl_facts (R := R) (by omega) hs
  obtain ⟨lok1, lok2⟩ := tr_lok (R := R) (by omega) hs
  have HL1 := hide lok1
  have HL2 := hide lok2
  have htl : trL R = lmL (ctL R) 15 := by unfold trL; rw [if_pos ct0]
  have htd : trD R = lmL (ctD R) 15 := by unfold trD; rw [if_pos ct0]
  have HAS := hide hs
  have HRL : Hid (R.length ≤ 16777216) := by show _ ≤ _; omega
  have HTR := hide (xTrees_any _ R w1 (HS.out.below HB1.out) HBT.out)
  have HCE := hide ct0
  obtain ⟨r, hr⟩ : ∃ r, a % 8 = r := ⟨_, rfl⟩
  have hr0 : 0 ≤ r := by omega
  have hr1 : r < 8 := by omega
  have g1 : a.tmod 8 = r := by rw [Int.tmod_eq_emod_of_nonneg (by omega)]; exact hr
  obtain ⟨m, hm⟩ : ∃ m : Nat, (m : Int) = (13 - r) % 8 := ⟨((13 - r) % 8).toNat, by omega⟩
  have hm7 : m ≤ 7 := by omega
  obtain ⟨Z1, HZ1⟩ : ∃ z, Hid (z = mzS R a) := ⟨_, rfl⟩
  obtain ⟨Z2, HZ2⟩ : ∃ z, Hid (z = bdz (ctL R) (ctD R) (fxL 288) (List.replicate 32 5)) := ⟨_, rfl⟩
  obtain ⟨P, HP⟩ : ∃ z, Hid (z = trL R) := ⟨_, rfl⟩
  obtain ⟨Q, HQ⟩ : ∃ z, Hid (z = trD R) := ⟨_, rfl⟩
  obtain ⟨Z3, HZ3⟩ : ∃ z, Hid (z = bdz (ctL R) (ctD R) P Q) := ⟨_, rfl⟩
  obtain ⟨Z4, HZ4⟩ : ∃ z, Hid (z = hzz P Q) := ⟨_, rfl⟩
  have hz2 := bdz_bd (P := fxL 288) (Q := List.replicate 32 5) ct3 ct4
  have hz3 := bdz_bd (P := P) (Q := Q) ct3 ct4
  have hz4 := hzz_bd P Q
  rw [← HZ2.out] at hz2
  rw [← HZ3.out] at hz3
  rw [← HZ4.out] at hz4
  have HFIN : Hid (mzE R a = 0 ∧ Z1 = 3 + (m : Int) + 32 + 8 * n ∧ mzF R a = 3 + Z2 ∧ mzD R a = 3 + Z4 + Z3) := by
    have h0 : mzE R a = 0 := HMS.out.trans hE0
    refine ⟨h0, ?_, ?_, ?_⟩
    · rw [HZ1.out]; unfold mzS stz; rw [if_pos h0, hr, ← hm, HN.out]; omega
    · unfold mzF; rw [if_pos h0, HZ2.out]
    · unfold mzD dyz; rw [if_pos h0, HZ4.out, HZ3.out, HP.out, HQ.out, htl, htd]
  have HMR := hide hm
  have HRR := hide hr
  rw [← HP.out] at HL1
  rw [← HQ.out] at HL2
  have HBO : Hid (∀ wx vp vq, Below wb.heap.size wb wx → SI wx vp (fxL 288) → SI wx vq (List.replicate 32 5) → Calls Tryz.prog 19 #[.slice ao R.length cap, vp, vq] wx fun e w' => e = .returned (.int .i64 Z2) ∧ Below wx.heap.size wx w') := fun wx vp vq q s1 s2 => by
    have := kbody_any (.slice ao R.length cap) vp vq R (fxL 288) (List.replicate 32 5) wx (HS.out.below q) HBT.out HAS.out HRL.out s1 s2 fx_lok.1 fx_lok.2
    rw [← HZ2.out] at this
    exact this
  have HBP : Hid (∀ wx vp vq, Below wb.heap.size wb wx → SI wx vp P → SI wx vq Q → Calls Tryz.prog 19 #[.slice ao R.length cap, vp, vq] wx fun e w' => e = .returned (.int .i64 Z3) ∧ Below wx.heap.size wx w') := fun wx vp vq q s1 s2 => by
    have := kbody_any (.slice ao R.length cap) vp vq R P Q wx (HS.out.below q) HBT.out HAS.out HRL.out s1 s2 HL1.out HL2.out
    rw [← HZ3.out] at this
    exact this
  clear hs hE0 hRl ct0 ct1 ct2 ct3 ct4 lok1 lok2 htl htd hr hm HZO
  go_wp2
  go_loopw [8] (fun t wr => ∃ j : Nat, j ≤ m ∧ t = .int .i64 (3 + (j : Int)) ∧ wr = w1) (fun t _ => m + 3 - (intOf t).toNat)
  case atStart => exact ⟨0, Nat.zero_le _, rfl, by trivial⟩
  case round =>
    obtain ⟨j, hj, rfl, hwr⟩ := hrel
    rw [hwr]
    clear hwr
    obtain ⟨t, ht⟩ : ∃ t : Int, t = 3 + (j : Int) := ⟨_, rfl⟩
    have HT := hide ht
    have ht3 : 3 ≤ t ∧ t ≤ 10 := by omega
    by_cases hlt : j < m
    · obtain ⟨s, hs⟩ : ∃ s, (r + t) % 8 = s := ⟨_, rfl⟩
      have g2 : (r + t).tmod 8 = s := by rw [Int.tmod_eq_emod_of_nonneg (by omega)]; exact hs
      have hs0 : (s != 0) = true := by have := HMR.out; simp; omega
      rw [← ht]
      clear hs ht
      go_wp2
      go_roundw
      case rel => exact ⟨j + 1, by omega, by rw [HT.out]; go_num, by trivial⟩
      case measure => have := HT.out; simp [intOf]; omega
    · have hjm : j = m := by omega
      have g2 : (r + t).tmod 8 = 0 := by rw [Int.tmod_eq_emod_of_nonneg (by omega)]; have := HMR.out; omega
      rw [← ht]
      have HTM : Hid (t = 3 + (m : Int)) := by show _ = _; rw [ht, hjm]
      clear ht hj hlt hjm HT
      have hz1 : t + 32 + 8 * n = Z1 := by rw [HTM.out, HFIN.out.2.1]
      have HZ1' := hide hz1
      clear hz1
      go_wp2_with fail
      refine HTR.out.mono ?_
      rintro e w3 ⟨vl, vd, rfl, o1, o2, _, b3⟩
      rw [HCE.out]
      rw [← HP.out] at o1
      rw [← HQ.out] at o2
      have HB3 := hide (HB1.out.trans (b3.mono HB1.out.size))
      have HMK := hide (xmake_any _ _ P Q w3 o1.sb o2.sb (HTT.out _ HB3.out))
      have HO1 := hide o1.sb
      have HO2 := hide o2.sb
      obtain ⟨al, cl, rfl, _⟩ := o1.sb.open
      obtain ⟨ad, cd, rfl, _⟩ := o2.sb.open
      obtain ⟨nP, hnP⟩ : ∃ n, P.length = n := ⟨_, rfl⟩
      obtain ⟨nQ, hnQ⟩ : ∃ n, Q.length = n := ⟨_, rfl⟩
      rw [hnP] at HMK HO1 ⊢
      rw [hnQ] at HMK HO2 ⊢
      clear o1 o2 b3 HTR hnP hnQ g1 g2
      go_wp2_with fail
      refine HMK.out.mono ?_
      rintro e w4 ⟨hyn, b4⟩
      obtain ⟨aL, cL, aD, cD, aC, cC, aR, cR, L, D, C, R', Z', hmm, rfl, _⟩ := mrs_of hyn
      have hZ' : Z' = Z4 := by
        rw [HZ4.out]
        unfold hzz
        rcases hmm with ⟨h1, -, -, -, -, h2⟩ | ⟨h1, -, -, -, -, h2⟩
        · rw [if_pos h1, h2]
        · rw [if_neg h1, h2]
      subst hZ'
      obtain ⟨EM, HEM⟩ : ∃ E, Hid (E = mkE P Q) := ⟨_, rfl⟩
      rw [← HEM.out]
      have HB4 := hide (HB3.out.trans (b4.mono HB3.out.size))
      obtain ⟨w5, hw5⟩ : ∃ w5, w4.alloc (.cells #[.slice aL L.length cL, .slice aD D.length cD, .slice aC C.length cC, .slice aR R'.length cR, .int .i64 Z'] 50) = w5 := ⟨_, rfl⟩
      have b5 : Below w4.heap.size w4 w5 := by rw [← hw5]; exact (Below.refl _ _).alloc (Nat.le_refl _) _
      have HB5 := hide (HB4.out.trans (b5.mono HB4.out.size))
      have h45 : w4.heap.size < w5.heap.size := by rw [← hw5]; simp
      have z1 : w5.cell? ⟨w4.heap.size, 4, none⟩ = some (.int .i64 Z') := by rw [← hw5]; unfold World.cell?; simp only [heap_alloc_new]; rfl
      have HZC : Hid (∀ wx, Below w5.heap.size w5 wx → wx.cell? ⟨w4.heap.size, 4, none⟩ = some (.int .i64 Z')) := fun wx q => (q.cell h45).trans z1
      have b35 : Below w3.heap.size w3 w5 := b4.trans (b5.mono b4.size)
      have HP5 := hide (HO1.out.below b35)
      have HQ5 := hide (HO2.out.below b35)
      obtain ⟨g5, hg5⟩ : ∃ g, w4.heap.size = g := ⟨_, rfl⟩
      obtain ⟨w6, hw6⟩ : ∃ w6, w5.alloc (.cells #[.int .i64 Z1, .int .i64 0, .int .i64 0] 25) = w6 := ⟨_, rfl⟩
      have HB6 : Hid (Below w5.heap.size w5 w6) := by show Below _ _ _; rw [← hw6]; exact (Below.refl _ _).alloc (Nat.le_refl _) _
      have h56 : w5.heap.size < w6.heap.size := by rw [← hw6]; simp
      have HX6 : Hid (Bx3 w6 w5.heap.size Z1 0 0) := by show Bx3 _ _ _ _ _; unfold Bx3; rw [← hw6]; exact heap_alloc_new _ _
      have HW : Hid (∀ wx, Below w5.heap.size w5 wx → Below wb.heap.size wb wx) := fun wx q => HB5.out.trans (q.mono HB5.out.size)
      have HFL := hide (xfixedLit_any w6)
      have HFD : Hid (∀ wx, Calls Tryz.prog 21 #[] wx fun e w' => Fresh wx (List.replicate 32 5) e w') := fun wx => xfixedDist_any wx
      have hz1 := HZ1'.out
      have HW5 := hide hw5
      have HW6 := hide hw6
      clear hyn b4 b5 hmm HMK z1 HO1 HO2 b35 hw5 hw6
      go_wp2_with fail
      rw [HW5.out, HW6.out]
      refine HFL.out.mono ?_
      rintro e w7 ⟨a7, c7, rfl, o7, b7⟩
      have hx7 : Bx3 w7 w5.heap.size Z1 0 0 := (b7.block _ h56).trans HX6.out
      have h57 : w5.heap.size < w7.heap.size := Nat.lt_of_lt_of_le h56 b7.size
      have HB7 := hide (HB6.out.trans (b7.mono HB6.out.size))
      have HO7 := hide o7.sb
      have HX7 := hide hx7
      rw [fxL_len] at HO7 ⊢
      have hs5 : g5 + 1 = w5.heap.size := by rw [← hg5, ← HW5.out]; simp
      rw [hg5] at HZC
      rw [hs5]
      clear o7 b7 hx7 HFL hz1 hg5 hs5
      go_wp2_with fail
      refine (HFD.out w7).mono ?_
      rintro e w8 ⟨a8, c8, rfl, o8, b8⟩
      have HX8 : Hid (Bx3 w8 w5.heap.size Z1 0 0) := (b8.block _ h57).trans HX7.out
      have h58 : w5.heap.size < w8.heap.size := Nat.lt_of_lt_of_le h57 b8.size
      have HB8 := hide (HB7.out.trans (b8.mono HB7.out.size))
      have HBD := hide (HBO.out w8 _ _ (HW.out _ HB8.out) (HO7.out.below b8) o8.sb)
      rw [show (List.replicate 32 (5 : Int)).length = 32 by simp] at HBD ⊢
      clear o8 b8 HFD HO7
      go_wp2_with fail
      refine HBD.out.mono ?_
      rintro e w9 ⟨rfl, b9⟩
      have HX9 : Hid (Bx3 w9 w5.heap.size Z1 0 0) := (b9.block _ h58).trans HX8.out
      have h59 : w5.heap.size < w9.heap.size := Nat.lt_of_lt_of_le h58 b9.size
      have HB9 := hide (HB8.out.trans (b9.mono HB8.out.size))
      obtain ⟨r0, r1, r2, rf⟩ := HX9.out.cells
      have rf1 := rf 1
      obtain ⟨g6, hg6⟩ : ∃ g, w5.heap.size = g := ⟨_, rfl⟩
      have v0 : IntKind.i64.wrap (3 + Z2) = 3 + Z2 := by rw [IntKind.wrap_i64]; omega
      obtain ⟨wt, hwt⟩ : ∃ wt, w9.setCell ⟨w5.heap.size, 1, none⟩ (.int .i64 (3 + Z2)) = wt := ⟨_, rfl⟩
      have HBt : Hid (Below w5.heap.size w5 wt) := by show Below _ _ _; rw [← hwt]; exact HB9.out.setCell (p := ⟨w5.heap.size, 1, none⟩) (Nat.le_refl _) _
      have HXt : Hid (Bx3 wt w5.heap.size Z1 (3 + Z2) 0) := by
        show Bx3 _ _ _ _ _
        rw [← hwt]
        have h1 := heap_setCell_same w9 w5.heap.size 1 _ _ (.int .i64 (3 + Z2)) HX9.out
        unfold Bx3
        simpa using h1
      have h5t : w5.heap.size < wt.heap.size := by rw [← hwt, size_setCell]; exact h59
      have HBQ := hide (HBP.out wt.drew _ _ (HW.out _ (HBt.out.trans ((Below.refl _ _).drew))) (HP5.out.below (HBt.out.trans ((Below.refl _ _).drew))) (HQ5.out.below (HBt.out.trans ((Below.refl _ _).drew))))
      have f5 := HZC.out wt.drew (HBt.out.trans ((Below.refl _ _).drew))
      have v1 : IntKind.i64.wrap (3 + Z') = 3 + Z' := by rw [IntKind.wrap_i64]; omega
      have v2 : IntKind.i64.wrap (3 + Z' + Z3) = 3 + Z' + Z3 := by rw [IntKind.wrap_i64]; omega
      clear b9 HBD HBO HBP rf HX7 HX8 HB6 HB7 HB8 h57 h58 h56 HX6 HW5 HW6
      rw [hg6] at r0 r1 r2 rf1 hwt HXt h5t HBt HZC h59 ⊢
      have HCB : Hid (Calls Tryz.prog 19 #[.slice ao R.length cap, .slice al nP cl, .slice ad nQ cd] wt.drew fun e wu => e = .returned (.int .i64 Z3) ∧ wu.cell? ⟨g6, 0, none⟩ = some (.int .i64 Z1) ∧ wu.cell? ⟨g6, 1, none⟩ = some (.int .i64 (3 + Z2)) ∧ wu.cell? ⟨g6, 2, none⟩ = some (.int .i64 0) ∧ wu.frozen? ⟨g6, 2, none⟩ = false ∧ wu.cell? ⟨g5, 4, none⟩ = some (.int .i64 Z') ∧ Hid (Bx3 (wu.setCell ⟨g6, 2, none⟩ (.int .i64 (3 + Z' + Z3))) g6 Z1 (3 + Z2) (3 + Z' + Z3)) ∧ Hid (Below g6 w5 (wu.setCell ⟨g6, 2, none⟩ (.int .i64 (3 + Z' + Z3))))) := by
        refine HBQ.out.mono ?_
        rintro e wu ⟨he, bu⟩
        have hBu : Below g6 w5 wu := (HBt.out.trans ((Below.refl _ _).drew)).trans (bu.mono (Nat.le_of_lt h5t))
        have hxu : Bx3 wu g6 Z1 (3 + Z2) 0 := (bu.block g6 h5t).trans HXt.out
        obtain ⟨u0, u1, u2, uf⟩ := hxu.cells
        have hsu := heap_setCell_same wu g6 2 _ _ (.int .i64 (3 + Z' + Z3)) hxu
        refine ⟨he, u0, u1, u2, uf 2, HZC.out wu hBu, ?_, hBu.setCell (p := ⟨g6, 2, none⟩) (Nat.le_refl _) _⟩
        show Bx3 _ _ _ _ _
        unfold Bx3
        simpa using hsu
      go_wp2
      clear r0 r1 r2 rf1 hwt
      go_cut [] (fun wx => Hid (Bx3 wx g6 Z1 (3 + Z2) (3 + Z' + Z3)) ∧ Hid (Below g6 w5 wx))
      case first =>
        go_region_with (go_at_call 19; with_reducible refine HCB.out.mono ?_; rintro e wu ⟨rfl, u0, u1, u2, uf2, f6, HXu, HBv⟩)
        all_goals
          go_wp2_with fail
          go_meet
          exact ⟨HXu, HBv⟩
      case rest =>
      obtain ⟨HXc, HBc⟩ := hcut
      obtain ⟨x0, x1, x2, -⟩ := HXc.out.cells
      have HBw : Hid (Below wb.heap.size wb wc) := HW.out _ (by rw [hg6]; exact HBc.out)
      obtain ⟨p0, p1, p2, pf⟩ := (HXM.out _ HBw.out).cells
      have pf0 := pf 0
      have pf1 := pf 1
      have pf2 := pf 2
      obtain ⟨q0, q1, q2, -⟩ := ((HXM.out _ HBw.out).put Z1 (3 + Z2) (3 + Z' + Z3)).cells
      have HBF := hide (HEND.out wc Z1 (3 + Z2) (3 + Z' + Z3) (HFI.out _ HBw.out))
      obtain ⟨wf, hwf⟩ : ∃ wf, ((wc.setCell ⟨w.heap.size, 0, none⟩ (.int .i64 Z1)).setCell ⟨w.heap.size, 1, none⟩ (.int .i64 (3 + Z2))).setCell ⟨w.heap.size, 2, none⟩ (.int .i64 (3 + Z' + Z3)) = wf := ⟨_, rfl⟩
      rw [hwf] at q0 q1 q2 HBF
      clear pf HBQ f5
      go_wp2
      refine bodyPost_ret (v := .tuple #[.agg #[.int .i64 Z1, .int .i64 (3 + Z2), .int .i64 (3 + Z' + Z3)], .int .i64 0]) (by simp [results, Tryz.results6, go_sem, q0, q1, q2]) rfl ?_
      rw [HFIN.out.1, HFIN.out.2.2.1, HFIN.out.2.2.2, ← HZ1.out]
      exact ⟨rfl, HBF.out⟩
end Go.Proofs.YthngagciiidppaaGreatDoor

