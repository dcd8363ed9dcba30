import Derived.Test.YtfdhffcdkmklbaaDoorG29Wr5
import Derived.Deep.DeepCutAuto
import Derived.Test.YtfdhffcdkmklbaaDoorG04OpenA
import Derived.Test.YtfdhffcdkmklbaaDoorG02Arr
import Derived.Test.YtfdhffcdkmklbaaDoorG20Chk
import Derived.Lib.LaidTab
import Derived.Stop.LaidErr
import Derived.Test.YtfdhffcdkmklbaaDoorG27Vd2
namespace Go.Proofs.YtfdhffcdkmklbaaDoor
open Go.RowKit Go.Maps
set_option maxRecDepth 20000
set_option linter.unusedVariables false

set_option maxHeartbeats 8000000 in
theorem measure_any (v : Value) (R : List Tk) (a : Int) (w : World) (h : SK w v R) (hb : ∀ t ∈ R, Bt t) (hn : R.length ≤ 5864062014805) (ha0 : -9223372036854775808 ≤ a) (ha1 : a ≤ 9223372036854775807) (T : Ltab w ∧ Dtab w) (TH : Tab w) (O : Odr w) :
    Calls Tryd.prog 7 #[v, .int .i64 a] w fun e w' => e = .returned (.tuple #[.agg #[.int .i64 (mzS R a), .int .i64 (mzF R a), .int .i64 (mzD R a)], .int .i64 (mzE R a)]) ∧ Below w.heap.size w w' := by
  obtain ⟨wb, hwb⟩ : ∃ wb, w.alloc (.cells #[.int .i64 0, .int .i64 0, .int .i64 0] 33) = wb := ⟨_, rfl⟩
  have HB : Hid (Below w.heap.size w wb) := by show Below _ _ _; rw [← hwb]; exact (Below.refl _ _).alloc (Nat.le_refl _) _
  have HX : Hid (Bx3 wb w.heap.size 0 0 0) := by show Bx3 _ _ _ _ _; unfold Bx3; rw [← hwb]; exact heap_alloc_new w _
  have hbl : w.heap.size < wb.heap.size := by rw [← hwb]; simp
  have HS := hide (h.below HB.out)
  have HBT := hide hb
  have HTL : Hid (∀ wx, Below wb.heap.size wb wx → Ltab wx ∧ Dtab wx) := fun wx q => ⟨(T.1.low HB.out).low q, (T.2.low HB.out).low q⟩
  have HTT : Hid (∀ wx, Below wb.heap.size wb wx → Tab wx ∧ Odr wx) := fun wx q => ⟨(TH.mono HB.out).mono q, (O.mono HB.out).mono q⟩
  have HSD := hide (said_any v R wb HS.out hn)
  obtain ⟨ao, cap, rfl, hlc, hcm⟩ := h.open
  clear h hb T TH O
  have HXM : Hid (∀ wx, Below wb.heap.size wb wx → Bx3 wx w.heap.size 0 0 0) := fun wx q => (q.block _ hbl).trans HX.out
  have HFI : Hid (∀ wx, Below wb.heap.size wb wx → Below w.heap.size w wx) := fun wx q => HB.out.trans (q.mono HB.out.size)
  have HEND : Hid (∀ (wx : World) (x y z : Int), Below w.heap.size w wx → Below w.heap.size w (((wx.setCell ⟨w.heap.size, 0, none⟩ (.int .i64 x)).setCell ⟨w.heap.size, 1, none⟩ (.int .i64 y)).setCell ⟨w.heap.size, 2, none⟩ (.int .i64 z))) := fun wx x y z q => ((q.setCell (p := ⟨w.heap.size, 0, none⟩) (Nat.le_refl _) _).setCell (p := ⟨w.heap.size, 1, none⟩) (Nat.le_refl _) _).setCell (p := ⟨w.heap.size, 2, none⟩) (Nat.le_refl _) _
  by_cases hneg : a < 0
  · obtain ⟨r0, r1, r2, rf⟩ := HX.out.cells
    have rf0 := rf 0
    have rf1 := rf 1
    have rf2 := rf 2
    have HME : Hid (mzE R a = 1) := by show _ = _; unfold mzE; rw [if_pos hneg]
    have HM0 : Hid (mzS R a = 0 ∧ mzF R a = 0 ∧ mzD R a = 0) := by
      unfold mzS mzF mzD
      rw [HME.out]
      exact ⟨rfl, rfl, rfl⟩
    obtain ⟨wf, hwf⟩ : ∃ wf, ((wb.setCell ⟨w.heap.size, 0, none⟩ (.int .i64 0)).setCell ⟨w.heap.size, 1, none⟩ (.int .i64 0)).setCell ⟨w.heap.size, 2, none⟩ (.int .i64 0) = wf := ⟨_, rfl⟩
    obtain ⟨f0, f1, f2, -⟩ := (HX.out.put 0 0 0).cells
    have HBF := hide (HEND.out wb 0 0 0 HB.out)
    rw [hwf] at f0 f1 f2 HBF
    clear rf
    go_enter Tryd.func7, Tryd.ntmps7
    go_wp2
    refine bodyPost_ret (v := .tuple #[.agg #[.int .i64 0, .int .i64 0, .int .i64 0], .int .i64 1]) (by simp [results, Tryd.results7, go_sem, f0, f1, f2]) rfl ?_
    rw [HM0.out.1, HM0.out.2.1, HM0.out.2.2, HME.out]
    exact ⟨rfl, HBF.out⟩
  obtain ⟨sn, HSN⟩ : ∃ n, Hid (n = sdN R) := ⟨_, rfl⟩
  obtain ⟨se, HSE⟩ : ∃ n, Hid (n = sdE R) := ⟨_, rfl⟩
  rw [← HSN.out, ← HSE.out] at HSD
  have HME : Hid (mzE R a = se) := by show _ = _; unfold mzE; rw [if_neg hneg]; exact HSE.out.symm
  go_enter Tryd.func7, Tryd.ntmps7
  go_wp2_with fail
  refine HSD.out.mono ?_
  rintro e w1 ⟨rfl, b1⟩
  have HB1 := hide b1
  clear b1 HSD hwb
  by_cases hse : se = 0
  case neg =>
    have hse' : (se != 0) = true := by simpa using hse
    have HM0 : Hid (mzS R a = 0 ∧ mzF R a = 0 ∧ mzD R a = 0) := by
      unfold mzS mzF mzD
      rw [HME.out, if_neg hse, if_neg hse, if_neg hse]
      exact ⟨rfl, rfl, rfl⟩
    have hx1 := HXM.out _ HB1.out
    obtain ⟨r0, r1, r2, rf⟩ := hx1.cells
    have rf0 := rf 0
    have rf1 := rf 1
    have rf2 := rf 2
    obtain ⟨wf, hwf⟩ : ∃ wf, ((w1.setCell ⟨w.heap.size, 0, none⟩ (.int .i64 0)).setCell ⟨w.heap.size, 1, none⟩ (.int .i64 0)).setCell ⟨w.heap.size, 2, none⟩ (.int .i64 0) = wf := ⟨_, rfl⟩
    obtain ⟨f0, f1, f2, -⟩ := (hx1.put 0 0 0).cells
    have HBF := hide (HEND.out w1 0 0 0 (HFI.out _ HB1.out))
    rw [hwf] at f0 f1 f2 HBF
    clear rf hx1 hse
    go_wp2
    refine bodyPost_ret (v := .tuple #[.agg #[.int .i64 0, .int .i64 0, .int .i64 0], .int .i64 se]) (by simp [results, Tryd.results7, go_sem, f0, f1, f2]) rfl ?_
    rw [HM0.out.1, HM0.out.2.1, HM0.out.2.2, HME.out]
    exact ⟨rfl, HBF.out⟩
  subst hse
  obtain ⟨q1, q2, q3, q4, q5⟩ := sd_ok HSE.out.symm
  have hsn : sn = lsay R := HSN.out.trans q2
  rw [← hsn] at q3 q4
  have HSNN := hide hsn
  have HASN := hide q1
  obtain ⟨ct0, ct1, ct2, ct3, ct4⟩ := ctl_facts (R := R) (by omega) q1
  obtain ⟨-, tr1, tr2, -, -⟩ := trl_facts (R := R) (by omega) q1
  have htl : trL R = lmL (ctL R) 15 := by unfold trL; rw [if_pos ct0]
  have htd : trD R = lmL (ctD R) 15 := by unfold trD; rw [if_pos ct0]
  rw [htl] at tr1
  rw [htd] at tr2
  have hFe : (cls (List.replicate 286 0) R).set 256 1 = ctL R := by unfold ctL; rw [if_pos ct0]
  have hGe : cdt (List.replicate 30 0) R = ctD R := by unfold ctD; rw [if_pos ct0]
  have HCT := hide (ocount_any _ R w1 (HS.out.below HB1.out) (fun t ht => ⟨asnd_all q1 t ht, HBT.out t ht⟩) (by omega) (HTL.out _ HB1.out))
  rw [hFe, hGe] at HCT
  obtain ⟨F, HF⟩ : ∃ F, Hid (F = ctL R) := ⟨_, rfl⟩
  obtain ⟨G, HG⟩ : ∃ F, Hid (F = ctD R) := ⟨_, rfl⟩
  rw [← HF.out] at HCT ct1 ct3 tr1
  rw [← HG.out] at HCT ct2 ct4 tr2
  have HC1 := hide ct1
  have HC2 := hide ct2
  have HC3 := hide ct3
  have HC4 := hide ct4
  have HT1 := hide tr1
  have HT2 := hide tr2
  clear q1 q2 hsn ct0 ct1 ct2 ct3 ct4 tr1 tr2 htl htd hFe hGe
  go_wp2_with fail
  refine HCT.out.mono ?_
  rintro e w2 ⟨g1, g2, rfl, o1, o2, hne, b2⟩
  have HB2 := hide (HB1.out.trans (b2.mono HB1.out.size))
  obtain ⟨w3, hw3⟩ : ∃ w3, w2.alloc (.cells #[.slice (some ⟨g1, 0, none⟩) 286 286, .slice (some ⟨g2, 0, none⟩) 30 30] 49) = w3 := ⟨_, rfl⟩
  have b3 : Below w2.heap.size w2 w3 := by rw [← hw3]; exact (Below.refl _ _).alloc (Nat.le_refl _) _
  have HB3 := hide (HB2.out.trans (b3.mono HB2.out.size))
  have h23 : w2.heap.size < w3.heap.size := by rw [← hw3]; simp
  have e1 : w3.cell? ⟨w2.heap.size, 0, none⟩ = some (.slice (some ⟨g1, 0, none⟩) 286 286) := by rw [← hw3]; unfold World.cell?; simp only [heap_alloc_new]; rfl
  have e2 : w3.cell? ⟨w2.heap.size, 1, none⟩ = some (.slice (some ⟨g2, 0, none⟩) 30 30) := by rw [← hw3]; unfold World.cell?; simp only [heap_alloc_new]; rfl
  have HPB : Hid (∀ wx, Below w3.heap.size w3 wx → wx.cell? ⟨w2.heap.size, 0, none⟩ = some (.slice (some ⟨g1, 0, none⟩) 286 286) ∧ wx.cell? ⟨w2.heap.size, 1, none⟩ = some (.slice (some ⟨g2, 0, none⟩) 30 30)) := fun wx q => ⟨(q.cell h23).trans e1, (q.cell h23).trans e2⟩
  have HO1 := hide (o1.below b3 (Nat.le_refl _))
  have HO2 := hide (o2.below b3 (Nat.le_refl _))
  obtain ⟨Z1, HZ1⟩ : ∃ z, Hid (z = stz sn a) := ⟨_, rfl⟩
  obtain ⟨Z2, HZ2⟩ : ∃ z, Hid (z = bdz F G (fxL 288) (List.replicate 32 5)) := ⟨_, rfl⟩
  obtain ⟨Z3, HZ3⟩ : ∃ z, Hid (z = dyz F G) := ⟨_, rfl⟩
  have hz2 := bdz_bd (P := fxL 288) (Q := List.replicate 32 5) HC3.out HC4.out
  rw [← HZ2.out] at hz2
  have HST : Hid (Calls Tryd.prog 17 #[.int .i64 sn, .int .i64 a] w3.drew fun e w' => e = .returned (.int .i64 Z1) ∧ Below w3.heap.size w3 w') := by
    have := storedSize_any sn a (by omega) (by omega) (by omega) ha1 w3.drew
    rw [← HZ1.out] at this
    exact this.mono fun e w' ⟨h1, h2⟩ => ⟨h1, by rw [h2]; exact (Below.refl _ _).drew⟩
  have HFX : Hid (∀ wx, Below w3.heap.size w3 wx → Calls Tryd.prog 19 #[] wx fun e w' => ∃ a1 c1 a2 c2, e = .returned (.agg #[.slice a1 288 c1, .slice a2 32 c2]) ∧ SI w' (.slice a1 288 c1) (fxL 288) ∧ SI w' (.slice a2 32 c2) (List.replicate 32 5) ∧ Below w3.heap.size w3 w') := fun wx q => (fixed_any wx).mono fun e w' ⟨a1, c1, a2, c2, h1, h2, h3, h4⟩ => ⟨a1, c1, a2, c2, h1, h2, h3, q.trans (h4.mono q.size)⟩
  have HBS : Hid (∀ wx a1 c1 a2 c2, Below w3.heap.size w3 wx → SI wx (.slice a1 288 c1) (fxL 288) → SI wx (.slice a2 32 c2) (List.replicate 32 5) → Calls Tryd.prog 18 #[.agg #[.slice (some ⟨g1, 0, none⟩) 286 286, .slice (some ⟨g2, 0, none⟩) 30 30], .agg #[.slice a1 288 c1, .slice a2 32 c2]] wx fun e w' => e = .returned (.int .i64 Z2) ∧ Below w3.heap.size w3 w') := fun wx a1 c1 a2 c2 q s1 s2 => by
    have := bodySize_any _ _ _ _ F G (fxL 288) (List.replicate 32 5) wx (HO1.out.sb.below q) (HO2.out.sb.below q) s1 s2 HC1.out HC2.out (by rw [fxL_len]; omega) (by simp) HC3.out HC4.out (HTL.out _ (HB3.out.trans (q.mono HB3.out.size)))
    rw [← HZ2.out] at this
    exact this.mono fun e w' ⟨h1, h2⟩ => ⟨h1, q.trans (h2.mono q.size)⟩
  have HDS : Hid (∀ wx, Below w3.heap.size w3 wx → Calls Tryd.prog 20 #[.agg #[.slice (some ⟨g1, 0, none⟩) 286 286, .slice (some ⟨g2, 0, none⟩) 30 30]] wx fun e w' => e = .returned (.int .i64 Z3) ∧ Below w3.heap.size w3 w') := fun wx q => by
    have hq := HB3.out.trans (q.mono HB3.out.size)
    have := dynamicSize_any _ _ _ _ _ _ F G wx (HO1.out.sb.below q) (HO2.out.sb.below q) (fun k hk => Nat.lt_of_lt_of_le (HO1.out.lt k hk).2 q.size) (fun k hk => Nat.lt_of_lt_of_le (HO2.out.lt k hk).2 q.size) HC1.out HC2.out HC3.out HC4.out (by rw [HT1.out]; omega) (by rw [HT2.out]; omega) (HTL.out _ hq) (HTT.out _ hq).1 (HTT.out _ hq).2
    rw [← HZ3.out] at this
    exact this.mono fun e w' ⟨h1, h2⟩ => ⟨h1, q.trans (h2.mono q.size)⟩
  have HMS : Hid (mzS R a = Z1 ∧ mzF R a = 3 + Z2 ∧ mzD R a = Z3) := by
    unfold mzS mzF mzD
    rw [HME.out, if_pos rfl, if_pos rfl, if_pos rfl, ← HF.out, ← HG.out, HZ1.out, HZ2.out, HZ3.out, HSNN.out]
    exact ⟨rfl, rfl, rfl⟩
  obtain ⟨f1, f2⟩ := HPB.out w3.drew ((Below.refl _ _).drew)
  have v1 : IntKind.i64.wrap (3 + Z2) = 3 + Z2 := by rw [IntKind.wrap_i64]; omega
  clear o1 o2 b2 b3 hne HCT
  go_wp2
  clear hw3 e1 e2
  go_cut [5] (fun s5 wx => s5 = .int .i64 0 ∧ Hid (Bx3 wx w.heap.size Z1 (3 + Z2) Z3) ∧ Hid (Below w.heap.size w wx))
  case first =>
    go_region_with (first
      | (go_at_call 17; with_reducible refine HST.out.mono ?_; rintro e w4 ⟨rfl, b4⟩; have HB4 := hide b4; obtain ⟨y1, y2⟩ := HPB.out _ b4; clear b4)
      | (go_at_call 19; with_reducible refine (HFX.out w4 HB4.out).mono ?_; rintro e w5 ⟨a1, c1, a2, c2, rfl, s1, s2, b5⟩; have HB5 := hide b5; have HS1 := hide s1; have HS2 := hide s2; obtain ⟨y3, y4⟩ := HPB.out _ b5; clear b5 s1 s2)
      | (go_at_call 18; with_reducible refine (HBS.out w5 _ _ _ _ HB5.out HS1.out HS2.out).mono ?_; rintro e w6 ⟨rfl, b6⟩; have HB6 := hide b6; obtain ⟨y5, y6⟩ := HPB.out _ b6; clear b6)
      | (go_at_call 20; with_reducible refine (HDS.out w6 HB6.out).mono ?_; rintro e w7 ⟨rfl, b7⟩; have HB7 := hide b7; have hx7 := HXM.out w7 (HB3.out.trans (b7.mono HB3.out.size)); obtain ⟨r0, r1, r2, rf⟩ := hx7.cells; have rf0 := rf 0; have rf1 := rf 1; have rf2 := rf 2; have HP7 := hide (hx7.put Z1 (3 + Z2) Z3); clear b7 hx7 rf))
    all_goals
      have HBF := hide (HEND.out w7 Z1 (3 + Z2) Z3 (HFI.out _ (HB3.out.trans (HB7.out.mono HB3.out.size))))
      clear r0 r1 r2 rf0 rf1 rf2 y1 y2 y3 y4 y5 y6 f1 f2 HS1 HS2 HB4 HB5 HB6 HST HFX HBS HDS
      go_wp2_with fail
      go_meet
      exact ⟨rfl, HP7, HBF⟩
  case rest =>
  obtain ⟨rfl, HP7, HBF⟩ := hcut
  obtain ⟨x0, x1, x2, -⟩ := HP7.out.cells
  clear HST HFX HBS HDS f1 f2
  go_wp2
  refine bodyPost_ret (v := .tuple #[.agg #[.int .i64 Z1, .int .i64 (3 + Z2), .int .i64 Z3], .int .i64 0]) (by simp [results, Tryd.results7, go_sem, x0, x1, x2]) rfl ?_
  rw [HMS.out.1, HMS.out.2.1, HMS.out.2.2, HME.out]
  exact ⟨rfl, HBF.out⟩
end Go.Proofs.YtfdhffcdkmklbaaDoor

namespace Go.Proofs.YtfdhffcdkmklbaaDoor
open Go.ChangeShapes Go.WideShapes Go.ChangeAt Go.RowKit Go.Joins Go.Deep

theorem bytesInt : Tryd.prog.bytesOf 3 = 8 := by kernel_rfl

/-- A list of ints that is handed in. -/
theorem open_ints4 {H : Type} {enc : TypeId × Value → H} {W : World} {ao : Option Addr} {len cap : Nat} {d : DataW H} {ps : List MemPlace} (h : DataW.Trod enc Tryd.prog W 0 (fun _ => true) true 40 (.slice ao len cap) d ps) :
    ∃ l, SI W (.slice ao len cap) l ∧ (l = [] ∨ ∃ elems spare, d = .slice elems spare ∧ l.length ≤ elems.length + spare.length) := by
  obtain ⟨fuel, hf⟩ := h
  rcases open_ints Tryd.underlying40 Tryd.underlying3 (by kernel_rfl) hf with ⟨hcs, _⟩ | ⟨x, ll, cc, zs, hcs, _, hl, hm, hz, hx, hcell, hwz⟩
  · simp [Value.cells] at hcs
    obtain ⟨rfl, rfl, rfl⟩ := hcs
    exact ⟨[], ⟨none, 0, rfl, Nat.le_refl _, Nat.zero_le _, fun _ => rfl, fun x hx => by cases hx⟩, .inl rfl⟩
  · simp [Value.cells] at hcs
    obtain ⟨rfl, rfl, rfl⟩ := hcs
    simp only [if_true] at hz
    have e : (zs.take len).length = len := by rw [List.length_take]; omega
    simp only [Prod.mk.injEq] at hx
    refine ⟨zs.take len, ⟨some x, cap, by rw [e], by omega, hm, (fun h => by cases h), fun z hz i hi => ?_⟩, .inr ⟨_, _, hx.1, ?_⟩⟩
    · cases hz
      rw [e] at hi
      rw [hcell i (by omega)]
      simp [List.getD, hi]
    · simp [lits]

/-- The same, with the bounds of its numbers. -/
theorem open_intsb {H : Type} {enc : TypeId × Value → H} {W : World} {ao : Option Addr} {len cap : Nat} {d : DataW H} {ps : List MemPlace} (h : DataW.Trod enc Tryd.prog W 0 (fun _ => true) true 40 (.slice ao len cap) d ps) :
    ∃ l, SI W (.slice ao len cap) l ∧ (∀ x ∈ l, -9223372036854775808 ≤ x ∧ x ≤ 9223372036854775807) ∧ (l = [] ∨ ∃ elems spare, d = .slice elems spare ∧ l.length ≤ elems.length + spare.length) := by
  obtain ⟨fuel, hf⟩ := h
  rcases open_ints Tryd.underlying40 Tryd.underlying3 (by kernel_rfl) hf with ⟨hcs, _⟩ | ⟨x, ll, cc, zs, hcs, _, hl, hm, hz, hx, hcell, hwz⟩
  · simp [Value.cells] at hcs
    obtain ⟨rfl, rfl, rfl⟩ := hcs
    exact ⟨[], ⟨none, 0, rfl, Nat.le_refl _, Nat.zero_le _, fun _ => rfl, fun x hx => by cases hx⟩, (fun x hx => by simp at hx), .inl rfl⟩
  · simp [Value.cells] at hcs
    obtain ⟨rfl, rfl, rfl⟩ := hcs
    simp only [if_true] at hz
    have e : (zs.take len).length = len := by rw [List.length_take]; omega
    simp only [Prod.mk.injEq] at hx
    refine ⟨zs.take len, ⟨some x, cap, by rw [e], by omega, hm, (fun h => by cases h), fun z hz i hi => ?_⟩, fun z hz => i64_in (hwz z (List.mem_of_mem_take hz)), .inr ⟨_, _, hx.1, ?_⟩⟩
    · cases hz
      rw [e] at hi
      rw [hcell i (by omega)]
      simp [List.getD, hi]
    · simp [lits]

theorem reach_ints4 {H : Type} {ts : List TypeId} {ds : List (DataW H)} {j : Nat} {l : List Int} {d : DataW H} (h : (DataW.weightsEach Tryd.prog ts ds).all (· ≤ reachBytes) = true) (ht : ts[j]? = some 40) (hd : ds[j]? = some d)
    (hl : l = [] ∨ ∃ elems spare, d = .slice elems spare ∧ l.length ≤ elems.length + spare.length) : l.length ≤ 17592186043904 := by
  rcases hl with rfl | ⟨elems, spare, rfl, hl⟩
  · simp
  · have := sized_slice h ht hd Tryd.underlying40
    rw [bytesInt] at this
    simp only [reachBytes] at this
    omega

end Go.Proofs.YtfdhffcdkmklbaaDoor

namespace Go.Proofs.YtfdhffcdkmklbaaDoor
open Go.ChangeShapes Go.WideShapes Go.ChangeAt Go.RowKit Go.Joins Go.Deep
set_option maxRecDepth 20000

theorem bulk_pos {H : Type} : ∀ d : DataW H, 0 < Rows.uptoBulk d
  | .lit l => by cases l <;> simp [Rows.uptoBulk]
  | .nil => by simp [Rows.uptoBulk]
  | .ptr _ => by simp [Rows.uptoBulk]
  | .slice _ _ => by simp [Rows.uptoBulk]
  | .agg _ => by simp [Rows.uptoBulk]
  | .iface _ _ => by simp [Rows.uptoBulk]
  | .map _ => by simp [Rows.uptoBulk]
  | .held _ => by simp [Rows.uptoBulk]

theorem bulk_count {H : Type} : ∀ l : List (DataW H), l.length ≤ Rows.uptoBulkAll l
  | [] => Nat.zero_le _
  | d :: r => by
    have h1 := bulk_pos d
    have h2 := bulk_count r
    simp only [Rows.uptoBulkAll, List.length_cons]
    omega

theorem bulk_mem {H : Type} {d : DataW H} : ∀ {l : List (DataW H)}, d ∈ l → Rows.uptoBulk d ≤ Rows.uptoBulkAll l
  | x :: r, h => by
    simp only [Rows.uptoBulkAll]
    rcases List.mem_cons.1 h with e | e
    · rw [e]; omega
    · have := bulk_mem e; omega

theorem bulk_ints4 {H : Type} {ds : List (DataW H)} {d : DataW H} {l : List Int} (hk : Rows.uptoSmall H ds = true) (hd : d ∈ ds) (hl : l = [] ∨ ∃ elems spare, d = .slice elems spare ∧ l.length ≤ elems.length + spare.length) : l.length ≤ 1048576 := by
  rcases hl with rfl | ⟨e, s, rfl, h⟩
  · exact Nat.zero_le _
  · have h0 : Rows.uptoBulkAll ds ≤ 1048576 := of_decide_eq_true hk
    have h3 := bulk_mem hd
    have h1 := bulk_count e
    have h2 := bulk_count s
    simp only [Rows.uptoBulk] at h3
    omega

theorem cArr : Tryd.prog.cellsOf 120 = 19 := by kernel_rfl
theorem cInt : Tryd.prog.cellsOf 3 = 1 := by kernel_rfl
theorem gLeast : Tryd.prog.globalNamed "valise/header.least" = some 2 := by kernel_rfl
theorem tLeast : (Tryd.prog.globals[2]?).map (·.type) = some 120 := by kernel_rfl
theorem gFurther : Tryd.prog.globalNamed "valise/header.further" = some 3 := by kernel_rfl
theorem tFurther : (Tryd.prog.globals[3]?).map (·.type) = some 120 := by kernel_rfl
theorem gOrder : Tryd.prog.globalNamed "valise/header.order" = some 4 := by kernel_rfl
theorem tOrder : (Tryd.prog.globals[4]?).map (·.type) = some 120 := by kernel_rfl

def zlst : List Int := [1, 1, 1, 1, 1, 1, 1, 1, 1, 1, 1, 1, 1, 1, 1, 1, 3, 3, 11]
def zf : List Int := [0, 0, 0, 0, 0, 0, 0, 0, 0, 0, 0, 0, 0, 0, 0, 0, 2, 3, 7]
def zo : List Int := [16, 17, 18, 0, 8, 7, 9, 6, 10, 5, 11, 4, 12, 3, 13, 2, 14, 1, 15]

theorem zl_at : ∀ i : Nat, i < 19 → zlst.getD i 0 = lst i := by decide
theorem zf_at : ∀ i : Nat, i < 19 → zf.getD i 0 = ((frt i : Nat) : Int) := by decide

/-- What the row's list gives: the tables' cells. -/
theorem tab_of {W : World} {rest : List (String × DataW Unit)} (h : laidMet Tryd.prog (("valise/header.least", Lib.tabData .i64 zlst) :: ("valise/header.further", Lib.tabData .i64 zf) :: rest) W) : Tab W := by
  have h1 := Lib.tabIs_of_head gLeast tLeast Tryd.underlying120 Tryd.underlying3 cInt cArr h
  have h2 := Lib.tabIs_of_head gFurther tFurther Tryd.underlying120 Tryd.underlying3 cInt cArr h.tail
  exact ⟨fun i hi => by rw [h1.cell gLeast i (by show i < 19; exact hi), zl_at i hi], fun i hi => by rw [h2.cell gFurther i (by show i < 19; exact hi), zf_at i hi]⟩

theorem ord_of {W : World} {rest : List (String × DataW Unit)} (h : laidMet Tryd.prog (("valise/header.order", Lib.tabData .i64 zo) :: rest) W) : ∀ i : Nat, i < 19 → W.cell? ⟨4, i, none⟩ = some (.int .i64 (zo.getD i 0)) := fun i hi =>
  (Lib.tabIs_of_head gOrder tOrder Tryd.underlying120 Tryd.underlying3 cInt cArr h).cell gOrder i (by show i < 19; exact hi)
end Go.Proofs.YtfdhffcdkmklbaaDoor

namespace Go.Proofs.YtfdhffcdkmklbaaDoor
open Go.RowKit Go.Maps
set_option maxRecDepth 20000
set_option linter.unusedVariables false

theorem run1_doc {l : List Int} {k m : Nat} {V P : Int} (hk : k < l.length) (hV : V = l.getD k 0) (hm : m = eqn V (l.drop k)) (hP : 0 < k → P = l.getD (k - 1) 0) :
    (V = 0 → 11 ≤ m → run1 l k = (18, ((min m 138 : Nat) : Int))) ∧ (V = 0 → m < 11 → 3 ≤ m → run1 l k = (17, (m : Int))) ∧ (V = 0 → m < 3 → run1 l k = (V, 1)) ∧
    (V ≠ 0 → 0 < k → P = V → 3 ≤ m → run1 l k = (16, ((min m 6 : Nat) : Int))) ∧ (V ≠ 0 → ¬ (0 < k ∧ P = V ∧ 3 ≤ m) → run1 l k = (V, 1)) := by
  unfold run1
  rw [← hV, ← hm]
  refine ⟨fun h1 h2 => ?_, fun h1 h2 h3 => ?_, fun h1 h2 => ?_, fun h1 h2 h3 h4 => ?_, fun h1 h2 => ?_⟩
  · subst h1
    rw [← hm, if_pos ⟨rfl, h2⟩]
  · subst h1
    rw [← hm, if_neg (by omega), if_pos ⟨rfl, h3⟩]
  · subst h1
    rw [← hm, if_neg (by omega), if_neg (by omega), if_neg (by omega)]
  · rw [if_neg (fun q => h1 q.1), if_neg (fun q => h1 q.1), if_pos ⟨h1, h2, by rw [← hP h2]; exact h3, h4⟩]
  · rw [if_neg (fun q => h1 q.1), if_neg (fun q => h1 q.1), if_neg (fun q => h2 ⟨q.2.1, by rw [hP q.2.1]; exact q.2.2.1, q.2.2.2⟩)]

end Go.Proofs.YtfdhffcdkmklbaaDoor

namespace Go.Proofs.YtfdhffcdkmklbaaDoor
open Go.RowKit Go.Maps
set_option maxRecDepth 20000
set_option linter.unusedVariables false

theorem boxOf {w : World} {g : Nat} {a b : Value} {t : TypeId} {fr : Nat × Nat} (h : w.heap[g]? = some (.cells #[a, b] t fr)) : w.cell? ⟨g, 0, none⟩ = some a ∧ w.cell? ⟨g, 1, none⟩ = some b := by
  constructor <;> (unfold World.cell?; rw [h]; rfl)

end Go.Proofs.YtfdhffcdkmklbaaDoor

namespace Go.Proofs.YtfdhffcdkmklbaaDoor
open Go.RowKit Go.Maps
set_option maxRecDepth 20000

theorem usum_succ {l : List Int} {k : Nat} (h : k < l.length) : usum (l.take (k + 1)) = usum (l.take k) + wt (l.getD k 0) ∧ tsum (l.take (k + 1)) = tsum (l.take k) + one (l.getD k 0) := by
  have e : l.getD k 0 = l[k] := by simp [h]
  rw [List.take_succ_eq_append_getElem h, e]
  unfold usum tsum
  rw [List.map_append, List.map_append, List.sum_append, List.sum_append]
  simp

theorem sum_bound {l : List Int} (hl : Lens l) (k : Nat) : usum (l.take k) ≤ 288 * 16384 ∧ tsum (l.take k) ≤ 288 := by
  have h1 : Lens (l.take k) := ⟨by rw [List.length_take]; have := hl.1; omega, fun x hx => hl.2 x (List.mem_of_mem_take hx)⟩
  have h2 := us_bound h1
  rw [us_sum h1.2] at h2
  have h3 := sh_le (l.take k) 16
  rw [sh_sum h1.2] at h3
  exact ⟨h2, Nat.le_trans h3 h1.1⟩

/-- The document's words so far: all of the shorter lengths, of this length those ahead. -/
def outN (l : List Int) (n s : Nat) : List Int := (List.range l.length).map fun t => if 0 < ln l t ∧ (ln l t < n ∨ (ln l t = n ∧ t < s)) then (wd l t : Int) else 0

theorem outN_len (l : List Int) (n s : Nat) : (outN l n s).length = l.length := by simp [outN]

theorem outN_start (l : List Int) : outN l 1 0 = List.replicate l.length 0 := by
  apply List.ext_getElem
  · simp [outN]
  · intro i h1 h2
    simp only [outN, List.getElem_map, List.getElem_range, List.getElem_replicate]
    rw [if_neg (by omega)]

theorem outN_skip {l : List Int} {n s : Nat} (h : ln l s ≠ n) : outN l n (s + 1) = outN l n s := by
  unfold outN
  apply List.map_congr_left
  intro t _
  by_cases e : t = s
  · subst e
    by_cases c : 0 < ln l t ∧ (ln l t < n ∨ (ln l t = n ∧ t < t))
    · rw [if_pos c, if_pos (by omega)]
    · rw [if_neg c, if_neg (by omega)]
  · by_cases c : 0 < ln l t ∧ (ln l t < n ∨ (ln l t = n ∧ t < s))
    · rw [if_pos c, if_pos (by omega)]
    · rw [if_neg c, if_neg (by omega)]

theorem outN_step {l : List Int} {n s : Nat} (h : ln l s = n) (h0 : 0 < n) : outN l n (s + 1) = (outN l n s).set s (wd l s : Int) := by
  apply List.ext_getElem
  · simp [outN]
  · intro t h1 h2
    rw [List.getElem_set]
    simp only [outN, List.getElem_map, List.getElem_range]
    by_cases e : s = t
    · subst e
      rw [if_pos (by omega), if_pos rfl]
    · rw [if_neg e]
      by_cases c : 0 < ln l t ∧ (ln l t < n ∨ (ln l t = n ∧ t < s))
      · rw [if_pos c, if_pos (by omega)]
      · rw [if_neg c, if_neg (by omega)]

theorem outN_next {l : List Int} {n : Nat} : outN l (n + 1) 0 = outN l n l.length := by
  unfold outN
  apply List.map_congr_left
  intro t ht
  have ht' : t < l.length := List.mem_range.1 ht
  by_cases c : 0 < ln l t ∧ (ln l t < n ∨ (ln l t = n ∧ t < l.length))
  · rw [if_pos c, if_pos (by omega)]
  · rw [if_neg c, if_neg (by omega)]

theorem outN_end {l : List Int} (hl : Lens l) : outN l 16 0 = wds l := by
  unfold outN wds
  apply List.map_congr_left
  intro t _
  have := (hl.ln t).2
  by_cases c : 0 < ln l t
  · rw [if_pos (by omega)]
  · rw [if_neg (by omega)]
    have : ln l t = 0 := by omega
    simp [wd, this]

def Xst (w : World) (l : List Int) (n s : Nat) (wr : World) : Prop := wr.heap[w.heap.size]? = some (.cells ((outN l n s).map (Value.int .i64)).toArray 3 (0, 0)) ∧ Below w.heap.size w wr

theorem Xst.step {w wr : World} {l : List Int} {n s : Nat} (h : Xst w l n s wr) (hn : ln l s = n) (h0 : 0 < n) (x : Int) (hx : x = (wd l s : Int)) : Xst w l n (s + 1) (wr.setCell ⟨w.heap.size, s, none⟩ (.int .i64 x)) :=
  ⟨by rw [heap_setCell_same _ _ _ _ _ _ h.1, map_set, outN_step hn h0, hx], h.2.setCell (by show _ ≤ w.heap.size; omega) _⟩

theorem wd_at {l : List Int} (hl : Lens l) {s n : Nat} (hn : ln l s = n) (h0 : 0 < n) : wd l s = fi l n + (l.take s).count (n : Int) := by
  unfold wd rk
  rw [if_neg (by omega), (hl.ln s).1, hn]

end Go.Proofs.YtfdhffcdkmklbaaDoor

