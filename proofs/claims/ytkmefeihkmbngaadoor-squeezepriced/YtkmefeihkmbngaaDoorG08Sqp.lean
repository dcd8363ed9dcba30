import Derived.Test.YtkmefeihkmbngaaDoorG07Sqw
import Derived.Test.YtkmefeihkmbngaaDoorG03Lsk
namespace Go.Proofs.YtkmefeihkmbngaaDoor
open Go.RowKit Go.Maps
set_option maxRecDepth 20000
set_option linter.unusedVariables false

def Prq (R : List Tk) (L D : List Int) (e : Ending) : Prop := e = .returned (.tuple #[.int .i64 (prV R L D), .int .i64 (prE R L D)])

theorem prq_no {R : List Tk} {L D : List Int} {E : Int} (h : prE R L D = E) (h0 : E ≠ 0) : Prq R L D (.returned (.tuple #[.int .i64 0, .int .i64 E])) := by
  unfold Prq prV
  rw [h, if_neg h0]

set_option maxHeartbeats 1000000 in
theorem qPrice_any (v vl vd : Value) (R : List Tk) (L D : List Int) (w : World) (h : SK w v R) (hb : ∀ t ∈ R, Bt t) (h1 : SI w vl L) (h2 : SI w vd D) (T : Ltab w ∧ Dtab w) :
    Calls Tryd.prog 7 #[v, vl, vd] w fun e w' => Prq R L D e ∧ Below w.heap.size w w' := by
  obtain ⟨wb, hwb⟩ : ∃ wb, w.alloc (.cells #[vl, vd] 41) = wb := ⟨_, rfl⟩
  have HB : Hid (Below w.heap.size w wb) := by show Below _ _ _; rw [← hwb]; exact (Below.refl _ _).alloc (Nat.le_refl _) _
  have HBt := hide hb
  have HMB := hide (mayBe_any vl vd L D wb (h1.below HB.out) (h2.below HB.out))
  have HK := hide (h.below HB.out)
  have HS1 := hide (h1.below HB.out)
  have HS2 := hide (h2.below HB.out)
  have HT : Hid (Ltab wb ∧ Dtab wb) := ⟨T.1.low HB.out, T.2.low HB.out⟩
  obtain ⟨ao, cap, rfl, hlc, hcm⟩ := h.open
  obtain ⟨a1, c1, rfl, _, _⟩ := h1.open
  obtain ⟨a2, c2, rfl, _, _⟩ := h2.open
  have d1 : wb.cell? ⟨w.heap.size, 0, none⟩ = some (.slice a1 L.length c1) := by rw [← hwb]; unfold World.cell?; simp only [heap_alloc_new]; rfl
  have d2 : wb.cell? ⟨w.heap.size, 1, none⟩ = some (.slice a2 D.length c2) := by rw [← hwb]; unfold World.cell?; simp only [heap_alloc_new]; rfl
  clear h h1 h2 T hb
  by_cases hl : 16777216 < R.length
  · have hl' : (16777216 : Int) < (R.length : Int) := by omega
    have HQ := hide (prq_no (R := R) (L := L) (D := D) (E := 1) (by unfold prE; rw [if_pos hl]) (by decide))
    clear hl
    go_enter Tryd.func7, Tryd.ntmps7
    go_wp2
    go_ret2
    exact ⟨HQ.out, HB.out⟩
  have hl' : ¬ (16777216 : Int) < (R.length : Int) := by omega
  by_cases hok : okP L 286 = true ∧ okP D 30 = true
  case neg =>
    have HQ := hide (prq_no (R := R) (L := L) (D := D) (E := 210) (by unfold prE; rw [if_neg hl, if_neg hok]) (by decide))
    have hf : (okP L 286 && okP D 30) = false := by
      rw [Bool.eq_false_iff]; intro q; simp only [Bool.and_eq_true] at q; exact hok q
    rw [hf] at HMB
    clear hf hok hl
    go_enter Tryd.func7, Tryd.ntmps7
    go_wp2_with fail
    refine HMB.out.mono ?_
    rintro e w1 ⟨rfl, b1⟩
    have HB1 := hide (HB.out.trans (b1.mono HB.out.size))
    clear b1
    go_wp2
    go_ret2
    exact ⟨HQ.out, HB1.out⟩
  case pos =>
    have hf : (okP L 286 && okP D 30) = true := by simp [hok.1, hok.2]
    rw [hf] at HMB
    have HO1 := hide hok.1
    have HO2 := hide hok.2
    have hpe : prE R L D = if asnd R then 0 else 211 := by unfold prE; rw [if_neg hl, if_pos hok]
    have HPE := hide hpe
    have hcE : ctE R = if asnd R then 0 else 100 := by unfold ctE; rw [if_neg hl]
    have HCE := hide hcE
    have hn : R.length ≤ 16777216 := by omega
    clear hf hok hl hpe hcE
    go_enter Tryd.func7, Tryd.ntmps7
    go_wp2_with fail
    refine HMB.out.mono ?_
    rintro e w1 ⟨rfl, b1⟩
    have HB1 := hide (HB.out.trans (b1.mono HB.out.size))
    have HC := hide (oCount_any _ R w1 (HK.out.below b1) HBt.out ⟨HT.out.1.low b1, HT.out.2.low b1⟩)
    have HU1 := hide (HS1.out.below b1)
    have HU2 := hide (HS2.out.below b1)
    clear b1 HMB HK HT HS1 HS2
    go_wp2_with fail
    refine HC.out.mono ?_
    rintro e w2 ⟨vf, vg, rfl, o1, o2, o3, b2⟩
    have HB2 := hide (HB1.out.trans (b2.mono HB1.out.size))
    by_cases ha : asnd R = true
    · have hcE : ctE R = 0 := by rw [HCE.out, if_pos ha]
      have hpE : prE R L D = 0 := by rw [HPE.out, if_pos ha]
      have e1 : ctL R = (cls (List.replicate 286 0) R).set 256 1 := by unfold ctL; rw [if_pos hcE]
      have e2 : ctD R = cdt (List.replicate 30 0) R := by unfold ctD; rw [if_pos hcE]
      have HQ : Hid (Prq R L D (.returned (.tuple #[.int .i64 (dot (cls (List.replicate 286 0) R) L + dot (cdt (List.replicate 30 0) R) D), .int .i64 0]))) := by
        show Prq _ _ _ _
        unfold Prq prV
        rw [hpE, if_pos rfl]
        rfl
      have HS : Hid (∀ t ∈ R, Snd t ∧ Bt t) := fun t ht => ⟨asnd_all ha t ht, HBt.out t ht⟩
      have hl1 : (ctL R).length = 286 := by rw [e1]; simp [cls_len]
      obtain ⟨g, c, rfl, hg1, hg2, hg3, hg4⟩ := o1.form (by omega)
      obtain ⟨g', c', hv', ⟨u0, hu0⟩, hfz, hput⟩ := o1.put (k := 256) (by omega) 0
      simp only [Value.slice.injEq, Option.some.injEq, Addr.mk.injEq] at hv'
      obtain ⟨⟨rfl, -⟩, -⟩ := hv'
      rw [hl1] at hput ⊢
      rw [hcE]
      have e3 : (ctL R).set 256 0 = cls (List.replicate 286 0) R := by rw [e1]; exact ctl_no_end HS.out
      rw [e3] at hput
      obtain ⟨w3, hw3⟩ : ∃ w3, w2.setCell ⟨g, 256, none⟩ (.int .i64 0) = w3 := ⟨_, rfl⟩
      rw [hw3] at hput
      have HP1 := hide hput.sb
      have b23 : Below w1.heap.size w2 w3 := by rw [← hw3]; exact (Below.refl _ _).setCell (p := ⟨g, 256, none⟩) hg1 _
      have HB3 := hide (HB2.out.trans (b23.mono HB1.out.size))
      have HP2 : Hid (SI w3 vg (cdt (List.replicate 30 0) R)) := by
        rw [e2] at o2
        refine (o2.move fun k hk => ?_).sb
        rw [← hw3]
        exact setCell_others _ _ _ _ _ (fun q => o3 g rfl (q ▸ hk))
      have HV1 := hide (HU1.out.below (b2.trans b23))
      have HV2 := hide (HU2.out.below (b2.trans b23))
      have HC1 := hide (qcost_any _ _ _ L 286 (0 + R.length) w3 HP1.out HV1.out (by rw [cls_len]; simp) HO1.out (bd_cls R _ 0 (bd_zeros 286)) (by omega) (by omega))
      have HC2 := hide (qcost_any _ _ _ D 30 (0 + R.length) w3 HP2.out HV2.out (by rw [cdt_len]; simp) HO2.out (bd_cdt R _ 0 (bd_zeros 30)) (by omega) (by omega))
      have hbd := prn_bd (R := R) HO1.out HO2.out hn
      unfold prN at hbd
      obtain ⟨A, hA⟩ : ∃ A, dot (cls (List.replicate 286 0) R) L = A := ⟨_, rfl⟩
      obtain ⟨B, hB⟩ : ∃ A, dot (cdt (List.replicate 30 0) R) D = A := ⟨_, rfl⟩
      rw [hA] at HC1 HQ hbd
      rw [hB] at HC2 HQ hbd
      have hwr : wrap64 (A + B) = A + B := by unfold wrap64; omega
      rw [← hwr] at HQ
      clear o1 o2 o3 b2 b23 hput e1 e2 e3 hl1 hg1 hg2 hg3 hA hB hbd HP1 HP2 HV1 HV2 HU1 HU2 HC
      go_wp2_with fail
      refine HC1.out.mono ?_
      rintro e w4 ⟨rfl, hw4⟩
      subst hw4
      go_wp2_with fail
      refine HC2.out.mono ?_
      rintro e w4 ⟨rfl, hw4⟩
      subst hw4
      go_wp2
      go_ret2
      exact ⟨HQ.out, HB3.out⟩
    · have HQ := hide (prq_no (R := R) (L := L) (D := D) (E := 211) (by rw [HPE.out, if_neg ha]) (by decide))
      have hcE : ctE R = 100 := by rw [HCE.out, if_neg ha]
      rw [hcE]
      have HU := hide (unlike_any 100 w2)
      rw [if_pos rfl] at HU
      clear o1 o2 o3 b2 ha hcE HC
      go_wp2_with fail
      refine HU.out.mono ?_
      rintro e w3 ⟨rfl, hw3⟩
      subst hw3
      go_wp2
      go_ret2
      exact ⟨HQ.out, HB2.out⟩
end Go.Proofs.YtkmefeihkmbngaaDoor

