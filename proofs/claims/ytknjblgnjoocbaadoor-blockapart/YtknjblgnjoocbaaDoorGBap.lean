import Derived.Test.YtknjblgnjoocbaaDoorGCpi
import Derived.Deep.RegionHeld3
namespace Go.Proofs.YtknjblgnjoocbaaDoor
open Go.RowKit Go.Maps
set_option maxRecDepth 20000
set_option linter.unusedVariables false
set_option linter.unusedSimpArgs false

set_option maxHeartbeats 8000000 in
theorem bapart_walk (v : Value) (R : List Tk) (w : World) (h : SK w v R) (hb : ∀ t ∈ R, Bt t) (hn : R.length ≤ 5864062014800) (T : Ltab w ∧ Dtab w) :
    Calls Tryd.prog 3 #[v] w fun e w' => e = .returned (.bool true) ∧ Below w.heap.size w w' := by
  have HS := hide h
  have HBT := hide hb
  have HTB : Hid (∀ w', Below w.heap.size w w' → Ltab w' ∧ Dtab w') := fun w' b => ⟨T.1.low b, T.2.low b⟩
  obtain ⟨ao, cap, rfl, hlc, hcm⟩ := h.open
  have HL := hide (lsound_any _ R w h hn)
  clear h hb T
  by_cases ha : asnd R = true
  case neg =>
    have ha' : asnd R = false := by simpa using ha
    go_enter Tryd.func3, Tryd.ntmps3
    go_wp2_with fail
    refine HL.out.mono ?_
    rintro e w1 ⟨⟨near, rfl⟩, b1⟩
    rw [ha']
    have HB1 := hide b1
    clear b1 HL ha
    go_wp2
    go_ret
    exact ⟨rfl, HB1.out⟩
  by_cases hl : 16777216 < R.length
  · have hl' : (16777216 : Int) < (R.length : Int) := by omega
    have hl2 : decide ((16777216 : Int) < (R.length : Int)) = true := decide_eq_true hl'
    go_enter Tryd.func3, Tryd.ntmps3
    go_wp2_with fail
    refine HL.out.mono ?_
    rintro e w1 ⟨⟨near, rfl⟩, b1⟩
    rw [ha]
    have HB1 := hide b1
    clear b1 HL ha
    go_wp2
    go_ret
    exact ⟨rfl, HB1.out⟩
  have hl' : ¬ (16777216 : Int) < (R.length : Int) := by omega
  have hl2 : decide ((16777216 : Int) < (R.length : Int)) = false := decide_eq_false hl'
  have hR : R.length ≤ 16777216 := by omega
  obtain ⟨hE, hA, hB, -, -⟩ := ctl_facts hR ha
  obtain ⟨-, hG, hH, -, -⟩ := trl_facts hR ha
  obtain ⟨M, hM⟩ : ∃ M, R.length / 2 = M := ⟨_, rfl⟩
  obtain ⟨RH, hRH⟩ : ∃ X, R.take M = X := ⟨_, rfl⟩
  have hMl : RH.length = M := by rw [← hRH, List.length_take]; omega
  have haH : asnd RH = true := by rw [← hRH]; exact asnd_take ha M
  obtain ⟨hEH, hP, hQ, -, -⟩ := ctl_facts (R := RH) (by omega) haH
  obtain ⟨-, hS, hT, -, -⟩ := trl_facts (R := RH) (by omega) haH
  have HBH : Hid (∀ t ∈ RH, Bt t) := fun t ht => HBT.out t (by rw [← hRH] at ht; exact List.mem_of_mem_take ht)
  have HCF := hide (And.intro (And.intro hE (And.intro hA (And.intro hB (And.intro hG hH)))) (And.intro hEH (And.intro hP (And.intro hQ (And.intro hS hT)))))
  have hdv : (R.length : Int).tdiv 2 = (M : Int) := by rw [Int.tdiv_eq_ediv_of_nonneg (by omega)]; omega
  have hMN : (M : Int) ≤ (R.length : Int) := by omega
  have hMc : (M : Int) ≤ (cap : Int) := by omega
  have HML := hide hMl
  have HRH := hide hRH
  have hMM : M ≤ 16777216 := by omega
  clear hE hA hB hG hH hEH hP hQ hS hT haH hMl hRH
  go_enter Tryd.func3, Tryd.ntmps3
  go_wp2_with fail
  refine HL.out.mono ?_
  rintro e w1 ⟨⟨near, rfl⟩, b1⟩
  rw [ha]
  have HB1 := hide b1
  have HR1 := hide (roomy_any _ R w1 (HS.out.below b1) hR)
  clear b1 HL ha
  go_wp2_with fail
  refine HR1.out.mono ?_
  rintro e w2 ⟨rfl, t2, b2⟩
  have HB2 := hide (HB1.out.trans (b2.mono HB1.out.size))
  have HR2 : Hid (Calls Tryd.prog 5 #[.slice ao M cap] w2 fun e w' => e = .returned (.slice (some ⟨w2.heap.size, 0, none⟩) RH.length (RH.length + 9)) ∧ TBr w' w2.heap.size (RH ++ List.replicate 9 m7) [] ∧ Below w2.heap.size w2 w') := by
    have hf := (HS.out.below HB2.out).front (n := M) (by omega)
    rw [HRH.out] at hf
    exact roomy_any _ RH w2 hf (by rw [HML.out]; omega)
  have HT2 := hide t2
  have HZ := hide (And.intro HB1.out.size b2.size)
  clear t2 b2 HR1
  go_wp2_with fail
  refine HR2.out.mono ?_
  rintro e w3 ⟨rfl, t3, b3⟩
  rw [HML.out]
  have hba : BA w w3 [] w1.heap.size w2.heap.size R RH := by
    have z1 := HZ.out.1
    have z2 := HT2.out.lt
    refine ⟨⟨HB2.out.trans (b3.mono HB2.out.size), fun i v l e => by simp at e, fun i j v u l m e => by simp at e⟩, HT2.out.low b3, t3, fun i v l e => by simp at e, z1, by omega, by omega⟩
  have HBA0 := hide hba
  obtain ⟨gG, hgG⟩ : ∃ g, w1.heap.size = g := ⟨_, rfl⟩
  obtain ⟨gH, hgH⟩ : ∃ g, w2.heap.size = g := ⟨_, rfl⟩
  rw [hgG, hgH] at HBA0
  rw [hgG, hgH]
  clear hba t3 b3 HR2 HT2 HZ HB2 HB1 hgG hgH
  have HC0 := hide (oCount_any _ R w3 (HBA0.out.skG hR) HBT.out (HTB.out _ HBA0.out.own.bel))
  go_wp2_with fail
  refine HC0.out.mono ?_
  rintro e w4 ⟨vA, vB, rfl, oA, oB, nA, bb⟩
  rw [HCF.out.1.1]
  have hBA := HBA0.out.add2 bb oA oB nA
  obtain ⟨aA, cA, hv⟩ := oA.shape
  rw [HCF.out.1.2.1] at hv
  subst hv
  obtain ⟨aB, cB, hv⟩ := oB.shape
  rw [HCF.out.1.2.2.1] at hv
  subst hv
  simp only [List.nil_append, List.cons_append] at hBA
  have HBA1 := hide hBA
  clear hBA oA oB nA bb HC0 HBA0
  have HC1 := hide (oTrees_any _ R w4 (HBA1.out.skG hR) HBT.out (HTB.out _ HBA1.out.own.bel))
  go_wp2_with fail
  refine HC1.out.mono ?_
  rintro e w5 ⟨vG, vH, rfl, oG, oH, nG, bb⟩
  rw [HCF.out.1.1]
  have hBA := HBA1.out.add2 bb oG oH nG
  obtain ⟨aG, cG, hv⟩ := oG.shape
  rw [HCF.out.1.2.2.2.1] at hv
  subst hv
  obtain ⟨aH, cH, hv⟩ := oH.shape
  rw [HCF.out.1.2.2.2.2] at hv
  subst hv
  simp only [List.nil_append, List.cons_append] at hBA
  have HBA2 := hide hBA
  clear hBA oG oH nG bb HC1 HBA1
  have HC2 := hide (oCount_any _ RH w5 (HBA2.out.skH (by rw [HML.out]; omega)) HBH.out (HTB.out _ HBA2.out.own.bel))
  rw [HML.out] at HC2
  go_wp2_with fail
  refine HC2.out.mono ?_
  rintro e w6 ⟨vP, vQ, rfl, oP, oQ, nP, bb⟩
  rw [HCF.out.2.1]
  have hBA := HBA2.out.add2 bb oP oQ nP
  obtain ⟨aP, cP, hv⟩ := oP.shape
  rw [HCF.out.2.2.1] at hv
  subst hv
  obtain ⟨aQ, cQ, hv⟩ := oQ.shape
  rw [HCF.out.2.2.2.1] at hv
  subst hv
  simp only [List.nil_append, List.cons_append] at hBA
  have HBA3 := hide hBA
  clear hBA oP oQ nP bb HC2 HBA2
  have HC3 := hide (oTrees_any _ RH w6 (HBA3.out.skH (by rw [HML.out]; omega)) HBH.out (HTB.out _ HBA3.out.own.bel))
  rw [HML.out] at HC3
  go_wp2_with fail
  refine HC3.out.mono ?_
  rintro e w7 ⟨vS, vT, rfl, oS, oT, nS, bb⟩
  rw [HCF.out.2.1]
  have hBA := HBA3.out.add2 bb oS oT nS
  obtain ⟨aS, cS, hv⟩ := oS.shape
  rw [HCF.out.2.2.2.2.1] at hv
  subst hv
  obtain ⟨aT, cT, hv⟩ := oT.shape
  rw [HCF.out.2.2.2.2.2] at hv
  subst hv
  simp only [List.nil_append, List.cons_append] at hBA
  have HBA4 := hide hBA
  clear hBA oS oT nS bb HC3 HBA3
  have HC4 := hide (oCount_any _ R w7 (HBA4.out.skG hR) HBT.out (HTB.out _ HBA4.out.own.bel))
  go_wp2_with fail
  refine HC4.out.mono ?_
  rintro e w8 ⟨vC, vD, rfl, oC, oD, nC, bb⟩
  rw [HCF.out.1.1]
  have hBA := HBA4.out.add2 bb oC oD nC
  obtain ⟨aC, cC, hv⟩ := oC.shape
  rw [HCF.out.1.2.1] at hv
  subst hv
  obtain ⟨aD, cD, hv⟩ := oD.shape
  rw [HCF.out.1.2.2.1] at hv
  subst hv
  simp only [List.nil_append, List.cons_append] at hBA
  have HBA5 := hide hBA
  clear hBA oC oD nC bb HC4 HBA4
  have HC5 := hide (oTrees_any _ R w8 (HBA5.out.skG hR) HBT.out (HTB.out _ HBA5.out.own.bel))
  go_wp2_with fail
  refine HC5.out.mono ?_
  rintro e w9 ⟨vJ, vK, rfl, oJ, oK, nJ, bb⟩
  rw [HCF.out.1.1]
  have hBA := HBA5.out.add2 bb oJ oK nJ
  obtain ⟨aJ, cJ, hv⟩ := oJ.shape
  rw [HCF.out.1.2.2.2.1] at hv
  subst hv
  obtain ⟨aK, cK, hv⟩ := oK.shape
  rw [HCF.out.1.2.2.2.2] at hv
  subst hv
  simp only [List.nil_append, List.cons_append] at hBA
  have HBA6 := hide hBA
  clear hBA oJ oK nJ bb HC5 HBA5
  have eI : ∀ l : List Int, eqI l l = true := fun l => by simp [eqI]
  have HSG := hide (spared_any gG R w9 HBA6.out.tg hR)
  have HSH := hide (spared_any gH RH w9 HBA6.out.th (by rw [HML.out]; omega))
  rw [HML.out] at HSH
  go_wp2_with fail
  refine HSG.out.mono ?_
  rintro e wx ⟨rfl, hwx⟩
  subst hwx
  go_wp2_with fail
  refine HSH.out.mono ?_
  rintro e wy ⟨rfl, hwy⟩
  subst hwy
  clear HSG HSH
  have HQ0 := hide (isame_any _ _ _ _ wy ((HBA6.out.own.sl 0 _ _ rfl).sb.below (Below.refl wy.heap.size wy)) ((HBA6.out.own.sl 8 _ _ rfl).sb.below (Below.refl wy.heap.size wy)))
  rw [eI] at HQ0
  go_wp2_with fail
  refine HQ0.out.mono ?_
  rintro e x0 ⟨rfl, n0, hw0⟩
  have HD0 : Hid (Below wy.heap.size wy x0) := by rw [hw0]; exact below_drewN (Below.refl wy.heap.size wy) n0
  clear HQ0 hw0
  have HQ1 := hide (isame_any _ _ _ _ x0 ((HBA6.out.own.sl 1 _ _ rfl).sb.below HD0.out) ((HBA6.out.own.sl 9 _ _ rfl).sb.below HD0.out))
  rw [eI] at HQ1
  go_wp2_with fail
  refine HQ1.out.mono ?_
  rintro e x1 ⟨rfl, n1, hw1⟩
  have HD1 : Hid (Below wy.heap.size wy x1) := by rw [hw1]; exact below_drewN HD0.out n1
  clear HQ1 hw1
  have HQ2 := hide (isame_any _ _ _ _ x1 ((HBA6.out.own.sl 2 _ _ rfl).sb.below HD1.out) ((HBA6.out.own.sl 10 _ _ rfl).sb.below HD1.out))
  rw [eI] at HQ2
  go_wp2_with fail
  refine HQ2.out.mono ?_
  rintro e x2 ⟨rfl, n2, hw2⟩
  have HD2 : Hid (Below wy.heap.size wy x2) := by rw [hw2]; exact below_drewN HD1.out n2
  clear HQ2 hw2
  have HQ3 := hide (isame_any _ _ _ _ x2 ((HBA6.out.own.sl 3 _ _ rfl).sb.below HD2.out) ((HBA6.out.own.sl 11 _ _ rfl).sb.below HD2.out))
  rw [eI] at HQ3
  go_wp2_with fail
  refine HQ3.out.mono ?_
  rintro e x3 ⟨rfl, n3, hw3⟩
  have HD3 : Hid (Below wy.heap.size wy x3) := by rw [hw3]; exact below_drewN HD2.out n3
  clear HQ3 hw3
  have HBA7 := hide (HBA6.out.low HD3.out)
  clear HBA6 HD0 HD1 HD2 HD3
  obtain ⟨LV, hLV⟩ : ∃ X : List (Value × List Int), X = [(.slice aC 286 cC, ctL R), (.slice aD 30 cD, ctD R), (.slice aJ 286 cJ, trL R), (.slice aK 30 cK, trD R), (.slice aP 286 cP, ctL RH), (.slice aQ 30 cQ, ctD RH), (.slice aS 286 cS, trL RH), (.slice aT 30 cT, trD RH)] := ⟨_, rfl⟩
  have hown : OwI w x3 LV := by
    have := HBA7.out.own.pick (.bool false, []) [8, 9, 10, 11, 4, 5, 6, 7] (by decide) (by intro i hi; simp at hi ⊢; omega)
    rw [hLV]
    exact this
  have hll : LV.length = 8 := by rw [hLV]; rfl
  have HPL : Hid (∀ p ∈ LV, 0 < p.2.length ∧ p.2.length ≤ 286) := by
    intro p hp
    rw [hLV] at hp
    have f := HCF.out
    simp only [List.mem_cons, List.not_mem_nil, or_false] at hp
    rcases hp with rfl | rfl | rfl | rfl | rfl | rfl | rfl | rfl <;> simp only [f.1.2.1, f.1.2.2.1, f.1.2.2.2.1, f.1.2.2.2.2, f.2.2.1, f.2.2.2.1, f.2.2.2.2.1, f.2.2.2.2.2] <;> omega
  have hLs := hown.lists (by omega) (fun p hp => by have := HPL.out p hp; omega)
  have hrow : (LV.map (·.1)).toArray = #[.slice aC 286 cC, .slice aD 30 cD, .slice aJ 286 cJ, .slice aK 30 cK, .slice aP 286 cP, .slice aQ 30 cQ, .slice aS 286 cS, .slice aT 30 cT] := by rw [hLV]; rfl
  rw [hrow] at hLs
  have HLs := hide hLs
  have HOW := hide hown
  have HLV := hide hLV
  obtain ⟨w11, hw11⟩ : ∃ W, x3.alloc (.cells #[.slice aC 286 cC, .slice aD 30 cD, .slice aJ 286 cJ, .slice aK 30 cK, .slice aP 286 cP, .slice aQ 30 cQ, .slice aS 286 cS, .slice aT 30 cT] 26) = W := ⟨_, rfl⟩
  rw [hw11] at HLs
  have HB11 : Hid (Below x3.heap.size x3 w11) := by rw [← hw11]; exact (Below.refl _ _).alloc (Nat.le_refl _) _
  have HBA8 := hide (HBA7.out.low HB11.out)
  obtain ⟨LS, hLS⟩ : ∃ X : List (Value × List Int), X = [(.slice aA 286 cA, ctL R), (.slice aB 30 cB, ctD R), (.slice aG 286 cG, trL R), (.slice aH 30 cH, trD R), (.slice aP 286 cP, ctL RH), (.slice aQ 30 cQ, ctD RH), (.slice aS 286 cS, trL RH), (.slice aT 30 cT, trD RH), (.slice aC 286 cC, ctL R), (.slice aD 30 cD, ctD R), (.slice aJ 286 cJ, trL R), (.slice aK 30 cK, trD R)] := ⟨_, rfl⟩
  have HLS := hide hLS
  clear hLS
  rw [← HLS.out] at HBA8
  obtain ⟨i8, hi8, hz80, hz81, hz82⟩ := info_parts infoRow
  have HI8 := hide (And.intro hi8 (And.intro hz80 (And.intro hz81 hz82)))
  have HGR : Hid (x3.heap.size < w11.heap.size) := by show _ < _; rw [← hw11]; simp
  clear hLs hown hrow hLV hi8 hz80 hz81 hz82 HB11
  go_wp2
  obtain ⟨gR, hgR⟩ : ∃ g, x3.heap.size = g := ⟨_, rfl⟩
  have HLT : Hid (∀ (i : Nat) (v : Value) (l : List Int), LS[i]? = some (v, l) → ∀ b, v.ownBlock = some b → b < gR) := fun i v l e b hb => by rw [← hgR]; exact ((HBA7.out.own.sl i v l (by rw [← HLS.out]; exact e)).lt b hb).2
  have HGL : Hid (gG < gR ∧ gH < gR) := by rw [← hgR]; exact ⟨HBA7.out.tg.lt, HBA7.out.th.lt⟩
  rw [hgR] at HLs HGR ⊢
  clear hgR hw11
  go_loopw [27, 28] (fun kp i wq => ∃ (k : Nat) (am : Option Addr) (cm : Nat) (ms : List Value), kp = .slice am k cm ∧ i = .int .i64 k ∧ k ≤ 8 ∧ Hid (Below w11.heap.size w11 wq) ∧ Hid (wq.ownsRow w11.heap.size 26 1 (.slice am k cm) k ms ∧ Kpt wq w11.heap.size (Value.slice am k cm).ownBlock LV ms)) (fun _ i _ => 8 - (intOf i).toNat)
  case atStart => exact ⟨0, none, 0, [], rfl, rfl, by omega, Below.refl _ _, World.ownsRow_nil _ _ _ _, fun j p _ hj => absurd hj (Nat.not_lt_zero _)⟩
  case round =>
    obtain ⟨k, am, cm, ms, rfl, rfl, hk, HBq, HMs⟩ := hrel
    by_cases hlt : k < 8
    · have hlt' : (k : Int) < 8 := by omega
      obtain ⟨p, hp⟩ : ∃ p, LV[k]? = some p := ⟨LV[k]'(by omega), by simp⟩
      have hcell := (HBq.out.cell (p := ⟨gR, k, none⟩) HGR.out).trans (HLs.out.row k p hp)
      have hpl := HPL.out p (List.mem_of_getElem? hp)
      have HSI := hide ((HLs.out.ob k p hp).sb)
      have HP := hide hp
      obtain ⟨a, c, hv⟩ := (HLs.out.ob k p hp).shape
      obtain ⟨pv, pl⟩ := p
      simp only at hv hcell hpl HSI
      subst hv
      clear hp
      go_wp2_with (at_make; refine wpList_mkI rfl _ _ rfl _ _ _ _ pl.length pl.length rfl rfl rfl rfl (Nat.le_refl _) (by omega) ?_)
      intro w12 hg12 b12
      have hs12 := b12.size
      have hg12s : wr.heap.size < w12.heap.size := (Array.getElem?_eq_some_iff.1 hg12).1
      have HG12 := hide hg12
      have hcell12 : w12.cell? ⟨gR, k, none⟩ = some (.slice a pl.length c) := by
        have hgw : gR < wr.heap.size := Nat.lt_of_lt_of_le HGR.out HBq.out.size
        exact (b12.cell (p := ⟨gR, k, none⟩) hgw).trans hcell
      have HC2 : Hid (0 < (pl.map (Value.int .i64)).length → ∃ ad, a = some ad ∧ ∀ j v, (pl.map (Value.int .i64))[j]? = some v → w12.cell? (ad.add j) = some v) := by
        intro _
        have hsi := (HSI.out.below HBq.out).below b12
        obtain ⟨ao9, c9, h9, _, _, h10, h11⟩ := hsi
        simp only [Value.slice.injEq] at h9
        obtain ⟨rfl, -, rfl⟩ := h9
        cases a with
        | none => have := h10 rfl; omega
        | some ad =>
          refine ⟨ad, rfl, fun j v hj => ?_⟩
          obtain ⟨hjl, rfl⟩ := List.getElem?_eq_some_iff.1 hj
          have hjl' : j < pl.length := by simpa using hjl
          rw [h11 ad rfl j hjl']
          simp [hjl']
      have HC1 : Hid ((pl.map (Value.int .i64)).length = Nat.min pl.length pl.length) := by show _ = _; rw [List.length_map]; exact (Nat.min_self _).symm
      have HC3 : Hid (0 + (pl.map (Value.int .i64)).length ≤ (List.replicate pl.length (Value.int .i64 0)).length) := by show _ ≤ _; simp
      have HC4 : Hid (∀ v ∈ pl.map (Value.int .i64), v.oneCell' = true) := by intro u hu; obtain ⟨n, _, rfl⟩ := List.mem_map.1 hu; rfl
      have HW12 := hide b12
      clear hg12 b12 hcell
      go_wp2_with (refine wpList_copy_g10 rfl _ _ 26 26 rfl 3 Tryd.underlying26 sizeInt _ _ _ _ _ _ rfl rfl wr.heap.size 0 (List.replicate pl.length (Value.int .i64 0)) 3 HG12.out (pl.map (Value.int .i64)) HC1.out (fun hp => ⟨rfl, HC2.out hp⟩) HC3.out HC4.out ?_)
      intro w13 HG13 g13
      have hsp : splice (List.replicate pl.length (Value.int .i64 0)) 0 (pl.map (Value.int .i64)) = pl.map (Value.int .i64) := by simp [splice]
      have hgl := unhide HG13
      rw [hsp] at hgl
      have HN13 := hide (owned10 (B := w11.heap.size) (g := wr.heap.size) (l := pl) rfl HBq.out.size (by omega) hgl)
      have hs13 := g13.size
      have HK13 : Hid (∀ b, b < wr.heap.size → w13.heap[b]? = wr.heap[b]?) := fun b hb => (g13.block b (by omega) (fun e => by simp only [Option.some.injEq] at e; omega)).trans (HW12.out.block b hb)
      have HRow : Hid (w13.ownsRow w11.heap.size 26 1 (.slice am k cm) k ms) := ownsRow_move HMs.out.1 fun b hb => HK13.out b (World.ownsRow.lt HMs.out.1 b hb).2
      have HB13 : Hid (Below w11.heap.size w11 w13) := (HBq.out.trans (HW12.out.mono HBq.out.size)).grown g13 (by have := HBq.out.size; omega) (fun b hb => by simp only [Option.some.injEq] at hb; have := HBq.out.size; omega)
      have HN1 : Hid (k + 1 ≤ maxLen) := by show _ ≤ _; unfold maxLen; omega
      have HN2 : Hid ((k + 1) * 24 ≤ 140737488355328) := by show _ ≤ _; omega
      have HN3 : Hid (w11.heap.size ≤ w13.heap.size + 1) := by show _ ≤ _; have := HB13.out.size; omega
      have hz13 : wr.heap.size < w13.heap.size := by omega
      clear HG13 g13 hsp hgl HG12 HC1 HC2 HC3 HC4 HW12 hcell12
      go_wp2_with (at_builtin; go_must (refine wpList_append_own_at _ rfl _ _ 32 rfl w11.heap.size 26 i8 (.slice none 0 0) 1 24 Tryd.underlying32 HI8.out.1 HI8.out.2.1 HI8.out.2.2.1 HI8.out.2.2.2 rfl (by decide) _ _ _ rfl (ownsRow_alloc HRow.out _) ⟨w13.heap.size, 0, none⟩ 1 1 [.slice (some ⟨wr.heap.size, 0, none⟩) pl.length pl.length] rfl rfl (cell_one_new _ _ _) (fun u hu => by rw [List.mem_singleton.1 hu]; rfl) HN1.out HN2.out (by rw [size_alloc']; exact HN3.out) ?_))
      intro v8 w14 hown8 hgrow8 _ hloc8
      have hg14 := hgrow8.size
      rw [size_alloc'] at hg14
      have HKn : Hid (∀ b, b < w13.heap.size → (Value.slice am k cm).ownBlock ≠ some b → w14.heap[b]? = w13.heap[b]? ∧ v8.ownBlock ≠ some b) := fun b hb hn => ⟨(hgrow8.block b (by rw [size_alloc']; omega) (fun e2 => hn e2.symm)).trans (Below.heap_alloc _ _ b hb), fun e2 => by
        rcases hloc8 with e3 | e3
        · exact hn (e3.symm.trans e2)
        · rw [e3] at e2
          have := Option.some.inj e2
          omega⟩
      have HB14 : Hid (Below w11.heap.size w11 w14) := (HB13.out.alloc HB13.out.size _).grown hgrow8 (by rw [size_alloc']; have := HB13.out.size; omega) (fun b hb => (World.ownsRow.lt HRow.out b hb).1)
      have HMl : Hid (ms.length = k) := by have h := HRow.out.1; show _ = _; omega
      have HM14 : Hid (w14.ownsRow w11.heap.size 26 1 v8 (k + 1) (ms ++ [Value.slice (some ⟨wr.heap.size, 0, none⟩) pl.length pl.length]) ∧ Kpt w14 w11.heap.size v8.ownBlock LV (ms ++ [Value.slice (some ⟨wr.heap.size, 0, none⟩) pl.length pl.length])) := by
        refine ⟨hown8, fun j q hq hj => ?_⟩
        by_cases ej : j < ms.length
        · obtain ⟨x, hx, hsx, hbx⟩ := HMs.out.2 j q hq ej
          have key : ∀ b, x.ownBlock = some b → w14.heap[b]? = wr.heap[b]? ∧ v8.ownBlock ≠ some b ∧ b < w14.heap.size ∧ w11.heap.size ≤ b := fun b hb => by
            obtain ⟨y1, y2, y3⟩ := hbx b hb
            obtain ⟨z1, z2⟩ := HKn.out b (by omega) y3
            exact ⟨z1.trans (HK13.out b y2), z2, by omega, y1⟩
          exact ⟨x, by rw [List.getElem?_append_left ej]; exact hx, hsx.same fun b hb => (key b hb).1, fun b hb => ⟨(key b hb).2.2.2, (key b hb).2.2.1, (key b hb).2.1⟩⟩
        · rw [List.length_append, List.length_singleton] at hj
          have ek : j = k := by have := HMl.out; omega
          subst ek
          have e := HP.out.symm.trans hq
          simp only [Option.some.injEq] at e
          subst e
          have hnr : (Value.slice am j cm).ownBlock ≠ some wr.heap.size := fun e2 => by have := (World.ownsRow.lt HMs.out.1 _ e2).2; omega
          obtain ⟨z1, z2⟩ := HKn.out wr.heap.size hz13 hnr
          refine ⟨_, by rw [List.getElem?_append_right (by have := HMl.out; omega), show j - ms.length = 0 by have := HMl.out; omega]; rfl, ?_, fun b hb => ?_⟩
          · exact (HN13.out.sb).same fun b hb => by simp only [Value.ownBlock, Option.some.injEq] at hb; subst hb; exact z1
          · simp only [Value.ownBlock, Option.some.injEq] at hb
            subst hb
            exact ⟨HBq.out.size, by omega, z2⟩
      have hsh : ∃ a8 c8, v8 = .slice a8 (k + 1) c8 := by
        rcases hown8.2 with ⟨_, h0⟩ | ⟨g8, c8, cur, hv, _⟩
        · omega
        · exact ⟨_, _, hv⟩
      obtain ⟨a8, c8, rfl⟩ := hsh
      clear hown8 hgrow8 hloc8 HKn HRow HB13 HN13 HK13
      go_wp2
      go_roundw
      case rel => exact ⟨k + 1, a8, c8, _, rfl, by go_num, by omega, HB14, HM14⟩
      case measure => simp [intOf]; omega
    · obtain rfl : k = 8 := by omega
      have hlt' : ¬ (8 : Int) < 8 := by omega
      obtain ⟨V0, hV0⟩ : ∃ W, W = wr := ⟨_, rfl⟩
      subst hV0
      have HBA9 := hide (HBA8.out.low HBq.out)
      obtain ⟨LM, hLM⟩ : ∃ X : List (Value × List Int), X = [(.slice aA 286 cA, ctL R), (.slice aB 30 cB, ctD R), (.slice aG 286 cG, trL R), (.slice aH 30 cH, trD R)] := ⟨_, rfl⟩
      have hownM : OwI w V0 LM := by
        have := HBA9.out.own.pick (.bool false, []) [0, 1, 2, 3] (by decide) (by rw [HLS.out]; intro i hi; simp at hi ⊢; omega)
        rw [hLM]
        rw [HLS.out] at this
        exact this
      have hlm : LM.length = 4 := by rw [hLM]; rfl
      have HPM : Hid (∀ p ∈ LM, 0 < p.2.length ∧ p.2.length ≤ 286) := by
        intro p hp
        rw [hLM] at hp
        have f := HCF.out
        simp only [List.mem_cons, List.not_mem_nil, or_false] at hp
        rcases hp with rfl | rfl | rfl | rfl <;> simp only [f.1.2.1, f.1.2.2.1, f.1.2.2.2.1, f.1.2.2.2.2] <;> omega
      have HMS : Hid (∀ (j : Nat) (p : Value × List Int), LM[j]? = some p → LS[j]? = some p) := fun j p hp => by
        rw [hLM] at hp
        have hj := (List.getElem?_eq_some_iff.1 hp).1
        simp at hj
        rw [HLS.out]
        match j, hj, hp with
        | 0, _, hp => exact hp
        | 1, _, hp => exact hp
        | 2, _, hp => exact hp
        | 3, _, hp => exact hp
      have hLs := hownM.lists (by omega) (fun p hp => by have := HPM.out p hp; omega)
      have hrow : (LM.map (·.1)).toArray = #[.slice aA 286 cA, .slice aB 30 cB, .slice aG 286 cG, .slice aH 30 cH] := by rw [hLM]; rfl
      rw [hrow] at hLs
      have HLM := hide hLs
      have HLMD := hide hLM
      obtain ⟨V1, hV1⟩ : ∃ W, V0.alloc (.cells #[.slice aA 286 cA, .slice aB 30 cB, .slice aG 286 cG, .slice aH 30 cH] 26) = W := ⟨_, rfl⟩
      rw [hV1] at HLM
      have HBV1 : Hid (Below V0.heap.size V0 V1) := by rw [← hV1]; exact (Below.refl _ _).alloc (Nat.le_refl _) _
      clear hLs hownM hrow hLM
      go_wp2
      obtain ⟨gM, hgM⟩ : ∃ g, V0.heap.size = g := ⟨_, rfl⟩
      have HGM := hide hgM
      rw [hgM] at HLM ⊢
      clear hgM hV1 hlt'
      go_loopw [31] (fun i wz => ∃ k : Nat, i = .int .i64 k ∧ k ≤ 4 ∧ Hid (∀ (j : Nat) (p : Value × List Int), LM[j]? = some p → OI wz w.heap.size p.1 (if j < k then List.replicate p.2.length (-1 - (j : Int)) else p.2)) ∧ Hid (Keep LM V1 wz)) (fun i _ => 4 - (intOf i).toNat)
      case atStart => exact ⟨0, rfl, by omega, (fun j p hp => by rw [if_neg (by omega)]; exact HLM.out.ob j p hp), Keep.refl _ _⟩
      case round =>
        obtain ⟨k, rfl, hk, HO, HK⟩ := hrel
        by_cases hlt : k < 4
        case pos =>
          have hlt' : (k : Int) < 4 := by omega
          obtain ⟨p, hp⟩ : ∃ p, LM[k]? = some p := ⟨LM[k]'(by omega), by simp⟩
          have hob := HO.out k p hp
          rw [if_neg (by omega)] at hob
          have hcell := HLM.out.cell HK.out hp
          have hpl := HPM.out p (List.mem_of_getElem? hp)
          have hap := HLM.out.apart p (List.mem_of_getElem? hp)
          have hgl : gM < wr.heap.size := World.block_lt_of_cell? _ _ hcell
          have HP := hide hp
          obtain ⟨pv, pl⟩ := p
          obtain ⟨a, c, hv⟩ := hob.shape
          simp only [] at hv hob hcell hpl hap
          subst hv
          have HOB := hide hob
          have HAP := hide hap
          have HCE := hide hcell
          obtain ⟨m, HM⟩ : ∃ m : Int, Hid (m = -1 - (k : Int)) := ⟨_, rfl⟩
          clear hob hp hap
          obtain ⟨W5, hW5⟩ : ∃ W5, W5 = wr := ⟨_, rfl⟩
          subst hW5
          go_wp2
          go_loopw [32] (fun i wq => ∃ kk : Nat, i = .int .i64 kk ∧ kk ≤ pl.length ∧ Hid (OI wq w.heap.size (.slice a pl.length c) (List.replicate kk m ++ pl.drop kk)) ∧ Hid (W5.grownBy wq (Value.slice a pl.length c).ownBlock)) (fun i _ => pl.length - (intOf i).toNat)
          case atStart => exact ⟨0, rfl, Nat.zero_le _, by show OI _ _ _ _; simpa using HOB.out, World.grownBy.refl _ _⟩
          case round =>
            obtain ⟨kk, rfl, hkk, HQ, HG⟩ := hrel
            have hrow : wr.cell? ⟨gM, k, none⟩ = some (.slice a pl.length c) := by
              rw [World.cell?_of_block (w := W5) (HG.out.block gM hgl (fun e => HAP.out e.symm))]; exact HCE.out
            by_cases hl2 : kk < pl.length
            · have hl2' : (kk : Int) < (pl.length : Int) := by omega
              have hlen : (List.replicate kk m ++ pl.drop kk).length = pl.length := by simp; omega
              have HQ' : Hid (OI wr w.heap.size (.slice a (List.replicate kk m ++ pl.drop kk).length c) (List.replicate kk m ++ pl.drop kk)) := by rw [hlen]; exact HQ.out
              obtain ⟨b, c', hv', hc1, hc2⟩ := HQ'.out.some (by rw [hlen]; omega)
              simp only [Value.slice.injEq] at hv'
              obtain ⟨rfl, -, rfl⟩ := hv'
              obtain ⟨d0, df⟩ := HQ'.out.cellAt (j := kk) (by rw [hlen]; omega)
              have hs := HQ'.out.setAt (j := kk) m
              rw [set_mid m pl kk hl2, hlen] at hs
              have HS9 := hide hs
              have hmw : -1 - (k : Int) = m := HM.out.symm
              have hm0 : -200 ≤ m := by rw [HM.out]; omega
              have hm1 : m < 0 := by rw [HM.out]; omega
              have HGN : Hid (W5.grownBy (wr.setCell ⟨b, kk, none⟩ (.int .i64 m)) (Value.slice (some ⟨b, 0, none⟩) pl.length c).ownBlock) := HG.out.trans (grownBy_set rfl)
              clear hs hlen HQ HG HQ' hcell
              go_wp2
              go_roundw
              case rel => exact ⟨kk + 1, by go_num, by omega, HS9.out, HGN.out⟩
              case measure => simp [intOf]; omega
            · have hl2' : ¬ (kk : Int) < (pl.length : Int) := by omega
              have HO3 : Hid (∀ (j : Nat) (p : Value × List Int), LM[j]? = some p → OI wr w.heap.size p.1 (if j < k + 1 then List.replicate p.2.length (-1 - (j : Int)) else p.2)) := by
                intro j q hq
                by_cases ej : j = k
                · subst ej
                  have e := HP.out.symm.trans hq
                  simp only [Option.some.injEq] at e
                  subst e
                  rw [if_pos (by omega)]
                  have h := HQ.out
                  rw [List.drop_eq_nil_of_le (by omega), List.append_nil, show kk = pl.length by omega, HM.out] at h
                  exact h
                · have hq2 := HO.out j q hq
                  have e : (if j < k + 1 then List.replicate q.2.length (-1 - (j : Int)) else q.2) = (if j < k then List.replicate q.2.length (-1 - (j : Int)) else q.2) := by
                    by_cases hj : j < k
                    · rw [if_pos hj, if_pos (by omega)]
                    · rw [if_neg hj, if_neg (by omega)]
                  rw [e]
                  exact hq2.move fun b hb => HG.out.block b (hq2.lt b hb).2 (fun e2 => HLM.out.sep j k q _ hq HP.out ej b hb e2.symm)
              have HK3 := hide (HK.out.trans (Keep.grown (List.mem_of_getElem? HP.out) HG.out))
              clear hcell
              go_wp2
              go_roundw
              case rel => exact ⟨k + 1, by go_num, by omega, HO3.out, HK3.out⟩
              case measure => simp [intOf]; omega
        case neg =>
          obtain rfl : k = 4 := by omega
          have hlt' : ¬ (4 : Int) < 4 := by omega
          obtain ⟨V2, hV2⟩ : ∃ W, W = wr := ⟨_, rfl⟩
          subst hV2
          have hz02 : V0.heap.size ≤ V2.heap.size := Nat.le_trans HBV1.out.size HK.out.size
          have HK2 : Hid (∀ b, b < V0.heap.size → (∀ p ∈ LM, p.1.ownBlock ≠ some b) → V2.heap[b]? = V0.heap[b]?) := fun b hb hn => (HK.out.block b (Nat.lt_of_lt_of_le hb HBV1.out.size) hn).trans (HBV1.out.block b hb)
          have HNG : Hid (∀ p ∈ LM, p.1.ownBlock ≠ some gG) := fun p hp => by
            obtain ⟨j, hj⟩ := List.getElem?_of_mem hp
            exact (HBA9.out.ng j p.1 p.2 (HMS.out j p hj)).1
          have hgV0 : gG < V0.heap.size := HBA9.out.tg.lt
          have HTG : Hid (TBr V2 gG R (fr3 (List.replicate 9 m7))) := by
            have h1 := (HK2.out gG hgV0 HNG.out).trans HBA9.out.tg
            show V2.heap[gG]? = _
            rw [h1, List.append_nil, fr3_app]
          clear hlt
          go_wp2
          go_loopw [33] (fun i wq => ∃ k : Nat, k ≤ R.length ∧ i = .int .i64 k ∧ Hid (TBr wq gG (List.replicate k ((-9 : Int), (0 : Int), (0 : Int)) ++ R.drop k) (fr3 (List.replicate 9 m7))) ∧ Hid (V2.grownBy wq (some gG))) (fun i _ => R.length - (intOf i).toNat)
          case atStart => exact ⟨0, Nat.zero_le _, rfl, by show TBr _ _ _ _; simpa using HTG.out, World.grownBy.refl _ _⟩
          case round =>
            clear hlt' HTG
            obtain ⟨k, hk, rfl, HQ, HG⟩ := hrel
            by_cases hlt : k < R.length
            · have hlt' : (k : Int) < (R.length : Int) := by omega
              have hd : R.drop k = R[k] :: R.drop (k + 1) := List.drop_eq_getElem_cons hlt
              have t1 := HQ.out
              rw [hd] at t1
              have hP := t1.set ((-9 : Int), (0 : Int), (0 : Int))
              have eN : List.replicate k ((-9 : Int), (0 : Int), (0 : Int)) ++ ((-9 : Int), (0 : Int), (0 : Int)) :: R.drop (k + 1) = List.replicate (k + 1) ((-9 : Int), (0 : Int), (0 : Int)) ++ R.drop (k + 1) := by rw [List.replicate_succ']; simp
              rw [List.length_replicate, eN] at hP
              have hl9 : (List.replicate k ((-9 : Int), (0 : Int), (0 : Int)) ++ R[k] :: R.drop (k + 1)).length = R.length := by simp; omega
              obtain ⟨⟨u0, e0⟩, f0⟩ := t1.there (j := k * 3) (by rw [hl9]; omega)
              obtain ⟨⟨u1, e1⟩, f1⟩ := t1.there (j := k * 3 + 1) (by rw [hl9]; omega)
              obtain ⟨⟨u2, e2⟩, f2⟩ := t1.there (j := k * 3 + 2) (by rw [hl9]; omega)
              have HP9 := hide hP
              have HG9 : Hid (∀ a b c, V2.grownBy (((wr.setCell ⟨gG, k * 3, none⟩ a).setCell ⟨gG, k * 3 + 1, none⟩ b).setCell ⟨gG, k * 3 + 2, none⟩ c) (some gG)) := fun a b c => ((HG.out.trans (grownBy_set rfl)).trans (grownBy_set rfl)).trans (grownBy_set rfl)
              clear t1 hP HQ HG hd eN hl9
              go_wp2
              go_roundw
              case rel => exact ⟨k + 1, by omega, by go_num, by exact HP9, HG9.out _ _ _⟩
              case measure => simp [intOf]; omega
            · obtain rfl : k = R.length := by omega
              have hlt' : ¬ (R.length : Int) < (R.length : Int) := by omega
              have HT9 : Hid (TBr wr gG (List.replicate R.length ((-9 : Int), (0 : Int), (0 : Int))) (fr3 (List.replicate 9 m7))) := by
                have h := HQ.out
                rw [List.drop_eq_nil_of_le (Nat.le_refl _), List.append_nil] at h
                exact h
              obtain ⟨V3, hV3⟩ : ∃ W, W = wr := ⟨_, rfl⟩
              subst hV3
              have hz23 := HG.out.size
              have HU3 : Hid (∀ b, b < V0.heap.size → (∀ p ∈ LM, p.1.ownBlock ≠ some b) → b ≠ gG → V3.heap[b]? = V0.heap[b]?) := fun b hb hn hne => (HG.out.block b (by omega) (fun e => hne (Option.some.inj e))).trans (HK2.out b hb hn)
              have HLB : Hid (∀ p ∈ LM, ∀ b, p.1.ownBlock = some b → b < gR) := fun p hp b hb => by
                obtain ⟨j, hj⟩ := List.getElem?_of_mem hp
                exact HLT.out j p.1 p.2 (HMS.out j p hj) b hb
              have hz11 : w11.heap.size ≤ V0.heap.size := HBq.out.size
              have hgr := HGR.out
              have hgg := HGL.out.1
              have HHI : Hid (∀ b, gR ≤ b → b < V0.heap.size → V3.heap[b]? = V0.heap[b]?) := fun b h1 h2 => HU3.out b h2 (fun p hp e => by have := HLB.out p hp b e; omega) (by omega)
              have HOT : Hid (∀ (i : Nat) (v : Value) (l : List Int), 4 ≤ i → LS[i]? = some (v, l) → OI V3 w.heap.size v l) := fun i v l hi e => by
                have h0 := HBA9.out.own.sl i v l e
                refine h0.move fun b hb => HU3.out b (h0.lt b hb).2 (fun p hp e2 => ?_) (fun e2 => (HBA9.out.ng i v l e).1 (e2 ▸ hb))
                obtain ⟨j, hj⟩ := List.getElem?_of_mem hp
                have hj4 : j < 4 := by have := (List.getElem?_eq_some_iff.1 hj).1; omega
                exact HBA9.out.own.nn j i p.1 v p.2 l (HMS.out j p hj) e (by omega) b e2 hb
              have HVS : Hid (∀ (j : Nat) (p : Value × List Int), LV[j]? = some p → ∃ i, 4 ≤ i ∧ LS[i]? = some p) := fun j p hp => by
                rw [HLV.out] at hp
                have hj := (List.getElem?_eq_some_iff.1 hp).1
                simp at hj
                rw [HLS.out]
                match j, hj, hp with
                | 0, _, hp => exact ⟨8, by omega, hp⟩
                | 1, _, hp => exact ⟨9, by omega, hp⟩
                | 2, _, hp => exact ⟨10, by omega, hp⟩
                | 3, _, hp => exact ⟨11, by omega, hp⟩
                | 4, _, hp => exact ⟨4, by omega, hp⟩
                | 5, _, hp => exact ⟨5, by omega, hp⟩
                | 6, _, hp => exact ⟨6, by omega, hp⟩
                | 7, _, hp => exact ⟨7, by omega, hp⟩
              obtain ⟨gK, hgK⟩ : ∃ gK, am = some ⟨gK, 0, none⟩ := by
                rcases HMs.out.1.2 with ⟨_, h0⟩ | ⟨g8, c8, cur, hv, _⟩
                · omega
                · simp only [Value.slice.injEq] at hv
                  exact ⟨g8, hv.1⟩
              subst hgK
              have hgK := World.ownsRow.lt HMs.out.1 gK rfl
              clear HQ
              go_wp2
              go_loopw [34] (fun i wq => ∃ k n : Nat, i = .int .i64 k ∧ k ≤ 8 ∧ wq = V3.drewN n) (fun i _ => 8 - (intOf i).toNat)
              case atStart => exact ⟨0, 0, rfl, by omega, rfl⟩
              case round =>
                clear hlt'
                obtain ⟨k, n, rfl, hk, hw9⟩ := hrel
                subst hw9
                by_cases hlt : k < 8
                · have hlt' : (k : Int) < 8 := by omega
                  obtain ⟨p, hp⟩ : ∃ p, LV[k]? = some p := ⟨LV[k]'(by omega), by simp⟩
                  have y0 : V3.cell? ⟨gR, k, none⟩ = some p.1 := (World.cell?_of_block (HHI.out gR (Nat.le_refl _) (by omega))).trans ((HBq.out.cell (p := ⟨gR, k, none⟩) hgr).trans (HLs.out.row k p hp))
                  obtain ⟨i9, hi9, e9⟩ := HVS.out k p hp
                  have HS1 := hide (HOT.out i9 p.1 p.2 hi9 e9).sb
                  obtain ⟨vm, hvm, hsm, hbm⟩ := HMs.out.2 k p hp (by have h := HMs.out.1.1; omega)
                  have HS2 : Hid (SI V3 vm p.2) := hsm.same fun b hb => by
                    obtain ⟨z1, z2, _⟩ := hbm b hb
                    exact HHI.out b (by omega) z2
                  have y1 : V3.cell? ⟨gK, k, none⟩ = some vm := by
                    have hc := World.ownsRow.cells HMs.out.1 (g := gK) rfl k _ hvm
                    rw [Addr.add_lit] at hc
                    exact (World.cell?_of_block (HHI.out gK (by omega) (by omega))).trans (by simpa using hc)
                  obtain ⟨a, c, hv⟩ := HS1.out.len
                  obtain ⟨xm, ym, hv2⟩ := HS2.out.len
                  obtain ⟨pv, pl⟩ := p
                  simp only at hv hv2 y0 y1 HS1 HS2
                  subst hv hv2
                  have HEQ := hide (fun q => isame_any _ _ pl pl (V3.drewN q) (HS1.out.below (below_drewN (Below.refl _ _) q)) (HS2.out.below (below_drewN (Below.refl _ _) q)))
                  simp only [eI] at HEQ
                  clear hp e9 hvm hsm hbm HS1 HS2
                  go_wp2
                  go_region_held3 (fun W => W.cell? ⟨gR, k, none⟩ = some (.slice a pl.length c) ∧ W.cell? ⟨gK, k, none⟩ = some (.slice xm pl.length ym)) (exact ⟨y0, y1⟩)
                    (first | (go_at_call 9; refine (HEQ.out _).mono ?_; rintro e w5 ⟨rfl, n5, hw5⟩; subst hw5))
                  all_goals
                    go_wp2
                    go_roundw
                    case rel => exact ⟨k + 1, _, by go_num, by omega, rfl⟩
                    case measure => simp [intOf]; omega
                · obtain rfl : k = 8 := by omega
                  have hlt' : ¬ (8 : Int) < 8 := by omega
                  have hbel := HBA9.out.own.bel
                  have HBV3 : Hid (Below w.heap.size w V3) := by
                    refine ⟨HG.out.os.trans (HK.out.os.trans (HBV1.out.os.trans hbel.os)), HG.out.tape.trans (HK.out.tape.trans (HBV1.out.tape.trans hbel.tape)), HG.out.output.trans (HK.out.output.trans (HBV1.out.output.trans hbel.output)), by have := hbel.size; omega, fun b hb => ?_⟩
                    have hs0 := hbel.size
                    refine (HU3.out b (by omega) (fun p hp e => ?_) (by have := HBA9.out.up.1; omega)).trans (hbel.block b hb)
                    obtain ⟨j, hj⟩ := List.getElem?_of_mem hp
                    have := ((HBA9.out.own.sl j p.1 p.2 (HMS.out j p hj)).lt b e).1
                    omega
                  have HMO : Hid (∀ (j : Nat) (p : Value × List Int), LM[j]? = some p → OI V3 w.heap.size p.1 (List.replicate p.2.length (-1 - (j : Int)))) := fun j p hp => by
                    have h0 := HO.out j p hp
                    have hj4 : j < 4 := by have := (List.getElem?_eq_some_iff.1 hp).1; omega
                    rw [if_pos hj4] at h0
                    exact h0.move fun b hb => HG.out.block b (h0.lt b hb).2 (fun e => HNG.out p (List.mem_of_getElem? hp) (hb.trans e))
                  obtain ⟨MA, hMA⟩ : ∃ X, List.replicate (ctL R).length (-1 - ((0 : Nat) : Int)) = X := ⟨_, rfl⟩
                  obtain ⟨MB, hMB⟩ : ∃ X, List.replicate (ctD R).length (-1 - ((1 : Nat) : Int)) = X := ⟨_, rfl⟩
                  obtain ⟨MG, hMG⟩ : ∃ X, List.replicate (trL R).length (-1 - ((2 : Nat) : Int)) = X := ⟨_, rfl⟩
                  obtain ⟨MH, hMH⟩ : ∃ X, List.replicate (trD R).length (-1 - ((3 : Nat) : Int)) = X := ⟨_, rfl⟩
                  have oA : OI V3 w.heap.size (.slice aA 286 cA) MA := by rw [← hMA]; exact HMO.out 0 (.slice aA 286 cA, ctL R) (by rw [HLMD.out]; rfl)
                  have oB : OI V3 w.heap.size (.slice aB 30 cB) MB := by rw [← hMB]; exact HMO.out 1 (.slice aB 30 cB, ctD R) (by rw [HLMD.out]; rfl)
                  have oG : OI V3 w.heap.size (.slice aG 286 cG) MG := by rw [← hMG]; exact HMO.out 2 (.slice aG 286 cG, trL R) (by rw [HLMD.out]; rfl)
                  have oH : OI V3 w.heap.size (.slice aH 30 cH) MH := by rw [← hMH]; exact HMO.out 3 (.slice aH 30 cH, trD R) (by rw [HLMD.out]; rfl)
                  have HML4 : Hid (MA.length = 286 ∧ MB.length = 30 ∧ MG.length = 286 ∧ MH.length = 30) := by
                    have f := HCF.out
                    rw [← hMA, ← hMB, ← hMG, ← hMH]
                    simp only [List.length_replicate]
                    exact ⟨f.1.2.1, f.1.2.2.1, f.1.2.2.2.1, f.1.2.2.2.2⟩
                  have hre : OwI w V3 [(.slice aA 286 cA, MA), (.slice aB 30 cB, MB), (.slice aG 286 cG, MG), (.slice aH 30 cH, MH), (.slice aP 286 cP, ctL RH), (.slice aQ 30 cQ, ctD RH), (.slice aS 286 cS, trL RH), (.slice aT 30 cT, trD RH), (.slice aC 286 cC, ctL R), (.slice aD 30 cD, ctD R), (.slice aJ 286 cJ, trL R), (.slice aK 30 cK, trD R)] := by
                    refine HBA9.out.own.re HBV3.out (by rw [HLS.out]; rfl) ?_
                    intro i v l e
                    have hi := (List.getElem?_eq_some_iff.1 e).1
                    simp at hi
                    match i, hi, e with
                    | 0, _, e => cases Option.some.inj e; exact oA
                    | 1, _, e => cases Option.some.inj e; exact oB
                    | 2, _, e => cases Option.some.inj e; exact oG
                    | 3, _, e => cases Option.some.inj e; exact oH
                    | 4, _, e => exact HOT.out 4 v l (by omega) (by rw [HLS.out]; exact e)
                    | 5, _, e => exact HOT.out 5 v l (by omega) (by rw [HLS.out]; exact e)
                    | 6, _, e => exact HOT.out 6 v l (by omega) (by rw [HLS.out]; exact e)
                    | 7, _, e => exact HOT.out 7 v l (by omega) (by rw [HLS.out]; exact e)
                    | 8, _, e => exact HOT.out 8 v l (by omega) (by rw [HLS.out]; exact e)
                    | 9, _, e => exact HOT.out 9 v l (by omega) (by rw [HLS.out]; exact e)
                    | 10, _, e => exact HOT.out 10 v l (by omega) (by rw [HLS.out]; exact e)
                    | 11, _, e => exact HOT.out 11 v l (by omega) (by rw [HLS.out]; exact e)
                  have hr2 := (hre.low (below_drewN (Below.refl _ _) n)).pick (.bool false, []) [0, 1, 8, 9, 2, 3, 10, 11, 4, 5, 6, 7] (by decide) (by intro i hi; simp at hi ⊢; omega)
                  obtain ⟨LO, hLO⟩ : ∃ X : List (Value × List Int), X = [(.slice aA 286 cA, MA), (.slice aB 30 cB, MB), (.slice aC 286 cC, ctL R), (.slice aD 30 cD, ctD R), (.slice aG 286 cG, MG), (.slice aH 30 cH, MH), (.slice aJ 286 cJ, trL R), (.slice aK 30 cK, trD R), (.slice aP 286 cP, ctL RH), (.slice aQ 30 cQ, ctD RH), (.slice aS 286 cS, trL RH), (.slice aT 30 cT, trD RH)] := ⟨_, rfl⟩
                  have hown9 : OwI w (V3.drewN n) LO := by rw [hLO]; exact hr2
                  have hlo : LO.length = 12 := by rw [hLO]; rfl
                  have HPO : Hid (∀ p ∈ LO, p.2.length ≤ 286) := by
                    intro p hp
                    rw [hLO] at hp
                    have f := HCF.out
                    have g := HML4.out
                    simp only [List.mem_cons, List.not_mem_nil, or_false] at hp
                    rcases hp with rfl | rfl | rfl | rfl | rfl | rfl | rfl | rfl | rfl | rfl | rfl | rfl <;> simp only [f.1.2.1, f.1.2.2.1, f.1.2.2.2.1, f.1.2.2.2.2, f.2.2.1, f.2.2.2.1, f.2.2.2.2.1, f.2.2.2.2.2, g.1, g.2.1, g.2.2.1, g.2.2.2] <;> omega
                  have HNO : Hid (∀ p ∈ LO, p.1.ownBlock ≠ some gG) := by
                    intro p hp
                    have hk := fun i l (e : LS[i]? = some (p.1, l)) => (HBA9.out.ng i p.1 l e).1
                    rw [hLO] at hp
                    rw [HLS.out] at hk
                    simp only [List.mem_cons, List.not_mem_nil, or_false] at hp
                    rcases hp with rfl | rfl | rfl | rfl | rfl | rfl | rfl | rfl | rfl | rfl | rfl | rfl
                    · exact hk 0 _ rfl
                    · exact hk 1 _ rfl
                    · exact hk 8 _ rfl
                    · exact hk 9 _ rfl
                    · exact hk 2 _ rfl
                    · exact hk 3 _ rfl
                    · exact hk 10 _ rfl
                    · exact hk 11 _ rfl
                    · exact hk 4 _ rfl
                    · exact hk 5 _ rfl
                    · exact hk 6 _ rfl
                    · exact hk 7 _ rfl
                  have hLo := hown9.lists (by omega) (fun p hp => by have := HPO.out p hp; omega)
                  have hrow9 : (LO.map (·.1)).toArray = #[.slice aA 286 cA, .slice aB 30 cB, .slice aC 286 cC, .slice aD 30 cD, .slice aG 286 cG, .slice aH 30 cH, .slice aJ 286 cJ, .slice aK 30 cK, .slice aP 286 cP, .slice aQ 30 cQ, .slice aS 286 cS, .slice aT 30 cT] := by rw [hLO]; rfl
                  rw [hrow9] at hLo
                  obtain ⟨V5, hV5⟩ : ∃ W, (V3.drewN n).alloc (.cells #[.slice aA 286 cA, .slice aB 30 cB, .slice aC 286 cC, .slice aD 30 cD, .slice aG 286 cG, .slice aH 30 cH, .slice aJ 286 cJ, .slice aK 30 cK, .slice aP 286 cP, .slice aQ 30 cQ, .slice aS 286 cS, .slice aT 30 cT] 26) = W := ⟨_, rfl⟩
                  rw [hV5] at hLo
                  have HB5 : Hid (Below (V3.drewN n).heap.size (V3.drewN n) V5) := by rw [← hV5]; exact (Below.refl _ _).alloc (Nat.le_refl _) _
                  have HOW5 := hide (hown9.low HB5.out)
                  have HOWN := hide (own10_walk V5 w.heap.size (V3.drewN n).heap.size 12 (some ⟨(V3.drewN n).heap.size, 0, none⟩) LO hLo (fun _ => rfl))
                  rw [hlo] at HOWN
                  have HT5 : Hid (TBr V5 gG (List.replicate R.length ((-9 : Int), (0 : Int), (0 : Int))) (fr3 (List.replicate 9 m7))) := (show TBr (V3.drewN n) gG _ _ from HT9.out).low HB5.out
                  clear oA oB oG oH hre hr2 hown9 hLo hrow9 hMA hMB hMG hMH hLO hlo
                  go_wp2_with fail
                  refine HOWN.out.mono ?_
                  rintro e w30 ⟨rfl, hK30⟩
                  have HB30 := hide (HOW5.out.kept hK30)
                  have ht30 : TBr w30 gG (List.replicate R.length ((-9 : Int), (0 : Int), (0 : Int))) (fr3 (List.replicate 9 m7)) := (hK30.block gG HT5.out.lt HNO.out).trans HT5.out
                  have HOV := hide (overwritten_any gG (R.length + 9) w.heap.size _ _ w30 ht30 (by simp; omega) (by simp; omega) HBA9.out.up.1 (HTB.out _ HB30.out) (fun w' hb => HTB.out _ (HB30.out.trans hb)))
                  rw [List.length_replicate] at HOV
                  clear hK30 ht30 HOWN
                  go_wp2_with fail
                  refine HOV.out.mono ?_
                  rintro e w31 ⟨rfl, b31⟩
                  have HB31 := hide (HB30.out.trans b31)
                  clear b31 HOV
                  go_wp2
                  go_ret
                  exact ⟨rfl, HB31.out⟩
end Go.Proofs.YtknjblgnjoocbaaDoor

