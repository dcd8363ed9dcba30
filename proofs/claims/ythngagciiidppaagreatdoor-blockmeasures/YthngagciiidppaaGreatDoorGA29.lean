import Derived.Test.YthngagciiidppaaGreatDoorGA28
import Derived.Test.YthngagciiidppaaGreatDoorGA25
import Derived.Deep.RegionWith
import Derived.Deep.RegionHeld3
import Derived.Test.YthngagciiidppaaGreatDoorGA27
namespace Go.Proofs.YthngagciiidppaaGreatDoor
open Go.RowKit Go.Maps
set_option maxRecDepth 20000
set_option linter.unusedVariables false

theorem lnm_any (w : World) (x : Int) : Calls Tryz.prog 7 #[.int .i64 x] w fun e w' => e = .returned (.int .i64 x) ∧ w' = w := by
  go_enter Tryz.func7, Tryz.ntmps7
  go_wp2
  go_ret
  exact ⟨rfl, rfl⟩

def Mrl (l d L D C : List Int) (R : List Rn) (Z : Int) : Prop := (mkE l d = 0 ∧ L = mkL l ∧ D = mkD d ∧ C = mkC l d ∧ R = mkR l d ∧ Z = mkZ l d) ∨ (mkE l d ≠ 0 ∧ L = [] ∧ D = [] ∧ C = [] ∧ R = [] ∧ Z = 0)

theorem mrl_one {l d L D C L' D' C' : List Int} {R R' : List Rn} {Z Z' : Int} (h : Mrl l d L D C R Z) (h' : Mrl l d L' D' C' R' Z') : L' = L ∧ D' = D ∧ C' = C ∧ R' = R ∧ Z' = Z := by
  rcases h with ⟨e, rfl, rfl, rfl, rfl, rfl⟩ | ⟨e, rfl, rfl, rfl, rfl, rfl⟩ <;> rcases h' with ⟨e', rfl, rfl, rfl, rfl, rfl⟩ | ⟨e', rfl, rfl, rfl, rfl, rfl⟩
  · exact ⟨rfl, rfl, rfl, rfl, rfl⟩
  · exact absurd e e'
  · exact absurd e' e
  · exact ⟨rfl, rfl, rfl, rfl, rfl⟩

def Mrs (w w' : World) (l d : List Int) (e : Ending) : Prop := ∃ aL cL aD cD aC cC aR cR L D C R Z, Mrl l d L D C R Z ∧ e = .returned (.tuple #[.agg #[.slice aL L.length cL, .slice aD D.length cD, .slice aC C.length cC, .slice aR R.length cR, .int .i64 Z], .int .i64 (mkE l d)]) ∧ Mkd w' w.heap.size (.slice aL L.length cL) (.slice aD D.length cD) (.slice aC C.length cC) (.slice aR R.length cR) L D C R

theorem mrs_of {w w' : World} {l d : List Int} {e : Ending} (h : (mkE l d ≠ 0 ∧ MkNo (mkE l d) e) ∨ (mkE l d = 0 ∧ MkYes w w' l d e)) : Mrs w w' l d e := by
  rcases h with ⟨h, hn⟩ | ⟨h, vL, vD, vC, vR, he, hm⟩
  · exact ⟨none, 0, none, 0, none, 0, none, 0, [], [], [], [], 0, .inr ⟨h, rfl, rfl, rfl, rfl, rfl⟩, hn, World.ownsRow_nil _ _ _ _, World.ownsRow_nil _ _ _ _, World.ownsRow_nil _ _ _ _, OR.nil _ _⟩
  · obtain ⟨aL, cL, rfl⟩ := hm.l.shape
    obtain ⟨aD, cD, rfl⟩ := hm.d.shape
    obtain ⟨aC, cC, rfl⟩ := hm.c.shape
    obtain ⟨aR, cR, rfl, _⟩ := hm.r.shape
    exact ⟨aL, cL, aD, cD, aC, cC, aR, cR, _, _, _, _, _, .inl ⟨h, rfl, rfl, rfl, rfl, rfl⟩, by rw [he, h], hm⟩
end Go.Proofs.YthngagciiidppaaGreatDoor

namespace Go.Proofs.YthngagciiidppaaGreatDoor
open Go.RowKit Go.Maps
set_option maxRecDepth 20000
set_option linter.unusedVariables false

theorem SI.front {w : World} {a : Option Addr} {n c m : Nat} {P : List Int} (h : SI w (.slice a n c) P) (hm : m ≤ P.length) : SI w (.slice a m c) (P.take m) := by
  obtain ⟨ao, cap, he, h1, h2, h3, h4⟩ := h
  simp only [Value.slice.injEq] at he
  obtain ⟨rfl, rfl, rfl⟩ := he
  have hl : (P.take m).length = m := by rw [List.length_take]; omega
  refine ⟨a, c, by rw [hl], by rw [hl]; omega, h2, h3, fun x hx i hi => ?_⟩
  rw [hl] at hi
  have e : (P.take m).getD i 0 = P.getD i 0 := by
    simp only [List.getD_eq_getElem?_getD]
    rw [List.getElem?_take_of_lt hi]
  rw [e]
  exact h4 x hx i (by omega)

set_option maxHeartbeats 4000000 in
theorem bodySize_any (vf vg vp vq : Value) (F G P Q : List Int) (w : World) (sf : SI w vf F) (sg : SI w vg G) (sp : SI w vp P) (sq : SI w vq Q) (hF : F.length = 286) (hG : G.length = 30) (hP : 286 ≤ P.length) (hQ : 30 ≤ Q.length) (bF : Bd F 16777217) (bG : Bd G 16777217) (T : Ltab w ∧ Dtab w) :
    Calls Tryz.prog 12 #[.agg #[vf, vg], .agg #[vp, vq]] w fun e w' => e = .returned (.int .i64 (bdz F G P Q)) ∧ Below w.heap.size w w' := by
  obtain ⟨af, cf, rfl, hcf, hcf2⟩ := sf.open
  obtain ⟨ag, cg, rfl, hcg, hcg2⟩ := sg.open
  obtain ⟨ap, cp, rfl, hcp, hcp2⟩ := sp.open
  obtain ⟨aq, cq, rfl, hcq, hcq2⟩ := sq.open
  obtain ⟨nF, hnF⟩ : ∃ n, n = F.length := ⟨_, rfl⟩
  obtain ⟨nG, hnG⟩ : ∃ n, n = G.length := ⟨_, rfl⟩
  obtain ⟨nP, hnP⟩ : ∃ n, n = P.length := ⟨_, rfl⟩
  obtain ⟨nQ, hnQ⟩ : ∃ n, n = Q.length := ⟨_, rfl⟩
  rw [← hnF] at sf hcf ⊢
  rw [← hnG] at sg hcg ⊢
  rw [← hnP] at sp hcp ⊢
  rw [← hnQ] at sq hcq ⊢
  obtain ⟨wa, hwa⟩ : ∃ wa, w.alloc (.cells #[.slice af nF cf, .slice ag nG cg] 38) = wa := ⟨_, rfl⟩
  obtain ⟨wb, hwb⟩ : ∃ wb, wa.alloc (.cells #[.slice ap nP cp, .slice aq nQ cq] 38) = wb := ⟨_, rfl⟩
  have b1 : Below w.heap.size w wa := by rw [← hwa]; exact (Below.refl _ _).alloc (Nat.le_refl _) _
  have HB : Hid (Below w.heap.size w wb) := by show Below _ _ _; rw [← hwb]; exact b1.alloc b1.size _
  have s1 : wa.heap.size = w.heap.size + 1 := by rw [← hwa]; simp
  have s2 : wb.heap.size = w.heap.size + 1 + 1 := by rw [← hwb]; simp [s1]
  have n1 : wb.heap[w.heap.size]? = some (.cells #[.slice af nF cf, .slice ag nG cg] 38 (0, 0)) := by rw [← hwb, alloc_at, if_neg (by omega), ← hwa, alloc_at, if_pos rfl]
  have n2 : wb.heap[w.heap.size + 1]? = some (.cells #[.slice ap nP cp, .slice aq nQ cq] 38 (0, 0)) := by rw [← hwb, alloc_at, if_pos s1.symm]
  have d1 : wb.cell? ⟨w.heap.size, 0, none⟩ = some (.slice af nF cf) := by unfold World.cell?; rw [n1]; rfl
  have d2 : wb.cell? ⟨w.heap.size, 1, none⟩ = some (.slice ag nG cg) := by unfold World.cell?; rw [n1]; rfl
  have d3 : wb.cell? ⟨w.heap.size + 1, 0, none⟩ = some (.slice ap nP cp) := by unfold World.cell?; rw [n2]; rfl
  have d4 : wb.cell? ⟨w.heap.size + 1, 1, none⟩ = some (.slice aq nQ cq) := by unfold World.cell?; rw [n2]; rfl
  have HSF := hide (sf.below HB.out)
  have HSG := hide (sg.below HB.out)
  have HSP := hide ((sp.below HB.out).front (m := 286) hP)
  have HSQ := hide ((sq.below HB.out).front (m := 30) hQ)
  obtain ⟨A, HA⟩ : ∃ A, Hid (A = cstV F (P.take 286)) := ⟨_, rfl⟩
  obtain ⟨B, HBB⟩ : ∃ A, Hid (A = cstV G (Q.take 30)) := ⟨_, rfl⟩
  obtain ⟨C, HCC⟩ : ∃ A, Hid (A = fzL F 29 + fzD G 30) := ⟨_, rfl⟩
  have hA := cstV_bd F (P.take 286)
  have hB := cstV_bd G (Q.take 30)
  have hC1 := fzL_bd bF 29 (by omega)
  have hC2 := fzD_bd bG 30 (by omega)
  have hC : 0 ≤ C ∧ C ≤ 100000000000 := by rw [HCC.out]; omega
  rw [← HA.out] at hA
  rw [← HBB.out] at hB
  have HZ : Hid (bdz F G P Q = A + B + C) := by show _ = _; unfold bdz; rw [HA.out, HBB.out, HCC.out]
  have HC1 : Hid (∀ n, Calls Tryz.prog 26 #[.slice af nF cf, .slice ap 286 cp] (wb.drewN n) fun e w' => e = .returned (.tuple #[.int .i64 A, .int .i64 (cstE F (P.take 286))]) ∧ ∃ q, w' = wb.drewN q) := fun n => by
    have := cost_any _ _ F (P.take 286) (wb.drewN n) (HSF.out.below (below_drewN (Below.refl _ _) _)) (HSP.out.below (below_drewN (Below.refl _ _) _))
    rw [← HA.out] at this
    exact this.mono fun e w' ⟨h1, q, h2⟩ => ⟨h1, n + q, by rw [h2, World.drewN_drewN]⟩
  have HC2 : Hid (∀ m n, Calls Tryz.prog 26 #[.slice ag nG cg, .slice aq 30 cq] ((wb.drewN m).drewN n) fun e w' => e = .returned (.tuple #[.int .i64 B, .int .i64 (cstE G (Q.take 30))]) ∧ ∃ q, w' = (wb.drewN m).drewN q) := fun m n => by
    have := cost_any _ _ G (Q.take 30) ((wb.drewN m).drewN n) ((HSG.out.below (below_drewN (Below.refl _ _) _)).below (below_drewN (Below.refl _ _) _)) ((HSQ.out.below (below_drewN (Below.refl _ _) _)).below (below_drewN (Below.refl _ _) _))
    rw [← HBB.out] at this
    exact this.mono fun e w' ⟨h1, q, h2⟩ => ⟨h1, n + q, by rw [h2]; simp only [World.drewN_drewN, Nat.add_assoc]⟩
  have HFS : Hid (∀ wx, Below wb.heap.size wb wx → Calls Tryz.prog 27 #[.agg #[.slice af nF cf, .slice ag nG cg]] wx fun e w' => e = .returned (.int .i64 C) ∧ Below wx.heap.size wx w') := fun wx q => by
    have := furtherSize_any _ _ F G wx (HSF.out.below q) (HSG.out.below q) hF hG bF bG ⟨(T.1.low HB.out).low q, (T.2.low HB.out).low q⟩
    rw [← HCC.out] at this
    exact this
  obtain ⟨E1, HE1⟩ : ∃ E, Hid (E = cstE F (P.take 286)) := ⟨_, rfl⟩
  obtain ⟨E2, HE2⟩ : ∃ E, Hid (E = cstE G (Q.take 30)) := ⟨_, rfl⟩
  rw [← HE1.out] at HC1
  rw [← HE2.out] at HC2
  have hp1 : 286 ≤ cp := by omega
  have hq1 : 30 ≤ cq := by omega
  have hp2 : (286 : Int) ≤ (cp : Int) := by omega
  have hq2 : (30 : Int) ≤ (cq : Int) := by omega
  obtain ⟨r, hr⟩ : ∃ r, w.heap.size + 1 = r := ⟨_, rfl⟩
  have HD : Hid (∀ n, (wb.drewN n).cell? ⟨w.heap.size, 0, none⟩ = some (.slice af nF cf) ∧ (wb.drewN n).cell? ⟨w.heap.size, 1, none⟩ = some (.slice ag nG cg)) := fun n => ⟨d1, d2⟩
  rw [hr] at d3 d4
  have HD2 : Hid (∀ n, (wb.drewN n).cell? ⟨r, 0, none⟩ = some (.slice ap nP cp) ∧ (wb.drewN n).cell? ⟨r, 1, none⟩ = some (.slice aq nQ cq)) := fun n => ⟨d3, d4⟩
  have HR := hide hr
  clear sf sg sp sq n1 n2 hnF hnG hnP hnQ hC1 hC2 HSF HSG HSP HSQ s2 b1
  go_enter Tryz.func12, Tryz.ntmps12
  go_wp2
  go_quiet (first | (go_at_call 26; exact HC1.out _))
  go_wp2
  obtain ⟨wc, hwc⟩ : ∃ wc, wb.drewN nq = wc := ⟨_, rfl⟩
  have HCC2 := hide (HC2.out nq)
  obtain ⟨e1, e2⟩ := HD.out nq
  obtain ⟨e3, e4⟩ := HD2.out nq
  have HBC : Hid (Below wb.heap.size wb (wb.drewN nq)) := below_drewN (Below.refl _ _) _
  rw [hwc] at HCC2 e1 e2 e3 e4 HBC ⊢
  clear hwc HC1 HC2 d1 d2 d3 d4 hwa hwb
  go_quiet (first | (go_at_call 26; exact HCC2.out _))
  have HBD := hide (HBC.out.trans ((below_drewN (Below.refl wc.heap.size wc) nq).mono HBC.out.size))
  have HFC := hide (HFS.out _ HBD.out)
  go_wp2_with fail
  refine HFC.out.mono ?_
  rintro e w3 ⟨rfl, b3⟩
  have HB3 := hide (HB.out.trans ((HBD.out.trans (b3.mono HBD.out.size)).mono HB.out.size))
  clear b3 HFC HFS
  go_wp2
  go_ret
  rw [HZ.out]
  exact ⟨rfl, HB3.out⟩
end Go.Proofs.YthngagciiidppaaGreatDoor

namespace Go.Proofs.YthngagciiidppaaGreatDoor
open Go.RowKit Go.Maps
set_option maxRecDepth 20000
set_option linter.unusedVariables false

set_option maxHeartbeats 4000000 in
theorem said_any (v : Value) (R : List Tk) (w : World) (h : SK w v R) (hn : R.length ≤ 5864062014805) :
    Calls Tryz.prog 9 #[v] w fun e w' => e = .returned (.tuple #[.int .i64 (sdN R), .int .i64 (sdE R)]) ∧ Below w.heap.size w w' := by
  have HS := hide h
  have HAS := hide (allSound_any v R w h)
  obtain ⟨ao, cap, rfl, hlc, hcm⟩ := h.open
  have hmx : R.length ≤ 9223372036854775807 := by omega
  clear h
  go_enter Tryz.func9, Tryz.ntmps9
  go_wp2_with fail
  refine HAS.out.mono ?_
  rintro e w1 ⟨rfl, b1⟩
  have HB1 := hide b1
  clear b1 HAS
  by_cases ha : asnd R = true
  case neg =>
    have ha' : asnd R = false := by simpa using ha
    have HE : Hid (sdE R = 100) := by show _ = _; unfold sdE; rw [ha']; rfl
    have HN : Hid (sdN R = 0) := by show _ = _; unfold sdN; rw [ha']; rfl
    rw [ha']
    clear ha ha'
    go_wp2
    refine bodyPost_ret (results_tmp2 rfl _ _ _) rfl ?_
    rw [HE.out, HN.out]
    exact ⟨rfl, HB1.out⟩
  have HA := hide ha
  rw [ha]
  clear ha
  go_wp2
  go_loopw [4, 12] (fun s t wr => ∃ (k : Nat) (m : Int), k ≤ R.length ∧ t = .int .i64 (k : Int) ∧ s = .int .i64 m ∧ Hid (m = lsay (R.take k)) ∧ Hid (Below w.heap.size w wr)) (fun _ t _ => R.length - (intOf t).toNat)
  case atStart => exact ⟨0, 0, Nat.zero_le _, rfl, rfl, rfl, HB1⟩
  case round =>
    obtain ⟨k, m, hk, rfl, rfl, HM, HB⟩ := hrel
    have hm := lsay_in (R.take k) (asnd_take' HA.out k)
    rw [← HM.out, List.length_take] at hm
    have hm0 : 0 ≤ m := hm.1
    have hm1 : m ≤ 1512928000000000 := by have := hm.2; omega
    clear hm
    by_cases hlt : k < R.length
    · have hlt' : (k : Int) < (R.length : Int) := by omega
      obtain ⟨b, o, rfl, c0, c1, c2⟩ := HS.out.get HB.out hlt
      have HNX := hide (lsay_take hlt)
      have hsn : Snd (R.getD k tk0) := by
        have h1 := asnd_take' HA.out (k + 1)
        rw [asnd_snoc hlt] at h1
        simp only [Bool.and_eq_true] at h1
        exact of_decide_eq_true h1.2
      obtain ⟨⟨t1, t2, t3⟩, ht⟩ : ∃ t, R.getD k tk0 = t := ⟨_, rfl⟩
      rw [ht] at c0 c1 c2 HNX hsn
      simp only at c0 c1 c2
      rw [← HM.out] at HNX
      clear ht
      obtain ⟨wa, hwa⟩ : ∃ wa, wr.alloc (.cells #[.int .i64 t1, .int .i64 t2, .int .u8 t3] 56) = wa := ⟨_, rfl⟩
      have HBa : Hid (Below w.heap.size w wa) := by show Below _ _ _; rw [← hwa]; exact HB.out.alloc HB.out.size _
      have e0 : wa.cell? ⟨wr.heap.size, 0, none⟩ = some (.int .i64 t1) := by rw [← hwa]; unfold World.cell?; simp only [heap_alloc_new]; rfl
      unfold Snd at hsn
      simp only at hsn
      by_cases h0 : t1 = 0
      · subst h0
        have HN1 : Hid (m + 1 = lsay (R.take (k + 1))) := by show _ = _; rw [HNX.out]; rfl
        clear hsn
        go_wp2
        go_roundw
        case rel => exact ⟨k + 1, m + 1, by omega, by go_num, by go_num, HN1, HBa⟩
        case measure => simp [intOf]; omega
      · rw [if_neg h0] at hsn
        have h1 : 1 < t1 := by omega
        have h2 : t1 ≤ 258 := by omega
        have h3 : ¬ t1 < 1 := by omega
        have HN1 : Hid (m + t1 = lsay (R.take (k + 1))) := by show _ = _; rw [HNX.out]; unfold lsayT; rw [if_neg h0]
        clear hsn h0
        go_wp2
        go_roundw
        case rel => exact ⟨k + 1, m + t1, by omega, by go_num, by go_num, HN1, HBa⟩
        case measure => simp [intOf]; omega
    · obtain rfl : k = R.length := by omega
      have hlt' : ¬ (R.length : Int) < (R.length : Int) := by omega
      have HMM : Hid (m = lsay R) := by have := HM.out; rw [List.take_of_length_le (Nat.le_refl _)] at this; exact this
      by_cases hb : 65535 < m
      · have HE : Hid (sdE R = 102) := by show _ = _; unfold sdE; rw [HA.out, if_pos rfl, if_pos (by rw [← HMM.out]; exact hb)]
        have HN : Hid (sdN R = 0) := by show _ = _; unfold sdN; rw [HA.out, if_pos rfl, if_pos (by rw [← HMM.out]; exact hb)]
        go_wp2
        refine bodyPost_ret (results_tmp2 rfl _ _ _) rfl ?_
        rw [HE.out, HN.out]
        exact ⟨rfl, HB.out⟩
      · have HE : Hid (sdE R = 0) := by show _ = _; unfold sdE; rw [HA.out, if_pos rfl, if_neg (by rw [← HMM.out]; exact hb)]
        have HN : Hid (sdN R = m) := by show _ = _; unfold sdN; rw [HA.out, if_pos rfl, if_neg (by rw [← HMM.out]; exact hb)]; exact HMM.out.symm
        go_wp2
        refine bodyPost_ret (results_tmp2 rfl _ _ _) rfl ?_
        rw [HE.out, HN.out]
        exact ⟨rfl, HB.out⟩

theorem fixed_any (w : World) : Calls Tryz.prog 13 #[] w fun e w' => ∃ a1 c1 a2 c2, e = .returned (.agg #[.slice a1 288 c1, .slice a2 32 c2]) ∧ SI w' (.slice a1 288 c1) (fxL 288) ∧ SI w' (.slice a2 32 c2) (List.replicate 32 5) ∧ Below w.heap.size w w' := by
  obtain ⟨wb, hwb⟩ : ∃ wb, w.alloc (.cells #[.slice none 0 0, .slice none 0 0] 38) = wb := ⟨_, rfl⟩
  have HB1 : Hid (Below w.heap.size w wb) := by rw [← hwb]; exact (Below.refl _ _).alloc (Nat.le_refl _) _
  have HN1 : Hid (wb.heap[w.heap.size]? = some (.cells #[.slice none 0 0, .slice none 0 0] 38 (0, 0))) := by rw [← hwb]; exact heap_alloc_new w _
  have HL := hide (fixedLit_any wb)
  have HDI : Hid (∀ wx, Calls Tryz.prog 29 #[] wx fun e w' => Fresh wx (List.replicate 32 5) e w') := fun wx => fixedDist_any wx
  go_enter Tryz.func13, Tryz.ntmps13
  go_wp2_with fail
  refine HL.out.mono ?_
  rintro e w2 ⟨a1, c1, rfl, o2, b2⟩
  have HO2 := hide o2
  have HB2 := hide (HB1.out.trans (b2.mono HB1.out.size))
  have HN2 := hide ((b2.block w.heap.size (lt_of_block HN1.out)).trans HN1.out)
  clear o2 b2 HL
  go_wp2_with fail
  refine (HDI.out w2).mono ?_
  rintro e w3 ⟨a2, c2, rfl, o3, b3⟩
  have HB3 := hide (HB2.out.trans (b3.mono HB2.out.size))
  have HN3 := hide ((b3.block w.heap.size (lt_of_block HN2.out)).trans HN2.out)
  have r0 : w3.cell? ⟨w.heap.size, 0, none⟩ = some (.slice none 0 0) := by unfold World.cell?; rw [HN3.out]; rfl
  have r1 : w3.cell? ⟨w.heap.size, 1, none⟩ = some (.slice none 0 0) := by unfold World.cell?; rw [HN3.out]; rfl
  have r2 : w3.frozen? ⟨w.heap.size, 0, none⟩ = false := frozen_of_row _ _ _ _ _ HN3.out
  have r3 : w3.frozen? ⟨w.heap.size, 1, none⟩ = false := frozen_of_row _ _ _ _ _ HN3.out
  have hl1 : (fxL 288).length = 288 := fxL_len 288
  have hl2 : (List.replicate 32 (5 : Int)).length = 32 := by simp
  rw [hl1] at HO2 ⊢
  rw [hl2] at o3 ⊢
  have HP2 := hide (HO2.out.move fun k hk => b3.block k (HO2.out.lt k hk).2)
  have HO3 := hide o3
  have hsz : w.heap.size < wb.heap.size := lt_of_block HN1.out
  have hk1 : ∀ k, (Value.slice a1 288 c1).ownBlock = some k → k ≠ w.heap.size := fun k hk => by have := (HO2.out.lt k hk).1; omega
  have hk2 : ∀ k, (Value.slice a2 32 c2).ownBlock = some k → k ≠ w.heap.size := fun k hk => by have := (o3.lt k hk).1; have := lt_of_block HN2.out; omega
  obtain ⟨wf, hwf⟩ : ∃ wf, (w3.setCell ⟨w.heap.size, 0, none⟩ (.slice a1 288 c1)).setCell ⟨w.heap.size, 1, none⟩ (.slice a2 32 c2) = wf := ⟨_, rfl⟩
  have hoth : ∀ k, k ≠ w.heap.size → wf.heap[k]? = w3.heap[k]? := fun k hk => by rw [← hwf, setCell_others _ _ _ _ _ hk, setCell_others _ _ _ _ _ hk]
  have HBF : Hid (Below w.heap.size w wf) := by rw [← hwf]; exact (HB3.out.setCell (p := ⟨w.heap.size, 0, none⟩) (Nat.le_refl _) _).setCell (p := ⟨w.heap.size, 1, none⟩) (Nat.le_refl _) _
  have HLF := hide (HP2.out.move fun k hk => hoth k (hk1 k hk)).sb
  have HDF := hide (HO3.out.move fun k hk => hoth k (hk2 k hk)).sb
  have hfb : wf.heap[w.heap.size]? = some (.cells #[.slice a1 288 c1, .slice a2 32 c2] 38 (0, 0)) := by
    have h1 := heap_setCell_same w3 w.heap.size 0 _ _ (.slice a1 288 c1) HN3.out
    have h2 := heap_setCell_same _ w.heap.size 1 _ _ (.slice a2 32 c2) h1
    rw [hwf] at h2
    simpa using h2
  have f0 : wf.cell? ⟨w.heap.size, 0, none⟩ = some (.slice a1 288 c1) := by unfold World.cell?; rw [hfb]; rfl
  have f1 : wf.cell? ⟨w.heap.size, 1, none⟩ = some (.slice a2 32 c2) := by unfold World.cell?; rw [hfb]; rfl
  clear hoth hfb hk1 hk2 o3 b3 HO2 HP2 HO3 hl1 hl2
  go_wp2
  refine bodyPost_ret (v := .agg #[.slice a1 288 c1, .slice a2 32 c2]) (by simp [results, Tryz.results13, go_sem, f0, f1]) rfl ?_
  exact ⟨_, _, _, _, rfl, HLF.out, HDF.out, HBF.out⟩
end Go.Proofs.YthngagciiidppaaGreatDoor

namespace Go.Proofs.YthngagciiidppaaGreatDoor
open Go.RowKit Go.Maps
set_option linter.unusedVariables false

/-- The first n lengths of the small code, as bits. -/
def hdS (C : List Int) : Nat → List Int
  | 0 => []
  | n + 1 => hdS C n ++ bts (C.getD (zor.getD n 0).toNat 0) 3
/-- The runs, as bits: the word of each ('wb' of the code's own texts, by its definition), and how many above the least. -/
def hdR (C : List Int) : List Rn → List Int
  | [] => []
  | r :: R => (bts (wd C r.1.toNat) (ln C r.1.toNat)).reverse ++ bts (r.2 - lst r.1) (frt r.1) ++ hdR C R
/-- The header, as bits. -/
def hdB (L D C : List Int) (R : List Rn) : List Int := bts ((L.length : Int) - 257) 5 ++ bts ((D.length : Int) - 1) 5 ++ bts ((wrt C : Int) - 4) 4 ++ hdS C (wrt C) ++ hdR C R

theorem hdS_len (C : List Int) (n : Nat) : (hdS C n).length = 3 * n := by
  induction n with
  | zero => rfl
  | succ n ih => simp only [hdS, List.length_append, ih, length_bts]; omega

theorem hdR_len {C : List Int} (hC : ∀ s, 0 ≤ C.getD s 0) (R : List Rn) : ((hdR C R).length : Int) = rsz C R := by
  induction R with
  | nil => rfl
  | cons r R ih =>
    have h : ((ln C r.1.toNat : Nat) : Int) = C.getD r.1.toNat 0 := by unfold ln; have := hC r.1.toNat; omega
    simp only [hdR, rsz, List.length_append, List.length_reverse, length_bts]
    omega

/-- The header takes Size bits. -/
theorem hdB_len {L D C : List Int} {R : List Rn} (hC : ∀ s, 0 ≤ C.getD s 0) : ((hdB L D C R).length : Int) = hsz C R := by
  have h1 := hdS_len C (wrt C)
  have h2 := hdR_len hC R
  unfold hdB hsz
  simp only [List.length_append, length_bts]
  omega

theorem hdR_snoc (C : List Int) (R : List Rn) (r : Rn) : hdR C (R ++ [r]) = hdR C R ++ ((bts (wd C r.1.toNat) (ln C r.1.toNat)).reverse ++ bts (r.2 - lst r.1) (frt r.1)) := by
  induction R with
  | nil => simp [hdR]
  | cons a R ih => simp only [List.cons_append, hdR, ih, List.append_assoc]
end Go.Proofs.YthngagciiidppaaGreatDoor

