import Derived.Test.YtfdhffcdkmklbaaDoorG22Mk5
import Derived.Test.YtfdhffcdkmklbaaDoorG19Fxc
import Derived.Deep.RegionWith
import Derived.Deep.RegionHeld3
import Derived.Test.YtfdhffcdkmklbaaDoorG21Mk4
import Derived.Test.YtfdhffcdkmklbaaDoorG20Chk
import Derived.Test.YtfdhffcdkmklbaaDoorG03Lsk
namespace Go.Proofs.YtfdhffcdkmklbaaDoor
open Go.RowKit Go.Maps
set_option maxRecDepth 20000
set_option linter.unusedVariables false

theorem lnm_any (w : World) (x : Int) : Calls Tryd.prog 10 #[.int .i64 x] w fun e w' => e = .returned (.int .i64 x) ∧ w' = w := by
  go_enter Tryd.func10, Tryd.ntmps10
  go_wp2
  go_ret
  exact ⟨rfl, rfl⟩

def Mrl (l d L D C : List Int) (R : List Rn) (Z : Int) : Prop := (mkE l d = 0 ∧ L = mkL l ∧ D = mkD d ∧ C = mkC l d ∧ R = mkR l d ∧ Z = mkZ l d) ∨ (mkE l d ≠ 0 ∧ L = [] ∧ D = [] ∧ C = [] ∧ R = [] ∧ Z = 0)

theorem mrl_one {l d L D C L' D' C' : List Int} {R R' : List Rn} {Z Z' : Int} (h : Mrl l d L D C R Z) (h' : Mrl l d L' D' C' R' Z') : L' = L ∧ D' = D ∧ C' = C ∧ R' = R ∧ Z' = Z := by
  rcases h with ⟨e, rfl, rfl, rfl, rfl, rfl⟩ | ⟨e, rfl, rfl, rfl, rfl, rfl⟩ <;> rcases h' with ⟨e', rfl, rfl, rfl, rfl, rfl⟩ | ⟨e', rfl, rfl, rfl, rfl, rfl⟩
  · exact ⟨rfl, rfl, rfl, rfl, rfl⟩
  · exact absurd e e'
  · exact absurd e' e
  · exact ⟨rfl, rfl, rfl, rfl, rfl⟩

def Mrs (w w' : World) (l d : List Int) (e : Ending) : Prop := ∃ aL cL aD cD aC cC aR cR L D C R Z, Mrl l d L D C R Z ∧ e = .returned (.tuple #[.agg #[.slice aL L.length cL, .slice aD D.length cD, .slice aC C.length cC, .slice aR R.length cR, .int .i64 Z], .int .i64 (mkE l d)]) ∧ Mkd w' w.heap.size (.slice aL L.length cL) (.slice aD D.length cD) (.slice aC C.length cC) (.slice aR R.length cR) L D C R

theorem mrs_of {w w' : World} {l d : List Int} {e : Ending} (h : (mkE l d ≠ 0 ∧ MkNo (mkE l d) e) ∨ (mkE l d = 0 ∧ MkYes w w' l d e)) : Mrs w w' l d e := by
  rcases h with ⟨h, hn⟩ | ⟨h, vL, vD, vC, vR, he, hm⟩
  · exact ⟨none, 0, none, 0, none, 0, none, 0, [], [], [], [], 0, .inr ⟨h, rfl, rfl, rfl, rfl, rfl⟩, hn, World.ownsRow_nil _ _ _ _, World.ownsRow_nil _ _ _ _, World.ownsRow_nil _ _ _ _, OR.nil _ _⟩
  · obtain ⟨aL, cL, rfl⟩ := hm.l.shape
    obtain ⟨aD, cD, rfl⟩ := hm.d.shape
    obtain ⟨aC, cC, rfl⟩ := hm.c.shape
    obtain ⟨aR, cR, rfl, _⟩ := hm.r.shape
    exact ⟨aL, cL, aD, cD, aC, cC, aR, cR, _, _, _, _, _, .inl ⟨h, rfl, rfl, rfl, rfl, rfl⟩, by rw [he, h], hm⟩
end Go.Proofs.YtfdhffcdkmklbaaDoor

namespace Go.Proofs.YtfdhffcdkmklbaaDoor
open Go.RowKit Go.Maps
set_option maxRecDepth 20000
set_option linter.unusedVariables false

theorem SI.front {w : World} {a : Option Addr} {n c m : Nat} {P : List Int} (h : SI w (.slice a n c) P) (hm : m ≤ P.length) : SI w (.slice a m c) (P.take m) := by
  obtain ⟨ao, cap, he, h1, h2, h3, h4⟩ := h
  simp only [Value.slice.injEq] at he
  obtain ⟨rfl, rfl, rfl⟩ := he
  have hl : (P.take m).length = m := by rw [List.length_take]; omega
  refine ⟨a, c, by rw [hl], by rw [hl]; omega, h2, h3, fun x hx i hi => ?_⟩
  rw [hl] at hi
  have e : (P.take m).getD i 0 = P.getD i 0 := by
    simp only [List.getD_eq_getElem?_getD]
    rw [List.getElem?_take_of_lt hi]
  rw [e]
  exact h4 x hx i (by omega)

set_option maxHeartbeats 4000000 in
theorem bodySize_any (vf vg vp vq : Value) (F G P Q : List Int) (w : World) (sf : SI w vf F) (sg : SI w vg G) (sp : SI w vp P) (sq : SI w vq Q) (hF : F.length = 286) (hG : G.length = 30) (hP : 286 ≤ P.length) (hQ : 30 ≤ Q.length) (bF : Bd F 16777217) (bG : Bd G 16777217) (T : Ltab w ∧ Dtab w) :
    Calls Tryd.prog 18 #[.agg #[vf, vg], .agg #[vp, vq]] w fun e w' => e = .returned (.int .i64 (bdz F G P Q)) ∧ Below w.heap.size w w' := by
  obtain ⟨af, cf, rfl, hcf, hcf2⟩ := sf.open
  obtain ⟨ag, cg, rfl, hcg, hcg2⟩ := sg.open
  obtain ⟨ap, cp, rfl, hcp, hcp2⟩ := sp.open
  obtain ⟨aq, cq, rfl, hcq, hcq2⟩ := sq.open
  obtain ⟨nF, hnF⟩ : ∃ n, n = F.length := ⟨_, rfl⟩
  obtain ⟨nG, hnG⟩ : ∃ n, n = G.length := ⟨_, rfl⟩
  obtain ⟨nP, hnP⟩ : ∃ n, n = P.length := ⟨_, rfl⟩
  obtain ⟨nQ, hnQ⟩ : ∃ n, n = Q.length := ⟨_, rfl⟩
  rw [← hnF] at sf hcf ⊢
  rw [← hnG] at sg hcg ⊢
  rw [← hnP] at sp hcp ⊢
  rw [← hnQ] at sq hcq ⊢
  obtain ⟨wa, hwa⟩ : ∃ wa, w.alloc (.cells #[.slice af nF cf, .slice ag nG cg] 49) = wa := ⟨_, rfl⟩
  obtain ⟨wb, hwb⟩ : ∃ wb, wa.alloc (.cells #[.slice ap nP cp, .slice aq nQ cq] 49) = wb := ⟨_, rfl⟩
  have b1 : Below w.heap.size w wa := by rw [← hwa]; exact (Below.refl _ _).alloc (Nat.le_refl _) _
  have HB : Hid (Below w.heap.size w wb) := by show Below _ _ _; rw [← hwb]; exact b1.alloc b1.size _
  have s1 : wa.heap.size = w.heap.size + 1 := by rw [← hwa]; simp
  have s2 : wb.heap.size = w.heap.size + 1 + 1 := by rw [← hwb]; simp [s1]
  have n1 : wb.heap[w.heap.size]? = some (.cells #[.slice af nF cf, .slice ag nG cg] 49 (0, 0)) := by rw [← hwb, alloc_at, if_neg (by omega), ← hwa, alloc_at, if_pos rfl]
  have n2 : wb.heap[w.heap.size + 1]? = some (.cells #[.slice ap nP cp, .slice aq nQ cq] 49 (0, 0)) := by rw [← hwb, alloc_at, if_pos s1.symm]
  have d1 : wb.cell? ⟨w.heap.size, 0, none⟩ = some (.slice af nF cf) := by unfold World.cell?; rw [n1]; rfl
  have d2 : wb.cell? ⟨w.heap.size, 1, none⟩ = some (.slice ag nG cg) := by unfold World.cell?; rw [n1]; rfl
  have d3 : wb.cell? ⟨w.heap.size + 1, 0, none⟩ = some (.slice ap nP cp) := by unfold World.cell?; rw [n2]; rfl
  have d4 : wb.cell? ⟨w.heap.size + 1, 1, none⟩ = some (.slice aq nQ cq) := by unfold World.cell?; rw [n2]; rfl
  have HSF := hide (sf.below HB.out)
  have HSG := hide (sg.below HB.out)
  have HSP := hide ((sp.below HB.out).front (m := 286) hP)
  have HSQ := hide ((sq.below HB.out).front (m := 30) hQ)
  obtain ⟨A, HA⟩ : ∃ A, Hid (A = cstV F (P.take 286)) := ⟨_, rfl⟩
  obtain ⟨B, HBB⟩ : ∃ A, Hid (A = cstV G (Q.take 30)) := ⟨_, rfl⟩
  obtain ⟨C, HCC⟩ : ∃ A, Hid (A = fzL F 29 + fzD G 30) := ⟨_, rfl⟩
  have hA := cstV_bd F (P.take 286)
  have hB := cstV_bd G (Q.take 30)
  have hC1 := fzL_bd bF 29 (by omega)
  have hC2 := fzD_bd bG 30 (by omega)
  have hC : 0 ≤ C ∧ C ≤ 100000000000 := by rw [HCC.out]; omega
  rw [← HA.out] at hA
  rw [← HBB.out] at hB
  have HZ : Hid (bdz F G P Q = A + B + C) := by show _ = _; unfold bdz; rw [HA.out, HBB.out, HCC.out]
  have HC1 : Hid (∀ n, Calls Tryd.prog 32 #[.slice af nF cf, .slice ap 286 cp] (wb.drewN n) fun e w' => e = .returned (.tuple #[.int .i64 A, .int .i64 (cstE F (P.take 286))]) ∧ ∃ q, w' = wb.drewN q) := fun n => by
    have := cost_any _ _ F (P.take 286) (wb.drewN n) (HSF.out.below (below_drewN (Below.refl _ _) _)) (HSP.out.below (below_drewN (Below.refl _ _) _))
    rw [← HA.out] at this
    exact this.mono fun e w' ⟨h1, q, h2⟩ => ⟨h1, n + q, by rw [h2, World.drewN_drewN]⟩
  have HC2 : Hid (∀ m n, Calls Tryd.prog 32 #[.slice ag nG cg, .slice aq 30 cq] ((wb.drewN m).drewN n) fun e w' => e = .returned (.tuple #[.int .i64 B, .int .i64 (cstE G (Q.take 30))]) ∧ ∃ q, w' = (wb.drewN m).drewN q) := fun m n => by
    have := cost_any _ _ G (Q.take 30) ((wb.drewN m).drewN n) ((HSG.out.below (below_drewN (Below.refl _ _) _)).below (below_drewN (Below.refl _ _) _)) ((HSQ.out.below (below_drewN (Below.refl _ _) _)).below (below_drewN (Below.refl _ _) _))
    rw [← HBB.out] at this
    exact this.mono fun e w' ⟨h1, q, h2⟩ => ⟨h1, n + q, by rw [h2]; simp only [World.drewN_drewN, Nat.add_assoc]⟩
  have HFS : Hid (∀ wx, Below wb.heap.size wb wx → Calls Tryd.prog 33 #[.agg #[.slice af nF cf, .slice ag nG cg]] wx fun e w' => e = .returned (.int .i64 C) ∧ Below wx.heap.size wx w') := fun wx q => by
    have := furtherSize_any _ _ F G wx (HSF.out.below q) (HSG.out.below q) hF hG bF bG ⟨(T.1.low HB.out).low q, (T.2.low HB.out).low q⟩
    rw [← HCC.out] at this
    exact this
  obtain ⟨E1, HE1⟩ : ∃ E, Hid (E = cstE F (P.take 286)) := ⟨_, rfl⟩
  obtain ⟨E2, HE2⟩ : ∃ E, Hid (E = cstE G (Q.take 30)) := ⟨_, rfl⟩
  rw [← HE1.out] at HC1
  rw [← HE2.out] at HC2
  have hp1 : 286 ≤ cp := by omega
  have hq1 : 30 ≤ cq := by omega
  have hp2 : (286 : Int) ≤ (cp : Int) := by omega
  have hq2 : (30 : Int) ≤ (cq : Int) := by omega
  obtain ⟨r, hr⟩ : ∃ r, w.heap.size + 1 = r := ⟨_, rfl⟩
  have HD : Hid (∀ n, (wb.drewN n).cell? ⟨w.heap.size, 0, none⟩ = some (.slice af nF cf) ∧ (wb.drewN n).cell? ⟨w.heap.size, 1, none⟩ = some (.slice ag nG cg)) := fun n => ⟨d1, d2⟩
  rw [hr] at d3 d4
  have HD2 : Hid (∀ n, (wb.drewN n).cell? ⟨r, 0, none⟩ = some (.slice ap nP cp) ∧ (wb.drewN n).cell? ⟨r, 1, none⟩ = some (.slice aq nQ cq)) := fun n => ⟨d3, d4⟩
  have HR := hide hr
  clear sf sg sp sq n1 n2 hnF hnG hnP hnQ hC1 hC2 HSF HSG HSP HSQ s2 b1
  go_enter Tryd.func18, Tryd.ntmps18
  go_wp2
  go_quiet (first | (go_at_call 32; exact HC1.out _))
  go_wp2
  obtain ⟨wc, hwc⟩ : ∃ wc, wb.drewN nq = wc := ⟨_, rfl⟩
  have HCC2 := hide (HC2.out nq)
  obtain ⟨e1, e2⟩ := HD.out nq
  obtain ⟨e3, e4⟩ := HD2.out nq
  have HBC : Hid (Below wb.heap.size wb (wb.drewN nq)) := below_drewN (Below.refl _ _) _
  rw [hwc] at HCC2 e1 e2 e3 e4 HBC ⊢
  clear hwc HC1 HC2 d1 d2 d3 d4 hwa hwb
  go_quiet (first | (go_at_call 32; exact HCC2.out _))
  have HBD := hide (HBC.out.trans ((below_drewN (Below.refl wc.heap.size wc) nq).mono HBC.out.size))
  have HFC := hide (HFS.out _ HBD.out)
  go_wp2_with fail
  refine HFC.out.mono ?_
  rintro e w3 ⟨rfl, b3⟩
  have HB3 := hide (HB.out.trans ((HBD.out.trans (b3.mono HBD.out.size)).mono HB.out.size))
  clear b3 HFC HFS
  go_wp2
  go_ret
  rw [HZ.out]
  exact ⟨rfl, HB3.out⟩
end Go.Proofs.YtfdhffcdkmklbaaDoor

namespace Go.Proofs.YtfdhffcdkmklbaaDoor
open Go.RowKit Go.Maps
set_option maxRecDepth 20000
set_option linter.unusedVariables false

set_option maxHeartbeats 4000000 in
theorem said_any (v : Value) (R : List Tk) (w : World) (h : SK w v R) (hn : R.length ≤ 5864062014805) :
    Calls Tryd.prog 15 #[v] w fun e w' => e = .returned (.tuple #[.int .i64 (sdN R), .int .i64 (sdE R)]) ∧ Below w.heap.size w w' := by
  have HS := hide h
  have HAS := hide (allSound_any v R w h)
  obtain ⟨ao, cap, rfl, hlc, hcm⟩ := h.open
  have hmx : R.length ≤ 9223372036854775807 := by omega
  clear h
  go_enter Tryd.func15, Tryd.ntmps15
  go_wp2_with fail
  refine HAS.out.mono ?_
  rintro e w1 ⟨rfl, b1⟩
  have HB1 := hide b1
  clear b1 HAS
  by_cases ha : asnd R = true
  case neg =>
    have ha' : asnd R = false := by simpa using ha
    have HE : Hid (sdE R = 100) := by show _ = _; unfold sdE; rw [ha']; rfl
    have HN : Hid (sdN R = 0) := by show _ = _; unfold sdN; rw [ha']; rfl
    rw [ha']
    clear ha ha'
    go_wp2
    refine bodyPost_ret (results_tmp2 rfl _ _ _) rfl ?_
    rw [HE.out, HN.out]
    exact ⟨rfl, HB1.out⟩
  have HA := hide ha
  rw [ha]
  clear ha
  go_wp2
  go_loopw [4, 12] (fun s t wr => ∃ (k : Nat) (m : Int), k ≤ R.length ∧ t = .int .i64 (k : Int) ∧ s = .int .i64 m ∧ Hid (m = lsay (R.take k)) ∧ Hid (Below w.heap.size w wr)) (fun _ t _ => R.length - (intOf t).toNat)
  case atStart => exact ⟨0, 0, Nat.zero_le _, rfl, rfl, rfl, HB1⟩
  case round =>
    obtain ⟨k, m, hk, rfl, rfl, HM, HB⟩ := hrel
    have hm := lsay_in (R.take k) (asnd_take' HA.out k)
    rw [← HM.out, List.length_take] at hm
    have hm0 : 0 ≤ m := hm.1
    have hm1 : m ≤ 1512928000000000 := by have := hm.2; omega
    clear hm
    by_cases hlt : k < R.length
    · have hlt' : (k : Int) < (R.length : Int) := by omega
      obtain ⟨b, o, rfl, c0, c1, c2⟩ := HS.out.get HB.out hlt
      have HNX := hide (lsay_take hlt)
      have hsn : Snd (R.getD k tk0) := by
        have h1 := asnd_take' HA.out (k + 1)
        rw [asnd_snoc hlt] at h1
        simp only [Bool.and_eq_true] at h1
        exact of_decide_eq_true h1.2
      obtain ⟨⟨t1, t2, t3⟩, ht⟩ : ∃ t, R.getD k tk0 = t := ⟨_, rfl⟩
      rw [ht] at c0 c1 c2 HNX hsn
      simp only at c0 c1 c2
      rw [← HM.out] at HNX
      clear ht
      obtain ⟨wa, hwa⟩ : ∃ wa, wr.alloc (.cells #[.int .i64 t1, .int .i64 t2, .int .u8 t3] 65) = wa := ⟨_, rfl⟩
      have HBa : Hid (Below w.heap.size w wa) := by show Below _ _ _; rw [← hwa]; exact HB.out.alloc HB.out.size _
      have e0 : wa.cell? ⟨wr.heap.size, 0, none⟩ = some (.int .i64 t1) := by rw [← hwa]; unfold World.cell?; simp only [heap_alloc_new]; rfl
      unfold Snd at hsn
      simp only at hsn
      by_cases h0 : t1 = 0
      · subst h0
        have HN1 : Hid (m + 1 = lsay (R.take (k + 1))) := by show _ = _; rw [HNX.out]; rfl
        clear hsn
        go_wp2
        go_roundw
        case rel => exact ⟨k + 1, m + 1, by omega, by go_num, by go_num, HN1, HBa⟩
        case measure => simp [intOf]; omega
      · rw [if_neg h0] at hsn
        have h1 : 1 < t1 := by omega
        have h2 : t1 ≤ 258 := by omega
        have h3 : ¬ t1 < 1 := by omega
        have HN1 : Hid (m + t1 = lsay (R.take (k + 1))) := by show _ = _; rw [HNX.out]; unfold lsayT; rw [if_neg h0]
        clear hsn h0
        go_wp2
        go_roundw
        case rel => exact ⟨k + 1, m + t1, by omega, by go_num, by go_num, HN1, HBa⟩
        case measure => simp [intOf]; omega
    · obtain rfl : k = R.length := by omega
      have hlt' : ¬ (R.length : Int) < (R.length : Int) := by omega
      have HMM : Hid (m = lsay R) := by have := HM.out; rw [List.take_of_length_le (Nat.le_refl _)] at this; exact this
      by_cases hb : 65535 < m
      · have HE : Hid (sdE R = 102) := by show _ = _; unfold sdE; rw [HA.out, if_pos rfl, if_pos (by rw [← HMM.out]; exact hb)]
        have HN : Hid (sdN R = 0) := by show _ = _; unfold sdN; rw [HA.out, if_pos rfl, if_pos (by rw [← HMM.out]; exact hb)]
        go_wp2
        refine bodyPost_ret (results_tmp2 rfl _ _ _) rfl ?_
        rw [HE.out, HN.out]
        exact ⟨rfl, HB.out⟩
      · have HE : Hid (sdE R = 0) := by show _ = _; unfold sdE; rw [HA.out, if_pos rfl, if_neg (by rw [← HMM.out]; exact hb)]
        have HN : Hid (sdN R = m) := by show _ = _; unfold sdN; rw [HA.out, if_pos rfl, if_neg (by rw [← HMM.out]; exact hb)]; exact HMM.out.symm
        go_wp2
        refine bodyPost_ret (results_tmp2 rfl _ _ _) rfl ?_
        rw [HE.out, HN.out]
        exact ⟨rfl, HB.out⟩

theorem fixed_any (w : World) : Calls Tryd.prog 19 #[] w fun e w' => ∃ a1 c1 a2 c2, e = .returned (.agg #[.slice a1 288 c1, .slice a2 32 c2]) ∧ SI w' (.slice a1 288 c1) (fxL 288) ∧ SI w' (.slice a2 32 c2) (List.replicate 32 5) ∧ Below w.heap.size w w' := by
  obtain ⟨wb, hwb⟩ : ∃ wb, w.alloc (.cells #[.slice none 0 0, .slice none 0 0] 49) = wb := ⟨_, rfl⟩
  have HB1 : Hid (Below w.heap.size w wb) := by rw [← hwb]; exact (Below.refl _ _).alloc (Nat.le_refl _) _
  have HN1 : Hid (wb.heap[w.heap.size]? = some (.cells #[.slice none 0 0, .slice none 0 0] 49 (0, 0))) := by rw [← hwb]; exact heap_alloc_new w _
  have HL := hide (fixedLit_any wb)
  have HDI : Hid (∀ wx, Calls Tryd.prog 35 #[] wx fun e w' => Fresh wx (List.replicate 32 5) e w') := fun wx => fixedDist_any wx
  go_enter Tryd.func19, Tryd.ntmps19
  go_wp2_with fail
  refine HL.out.mono ?_
  rintro e w2 ⟨a1, c1, rfl, o2, b2⟩
  have HO2 := hide o2
  have HB2 := hide (HB1.out.trans (b2.mono HB1.out.size))
  have HN2 := hide ((b2.block w.heap.size (lt_of_block HN1.out)).trans HN1.out)
  clear o2 b2 HL
  go_wp2_with fail
  refine (HDI.out w2).mono ?_
  rintro e w3 ⟨a2, c2, rfl, o3, b3⟩
  have HB3 := hide (HB2.out.trans (b3.mono HB2.out.size))
  have HN3 := hide ((b3.block w.heap.size (lt_of_block HN2.out)).trans HN2.out)
  have r0 : w3.cell? ⟨w.heap.size, 0, none⟩ = some (.slice none 0 0) := by unfold World.cell?; rw [HN3.out]; rfl
  have r1 : w3.cell? ⟨w.heap.size, 1, none⟩ = some (.slice none 0 0) := by unfold World.cell?; rw [HN3.out]; rfl
  have r2 : w3.frozen? ⟨w.heap.size, 0, none⟩ = false := frozen_of_row _ _ _ _ _ HN3.out
  have r3 : w3.frozen? ⟨w.heap.size, 1, none⟩ = false := frozen_of_row _ _ _ _ _ HN3.out
  have hl1 : (fxL 288).length = 288 := fxL_len 288
  have hl2 : (List.replicate 32 (5 : Int)).length = 32 := by simp
  rw [hl1] at HO2 ⊢
  rw [hl2] at o3 ⊢
  have HP2 := hide (HO2.out.move fun k hk => b3.block k (HO2.out.lt k hk).2)
  have HO3 := hide o3
  have hsz : w.heap.size < wb.heap.size := lt_of_block HN1.out
  have hk1 : ∀ k, (Value.slice a1 288 c1).ownBlock = some k → k ≠ w.heap.size := fun k hk => by have := (HO2.out.lt k hk).1; omega
  have hk2 : ∀ k, (Value.slice a2 32 c2).ownBlock = some k → k ≠ w.heap.size := fun k hk => by have := (o3.lt k hk).1; have := lt_of_block HN2.out; omega
  obtain ⟨wf, hwf⟩ : ∃ wf, (w3.setCell ⟨w.heap.size, 0, none⟩ (.slice a1 288 c1)).setCell ⟨w.heap.size, 1, none⟩ (.slice a2 32 c2) = wf := ⟨_, rfl⟩
  have hoth : ∀ k, k ≠ w.heap.size → wf.heap[k]? = w3.heap[k]? := fun k hk => by rw [← hwf, setCell_others _ _ _ _ _ hk, setCell_others _ _ _ _ _ hk]
  have HBF : Hid (Below w.heap.size w wf) := by rw [← hwf]; exact (HB3.out.setCell (p := ⟨w.heap.size, 0, none⟩) (Nat.le_refl _) _).setCell (p := ⟨w.heap.size, 1, none⟩) (Nat.le_refl _) _
  have HLF := hide (HP2.out.move fun k hk => hoth k (hk1 k hk)).sb
  have HDF := hide (HO3.out.move fun k hk => hoth k (hk2 k hk)).sb
  have hfb : wf.heap[w.heap.size]? = some (.cells #[.slice a1 288 c1, .slice a2 32 c2] 49 (0, 0)) := by
    have h1 := heap_setCell_same w3 w.heap.size 0 _ _ (.slice a1 288 c1) HN3.out
    have h2 := heap_setCell_same _ w.heap.size 1 _ _ (.slice a2 32 c2) h1
    rw [hwf] at h2
    simpa using h2
  have f0 : wf.cell? ⟨w.heap.size, 0, none⟩ = some (.slice a1 288 c1) := by unfold World.cell?; rw [hfb]; rfl
  have f1 : wf.cell? ⟨w.heap.size, 1, none⟩ = some (.slice a2 32 c2) := by unfold World.cell?; rw [hfb]; rfl
  clear hoth hfb hk1 hk2 o3 b3 HO2 HP2 HO3 hl1 hl2
  go_wp2
  refine bodyPost_ret (v := .agg #[.slice a1 288 c1, .slice a2 32 c2]) (by simp [results, Tryd.results19, go_sem, f0, f1]) rfl ?_
  exact ⟨_, _, _, _, rfl, HLF.out, HDF.out, HBF.out⟩
end Go.Proofs.YtfdhffcdkmklbaaDoor

namespace Go.Proofs.YtfdhffcdkmklbaaDoor
open Go.RowKit Go.Maps
set_option linter.unusedVariables false

/-- The first n lengths of the small code, as bits. -/
def hdS (C : List Int) : Nat → List Int
  | 0 => []
  | n + 1 => hdS C n ++ bts (C.getD (zor.getD n 0).toNat 0) 3
/-- The runs, as bits: the word of each ('wb' of the code's own texts, by its definition), and how many above the least. -/
def hdR (C : List Int) : List Rn → List Int
  | [] => []
  | r :: R => (bts (wd C r.1.toNat) (ln C r.1.toNat)).reverse ++ bts (r.2 - lst r.1) (frt r.1) ++ hdR C R
/-- The header, as bits. -/
def hdB (L D C : List Int) (R : List Rn) : List Int := bts ((L.length : Int) - 257) 5 ++ bts ((D.length : Int) - 1) 5 ++ bts ((wrt C : Int) - 4) 4 ++ hdS C (wrt C) ++ hdR C R

theorem hdS_len (C : List Int) (n : Nat) : (hdS C n).length = 3 * n := by
  induction n with
  | zero => rfl
  | succ n ih => simp only [hdS, List.length_append, ih, length_bts]; omega

theorem hdR_len {C : List Int} (hC : ∀ s, 0 ≤ C.getD s 0) (R : List Rn) : ((hdR C R).length : Int) = rsz C R := by
  induction R with
  | nil => rfl
  | cons r R ih =>
    have h : ((ln C r.1.toNat : Nat) : Int) = C.getD r.1.toNat 0 := by unfold ln; have := hC r.1.toNat; omega
    simp only [hdR, rsz, List.length_append, List.length_reverse, length_bts]
    omega

/-- The header takes Size bits. -/
theorem hdB_len {L D C : List Int} {R : List Rn} (hC : ∀ s, 0 ≤ C.getD s 0) : ((hdB L D C R).length : Int) = hsz C R := by
  have h1 := hdS_len C (wrt C)
  have h2 := hdR_len hC R
  unfold hdB hsz
  simp only [List.length_append, length_bts]
  omega

theorem hdR_snoc (C : List Int) (R : List Rn) (r : Rn) : hdR C (R ++ [r]) = hdR C R ++ ((bts (wd C r.1.toNat) (ln C r.1.toNat)).reverse ++ bts (r.2 - lst r.1) (frt r.1)) := by
  induction R with
  | nil => simp [hdR]
  | cons a R ih => simp only [List.cons_append, hdR, ih, List.append_assoc]
end Go.Proofs.YtfdhffcdkmklbaaDoor

namespace Go.Proofs.YtfdhffcdkmklbaaDoor
open Go.RowKit Go.Maps
set_option maxRecDepth 20000

theorem cloneI_any (v : Value) (l : List Int) (w : World) (h : SI w v l) (hr : l.length ≤ 288) :
    Calls Tryd.prog 73 #[v] w fun e w' => ∃ a c, e = .returned (.slice a l.length c) ∧ OI w' w.heap.size (.slice a l.length c) l ∧ Below w.heap.size w w' := by
  have HS := hide h
  obtain ⟨ao, cap, rfl, hlc, hcm⟩ := h.open
  have he := fun (w : World) (a : Option Addr) (n c : Nat) => Lib.run_eql_slice_nil (P := Tryd.prog) w 40 3 a n c 0 0 Tryd.underlying40
  cases ao with
  | none =>
    obtain ⟨ao', cap', e1, e2, e3, e4, _⟩ := h
    simp only [Value.slice.injEq] at e1
    obtain ⟨rfl, -, rfl⟩ := e1
    obtain rfl : cap = 0 := e4 rfl
    obtain rfl : l = [] := List.eq_nil_of_length_eq_zero (by omega)
    clear HS e2 e3 e4
    go_enter Tryd.func73, Tryd.ntmps73
    go_wp2
    go_ret
    exact ⟨_, _, rfl, World.ownsRow_nil _ _ _ _, Below.refl _ _⟩
  | some x =>
    clear h
    go_enter Tryd.func73, Tryd.ntmps73
    have O1 : Hid (OI (w.alloc (.cells #[] 3)) w.heap.size (.slice (some ⟨w.heap.size, 0, none⟩) 0 0) []) := World.ownsRow_made w #[] 0 (Nat.le_refl _) (Nat.zero_le _) rfl
    have HSR : Hid (Src Tryd.prog 1 40 (.slice (some x) l.length cap) l.length (l.map (Value.int .i64)) (w.alloc (.cells #[] 3))) := (HS.out.below ((Below.refl _ _).alloc (Nat.le_refl _) _)).src
    go_wp2_with (at_builtin; refine wpList_appI rfl _ _ 40 rfl w.heap.size _ _ [] l rfl O1.out rfl HSR.out (by simp; omega) (by simp) ?_)
    intro v' w1 hown hgrow
    have HF : Hid (OI w1 w.heap.size v' l) := hown
    have hb : Below w.heap.size w w1 := ((Below.refl _ _).alloc (Nat.le_refl _) _).grown hgrow.by (by simp) (fun k hk => by simp [Value.ownBlock] at hk; omega)
    have HB := hide hb
    clear hown hgrow hb
    go_wp2
    go_ret
    obtain ⟨a, c, hv⟩ := HF.out.shape
    rw [hv] at HF ⊢
    exact ⟨a, c, rfl, HF.out, HB.out⟩

def bkE (l : List Int) : Int := if chkE l ≠ 0 then chkE l else if shp l = 2 then 52 else if shp l = 3 then 51 else 0

theorem bkE_zero {l : List Int} (h : bkE l = 0) : Lens l ∧ shp l ≠ 2 ∧ shp l ≠ 3 := by
  unfold bkE at h
  by_cases h0 : chkE l = 0
  · rw [if_neg (by simp [h0])] at h
    by_cases h2 : shp l = 2
    · rw [if_pos h2] at h; omega
    · rw [if_neg h2] at h
      by_cases h3 : shp l = 3
      · rw [if_pos h3] at h; omega
      · exact ⟨(chkE_zero h0).1, h2, h3⟩
  · rw [if_pos h0] at h; exact absurd h h0

/-- A book, or none. -/
def BookOf (w w' : World) (l : List Int) (vl vw : Value) : Prop := (bkE l ≠ 0 ∧ vl = .slice none 0 0 ∧ vw = .slice none 0 0) ∨ (bkE l = 0 ∧ OI w' w.heap.size vl l ∧ OI w' w.heap.size vw (wds l))

theorem ret_book {fn : Func} {R : Ending → World → Prop} {a : Act} {w : World} {p q : Tmp} (hres : fn.results = #[.cell p 101, .tmp q]) (g : Nat) (vl vw : Value) (hp : a.tmps.getD p undef = .pointer (some ⟨g, 0, none⟩))
    (hg : w.heap[g]? = some (.cells #[vl, vw] 101 (0, 0))) (hd : a.defers = []) (hR : R (.returned (.tuple #[.agg #[vl, vw], a.tmps.getD q undef])) w) : bodyPost Tryd.prog fn R .ret a w := by
  refine bodyPost_ret (v := .tuple #[.agg #[vl, vw], a.tmps.getD q undef]) ?_ hd hR
  have hl := run_loadVar_row (P := Tryd.prog) w g 101 101 #[vl, vw] (0, 0) _ hg Tryd.underlying101 rfl (by kernel_rfl)
  have hp' : a.tmps[p]?.getD undef = .pointer (some ⟨g, 0, none⟩) := by simpa using hp
  simp [results, hres, hp', asAddr, hl]

theorem wpList_storeB {ops : Array Oper} {rest : List Oper} {a : Act} {w : World} {Q : Exit → Act → World → Prop} {dst : Option Tmp} {x y : Operand} {ty : TypeId} {pos : String} {after : Array Edge} (g : Nat) (vl vw x0 x1 : Value)
    (hx : a.eval x = .pointer (some ⟨g, 0, none⟩)) (hy : a.eval y = .agg #[vl, vw]) (hg : w.heap[g]? = some (.cells #[x0, x1] 101 (0, 0))) (h1 : vl.oneCell' = true) (h2 : vw.oneCell' = true) (h : wpList Tryd.prog ops Q rest (a.put dst undef) (w.setRow g #[vl, vw])) :
    wpList Tryd.prog ops Q ({ dst := dst, op := .store 101 x y, type := ty, pos := pos, after := after, guard := none } :: rest) a w :=
  wpList_store_row rfl 101 x y rfl g #[vl, vw] hx hy 101 #[x0, x1] hg (by kernel_rfl) rfl (by simp [h1, h2]) h

theorem below_setRow {w w' : World} {B g : Nat} {cs : Array Value} (h : Below B w w') (hg : B ≤ g) : Below B w (w'.setRow g cs) :=
  ⟨h.os, h.tape, h.output, by rw [size_setRow]; exact h.size, fun k hk => (setRow_other w' g k cs (by omega)).trans (h.block k hk)⟩

def Made (w : World) (l : List Int) (e : Ending) (w' : World) : Prop := ∃ vl vw, e = .returned (.tuple #[.agg #[vl, vw], .int .i64 (bkE l)]) ∧ BookOf w w' l vl vw ∧ Below w.heap.size w w'

theorem newBook_any (v : Value) (l : List Int) (w : World) (h : SI w v l) :
    Calls Tryd.prog 57 #[v] w fun e w' => Made w l e w' := by
  have HS := hide h
  obtain ⟨ao, cap, rfl, hlc, hcm⟩ := h.open
  clear h
  have HA : Hid ((w.alloc (.cells #[.slice none 0 0, .slice none 0 0] 101)).heap[w.heap.size]? = some (.cells #[.slice none 0 0, .slice none 0 0] 101 (0, 0))) := heap_alloc_new w _
  have hBA : Below w.heap.size w (w.alloc (.cells #[.slice none 0 0, .slice none 0 0] 101)) := (Below.refl _ _).alloc (Nat.le_refl _) _
  have HBA := hide hBA
  have HSA := hide (HS.out.below hBA)
  clear hBA
  go_enter Tryd.func57, Tryd.ntmps57
  go_wp2_with fail
  refine (check_any _ l _ HSA.out).mono ?_
  rintro e w1 ⟨rfl, hb1⟩
  have HA1 : Hid (w1.heap[w.heap.size]? = some (.cells #[.slice none 0 0, .slice none 0 0] 101 (0, 0))) := (hb1.block _ (by simp)).trans HA.out
  have HB1 : Hid (Below w.heap.size w w1) := HBA.out.trans (hb1.mono (by simp))
  have HS1 := hide (HSA.out.below hb1)
  have hw1 : w.heap.size < w1.heap.size := by have := hb1.size; simp at this; omega
  clear hb1
  have HEND : Hid (w1.heap[w.heap.size]? = some (.cells #[.slice none 0 0, .slice none 0 0] 101 (0, 0)) → (w1.setRow w.heap.size #[.slice none 0 0, .slice none 0 0]).heap[w.heap.size]? = some (.cells #[.slice none 0 0, .slice none 0 0] 101 (0, 0))) := fun h => setRow_heap w1 _ _ _ _ _ h
  by_cases h0 : chkE l = 0
  case neg =>
    have h1 : (chkE l == 0) = false := by simpa using h0
    have HE : Hid (bkE l = chkE l) := if_pos h0
    have HNE : Hid (bkE l ≠ 0) := by show _ ≠ _; rw [HE.out]; exact h0
    obtain ⟨q, HQ⟩ : ∃ q, Hid (q = chkE l) := ⟨_, rfl⟩
    obtain ⟨r, HR⟩ : ∃ q, Hid (q = chkS l) := ⟨_, rfl⟩
    rw [← HQ.out] at h0 h1 HE
    rw [← HQ.out, ← HR.out]
    go_wp2_with ((with_reducible refine wpList_storeB w.heap.size (.slice none 0 0) (.slice none 0 0) _ _ ?hx ?hy HA1.out ?h1 ?h2 ?_); (case hx => rfl); (case hy => rfl); (case h1 => rfl); (case h2 => rfl))
    (try simp only [Exit.inBlock, Exit.then])
    refine ret_book (p := 2) (q := 3) ?r1 w.heap.size (.slice none 0 0) (.slice none 0 0) ?r2 (HEND.out HA1.out) ?r3 ?_
    case r1 => rfl
    case r2 => rfl
    case r3 => rfl
    exact ⟨_, _, by rw [HE.out]; rfl, .inl ⟨HNE.out, rfl, rfl⟩, below_setRow HB1.out (Nat.le_refl _)⟩
  obtain ⟨hl, hs⟩ := chkE_zero h0
  have HL := hide hl
  have h288 := hl.1
  have HR := hide hs
  have HQ := hide h0
  rw [HQ.out, HR.out]
  clear hl hs h0
  by_cases h2 : shp l = 2
  · have HE : Hid (bkE l = 52) := by show _ = _; unfold bkE; rw [if_neg (by have := HQ.out; simp [this]), if_pos h2]
    have HNE : Hid (bkE l ≠ 0) := by show _ ≠ _; rw [HE.out]; decide
    rw [h2]
    go_wp2_with ((with_reducible refine wpList_storeB w.heap.size (.slice none 0 0) (.slice none 0 0) _ _ ?hx ?hy HA1.out ?h1 ?h2 ?_); (case hx => rfl); (case hy => rfl); (case h1 => rfl); (case h2 => rfl))
    (try simp only [Exit.inBlock, Exit.then])
    refine ret_book (p := 2) (q := 3) ?r1 w.heap.size (.slice none 0 0) (.slice none 0 0) ?r2 (HEND.out HA1.out) ?r3 ?_
    case r1 => rfl
    case r2 => rfl
    case r3 => rfl
    exact ⟨_, _, by rw [HE.out]; rfl, .inl ⟨HNE.out, rfl, rfl⟩, below_setRow HB1.out (Nat.le_refl _)⟩
  by_cases h3 : shp l = 3
  · have HE : Hid (bkE l = 51) := by show _ = _; unfold bkE; rw [if_neg (by have := HQ.out; simp [this]), if_neg h2, if_pos h3]
    have HNE : Hid (bkE l ≠ 0) := by show _ ≠ _; rw [HE.out]; decide
    rw [h3]
    clear h2
    go_wp2_with ((with_reducible refine wpList_storeB w.heap.size (.slice none 0 0) (.slice none 0 0) _ _ ?hx ?hy HA1.out ?h1 ?h2 ?_); (case hx => rfl); (case hy => rfl); (case h1 => rfl); (case h2 => rfl))
    (try simp only [Exit.inBlock, Exit.then])
    refine ret_book (p := 2) (q := 3) ?r1 w.heap.size (.slice none 0 0) (.slice none 0 0) ?r2 (HEND.out HA1.out) ?r3 ?_
    case r1 => rfl
    case r2 => rfl
    case r3 => rfl
    exact ⟨_, _, by rw [HE.out]; rfl, .inl ⟨HNE.out, rfl, rfl⟩, below_setRow HB1.out (Nat.le_refl _)⟩
  have HE : Hid (bkE l = 0) := by show _ = _; unfold bkE; rw [if_neg (by have := HQ.out; simp [this]), if_neg h2, if_neg h3]
  obtain ⟨r, HR2⟩ : ∃ q, Hid (q = shp l) := ⟨_, rfl⟩
  rw [← HR2.out] at h2 h3 ⊢
  have h2' : (r == 2) = false := by simpa using h2
  have h3' : (r == 3) = false := by simpa using h3
  clear HEND
  go_wp2_with fail
  refine (cloneI_any _ l _ HS1.out h288).mono ?_
  rintro e w2 ⟨a2, c2, rfl, ho2, hb2⟩
  have HA2 : Hid (w2.heap[w.heap.size]? = some (.cells #[.slice none 0 0, .slice none 0 0] 101 (0, 0))) := (hb2.block _ hw1).trans HA1.out
  have HB2 : Hid (Below w.heap.size w w2) := HB1.out.trans (hb2.mono (by omega))
  have HS2 := hide (HS1.out.below hb2)
  have HO2 : Hid (OI w2 (w.heap.size + 1) (.slice a2 l.length c2) l) := ho2.base (by omega)
  have hw2 : w.heap.size < w2.heap.size := by have := hb2.size; omega
  clear ho2 hb2
  go_wp2_with fail
  refine (count_any _ l _ HS2.out HL.out).mono ?_
  rintro e w3 ⟨rfl, hb3⟩
  have HA3 : Hid (w3.heap[w.heap.size]? = some (.cells #[.slice none 0 0, .slice none 0 0] 101 (0, 0))) := (hb3.block _ hw2).trans HA2.out
  have HB3 : Hid (Below w.heap.size w w3) := HB2.out.trans (hb3.mono (by omega))
  have HS3 := hide (HS2.out.below hb3)
  have HO3 := hide (HO2.out.below hb3 (Nat.le_refl _))
  have hw3 : w.heap.size < w3.heap.size := by have := hb3.size; omega
  clear hb3
  go_wp2_with fail
  refine (firsts_any l _ HL.out).mono ?_
  rintro e w4 ⟨rfl, hb4⟩
  have HA4 : Hid (w4.heap[w.heap.size]? = some (.cells #[.slice none 0 0, .slice none 0 0] 101 (0, 0))) := (hb4.block _ hw3).trans HA3.out
  have HB4 : Hid (Below w.heap.size w w4) := HB3.out.trans (hb4.mono (by omega))
  have HS4 := hide (HS3.out.below hb4)
  have HO4 := hide (HO3.out.below hb4 (Nat.le_refl _))
  have hw4 : w.heap.size < w4.heap.size := by have := hb4.size; omega
  clear hb4
  go_wp2_with fail
  refine (words_any _ l _ HS4.out HL.out).mono ?_
  rintro e w5 ⟨a5, c5, rfl, ho5, hb5⟩
  have HA5 : Hid (w5.heap[w.heap.size]? = some (.cells #[.slice none 0 0, .slice none 0 0] 101 (0, 0))) := (hb5.block _ hw4).trans HA4.out
  have HB5 : Hid (Below w.heap.size w w5) := HB4.out.trans (hb5.mono (by omega))
  have HO5 := hide (HO4.out.below hb5 (Nat.le_refl _))
  have HP5 : Hid (OI w5 (w.heap.size + 1) (.slice a5 l.length c5) (wds l)) := ho5.base (by omega)
  clear ho5 hb5
  have HEND : Hid ((w5.setRow w.heap.size #[.slice a2 l.length c2, .slice a5 l.length c5]).heap[w.heap.size]? = some (.cells #[.slice a2 l.length c2, .slice a5 l.length c5] 101 (0, 0))) := setRow_heap w5 _ _ _ _ _ HA5.out
  go_wp2_with ((with_reducible refine wpList_storeB w.heap.size (.slice a2 l.length c2) (.slice a5 l.length c5) _ _ ?hx ?hy HA5.out ?h1 ?h2 ?_); (case hx => rfl); (case hy => rfl); (case h1 => rfl); (case h2 => rfl))
  (try simp only [Exit.inBlock, Exit.then])
  refine ret_book (p := 2) (q := 3) ?r1 w.heap.size (.slice a2 l.length c2) (.slice a5 l.length c5) ?r2 HEND.out ?r3 ?_
  case r1 => rfl
  case r2 => rfl
  case r3 => rfl
  refine ⟨_, _, by rw [HE.out]; rfl, .inr ⟨HE.out, ?_, ?_⟩, below_setRow HB5.out (Nat.le_refl _)⟩
  · refine (HO5.out.move fun k hk => setRow_other w5 _ k _ ?_).base (by omega)
    have := (HO5.out.lt k hk).1; omega
  · refine (HP5.out.move fun k hk => setRow_other w5 _ k _ ?_).base (by omega)
    have := (HP5.out.lt k hk).1; omega
end Go.Proofs.YtfdhffcdkmklbaaDoor

namespace Go.Proofs.YtfdhffcdkmklbaaDoor
open Go.RowKit Go.Maps
set_option maxRecDepth 20000

/-- A decoder's cells. -/
def dv (vl vw vs : Value) (f g : Nat → Int) : Array Value := #[vl, vw, vs] ++ av f ++ av g

theorem dv_size (vl vw vs : Value) (f g : Nat → Int) : (dv vl vw vs f g).size = 35 := by simp [dv, av_size]

theorem dv_0 (vl vw vs : Value) (f g : Nat → Int) : (dv vl vw vs f g)[0]? = some vl := by simp [dv, Array.getElem?_append]
theorem dv_1 (vl vw vs : Value) (f g : Nat → Int) : (dv vl vw vs f g)[1]? = some vw := by simp [dv, Array.getElem?_append]
theorem dv_2 (vl vw vs : Value) (f g : Nat → Int) : (dv vl vw vs f g)[2]? = some vs := by simp [dv, Array.getElem?_append]

theorem dv_f (vl vw vs : Value) (f g : Nat → Int) {n : Nat} (h : n < 16) : (dv vl vw vs f g)[3 + n]? = some (.int .i64 (f n)) := by
  simp only [dv, Array.getElem?_append, Array.size_append, av_size]
  rw [if_pos (by simp; omega), if_neg (by simp)]
  simp only [List.size_toArray, List.length_cons, List.length_nil]
  rw [show 3 + n - (0 + 1 + 1 + 1) = n by omega, av_get f h]

theorem dv_g (vl vw vs : Value) (f g : Nat → Int) {n : Nat} (h : n < 16) : (dv vl vw vs f g)[19 + n]? = some (.int .i64 (g n)) := by
  simp only [dv, Array.getElem?_append, Array.size_append, av_size]
  rw [if_neg (by simp)]
  simp only [List.size_toArray, List.length_cons, List.length_nil]
  rw [show 19 + n - (0 + 1 + 1 + 1 + 16) = n by omega, av_get g h]

theorem dv_ext {A : Array Value} {vl vw vs : Value} {f g : Nat → Int} (hs : A.size = 35) (h0 : A[0]? = some vl) (h1 : A[1]? = some vw) (h2 : A[2]? = some vs) (hf : ∀ n, n < 16 → A[3 + n]? = some (.int .i64 (f n))) (hg : ∀ n, n < 16 → A[19 + n]? = some (.int .i64 (g n))) : A = dv vl vw vs f g := by
  apply Array.ext_getElem?
  intro i
  by_cases c0 : i = 0
  · subst c0; rw [h0, dv_0]
  by_cases c1 : i = 1
  · subst c1; rw [h1, dv_1]
  by_cases c2 : i = 2
  · subst c2; rw [h2, dv_2]
  by_cases c3 : i < 19
  · obtain ⟨n, rfl⟩ : ∃ n, i = 3 + n := ⟨i - 3, by omega⟩
    rw [hf n (by omega), dv_f _ _ _ _ _ (by omega)]
  by_cases c4 : i < 35
  · obtain ⟨n, rfl⟩ : ∃ n, i = 19 + n := ⟨i - 19, by omega⟩
    rw [hg n (by omega), dv_g _ _ _ _ _ (by omega)]
  · rw [Array.getElem?_eq_none (by omega), Array.getElem?_eq_none (by rw [dv_size]; omega)]

theorem dv_setf (vl vw vs : Value) (f g : Nat → Int) {n : Nat} (h : n < 16) (x : Int) : (dv vl vw vs f g).setIfInBounds (3 + n) (.int .i64 x) = dv vl vw vs (upf f n x) g := by
  refine dv_ext (by simp [dv_size]) ?_ ?_ ?_ (fun k hk => ?_) (fun k hk => ?_)
  · rw [Array.getElem?_setIfInBounds, if_neg (by omega), dv_0]
  · rw [Array.getElem?_setIfInBounds, if_neg (by omega), dv_1]
  · rw [Array.getElem?_setIfInBounds, if_neg (by omega), dv_2]
  · rw [Array.getElem?_setIfInBounds]
    unfold upf
    by_cases e : n = k
    · subst e; rw [if_pos rfl, if_pos (by rw [dv_size]; omega), if_pos rfl]
    · rw [if_neg (by omega), dv_f _ _ _ _ _ hk, if_neg (fun x => e x.symm)]
  · rw [Array.getElem?_setIfInBounds, if_neg (by omega), dv_g _ _ _ _ _ hk]

theorem dv_setg (vl vw vs : Value) (f g : Nat → Int) {n : Nat} (h : n < 16) (x : Int) : (dv vl vw vs f g).setIfInBounds (19 + n) (.int .i64 x) = dv vl vw vs f (upf g n x) := by
  refine dv_ext (by simp [dv_size]) ?_ ?_ ?_ (fun k hk => ?_) (fun k hk => ?_)
  · rw [Array.getElem?_setIfInBounds, if_neg (by omega), dv_0]
  · rw [Array.getElem?_setIfInBounds, if_neg (by omega), dv_1]
  · rw [Array.getElem?_setIfInBounds, if_neg (by omega), dv_2]
  · rw [Array.getElem?_setIfInBounds, if_neg (by omega), dv_f _ _ _ _ _ hk]
  · rw [Array.getElem?_setIfInBounds]
    unfold upf
    by_cases e : n = k
    · subst e; rw [if_pos rfl, if_pos (by rw [dv_size]; omega), if_pos rfl]
    · rw [if_neg (by omega), dv_g _ _ _ _ _ hk, if_neg (fun x => e x.symm)]

theorem dv_sets (vl vw vs : Value) (f g : Nat → Int) (x : Value) : (dv vl vw vs f g).setIfInBounds 2 x = dv vl vw x f g := by
  refine dv_ext (by simp [dv_size]) ?_ ?_ ?_ (fun k hk => ?_) (fun k hk => ?_)
  · rw [Array.getElem?_setIfInBounds, if_neg (by omega), dv_0]
  · rw [Array.getElem?_setIfInBounds, if_neg (by omega), dv_1]
  · rw [Array.getElem?_setIfInBounds, if_pos rfl, if_pos (by rw [dv_size]; omega)]
  · rw [Array.getElem?_setIfInBounds, if_neg (by omega), dv_f _ _ _ _ _ hk]
  · rw [Array.getElem?_setIfInBounds, if_neg (by omega), dv_g _ _ _ _ _ hk]

def shf (l : List Int) (n : Nat) : Int := (sh l n : Int) - fi l n
def en (l : List Int) (n : Nat) : Int := (fi l n : Int) + cn l n
def upTo (f : Nat → Int) (k n : Nat) : Int := if n < k then f n else 0

theorem upTo_succ (f : Nat → Int) (k : Nat) (x : Int) (hx : x = f k) : upf (upTo f k) k x = upTo f (k + 1) := by
  funext n
  unfold upf upTo
  by_cases e : n = k
  · subst e; rw [if_pos rfl, if_pos (by omega), hx]
  · rw [if_neg e]
    by_cases h : n < k
    · rw [if_pos h, if_pos (by omega)]
    · rw [if_neg h, if_neg (by omega)]

theorem grownBy_drewN {w w' : World} {r : Option Nat} (h : w.grownBy w' r) (n : Nat) : w.grownBy (w'.drewN n) r := ⟨h.os, h.tape, h.output, h.size, h.block⟩

theorem grownBy_at {w w' : World} {g o : Nat} {u : Value} (h : w.grownBy w' (some g)) : w.grownBy (w'.setCell ⟨g, o, none⟩ u) (some g) :=
  ⟨h.os, h.tape, h.output, by rw [size_setCell]; exact h.size, fun k hk hr => (setCell_others w' g o u k (fun e => hr (by rw [e]))).trans (h.block k hk hr)⟩

def SymOk (l sy : List Int) : Prop := sy.length = sh l 16 ∧ ∀ s, Has l s → sy.getD (ix l s) 0 = (s : Int)

theorem OI.still {w wr : World} {g : Nat} {v : Value} {L : List Int} (h : OI w 0 v L) (hg : w.grownBy wr (some g)) (hn : v.ownBlock ≠ some g) : OI wr 0 v L :=
  h.move fun k hk => hg.block k (h.lt k hk).2 (fun e => hn (by rw [hk, e]))

theorem ix_eq {l : List Int} {k : Nat} (hh : Has l k) : shf l (ln l k) + (wd l k : Int) = (ix l k : Int) := by
  rw [hh.wd]
  unfold shf ix
  push_cast
  omega

end Go.Proofs.YtfdhffcdkmklbaaDoor

