import Derived.Test.YtiabhmdefaabgabDoorGMbw
import Derived.Test.YtiabhmdefaabgabDoorGRhr
namespace Go.Proofs.YtiabhmdefaabgabDoor
open Go.RowKit Go.Maps
set_option maxRecDepth 20000
set_option linter.unusedVariables false

/-- What a header that was written is read back as, whatever stands behind it. -/
theorem rd_pad {l d row : List Int} (h : mkE l d = 0) (hb : Bit row) (hr : row = mkB l d) : rdA (unpack (pack row)) 0 = (0, mkL l, mkD d, (mkB l d).length) := by
  have h1 := (unpack_pack hb).1
  have h2 := bit_pad hb
  rw [h1]
  have := rd_back (p := 0) (row := pad row) (rest := List.replicate ((row.length + 7) / 8 * 8 - row.length) 0) h h2 (by rw [List.drop_zero, ← hr]; rfl)
  rw [this, Nat.zero_add]

set_option maxHeartbeats 4000000 in
theorem headerSound_walk (v : Value) (dat : List Int) (w : World) (s : SB w v dat) (hby : Byt dat) (T : Tab w) (O : Odr w) :
    Calls Tryd.prog 6 #[v] w fun e w' => e = .returned (.bool true) ∧ Below w.heap.size w w' := by
  have HS := hide s
  have HBY := hide hby
  have HT := hide T
  have HO := hide O
  obtain ⟨a1, c1, hv, hc1, hd1, -, -⟩ := s
  subst hv
  unfold maxLen at hd1
  clear hby T O
  by_cases big : 1048576 < dat.length
  · have big' : (1048576 : Int) < (dat.length : Int) := by omega
    go_enter Tryd.func6, Tryd.ntmps6
    go_wp2
    go_ret
    exact ⟨rfl, Below.refl _ _⟩
  have big' : ¬ (1048576 : Int) < (dat.length : Int) := by omega
  have HNR := hide (hnewR (Herd.nil w) _ dat HS.out HBY.out (by omega))
  go_enter Tryd.func6, Tryd.ntmps6
  go_wp2_with fail
  refine HNR.out.mono ?_
  rintro e w1 ⟨g, K, rfl, h1⟩
  have HRD := hide (hread h1 0 rfl HT.out HO.out)
  have HSO := hide (fun q => rd_sound (p := 0) (bit_unpack dat) q)
  have HCS := hide (rd_cases (unpack dat) 0)
  have HER := hide (rd_errs (unpack dat) 0)
  clear h1
  obtain ⟨A, HA⟩ : ∃ A, Hid (A = rdA (unpack dat) 0) := ⟨_, rfl⟩
  rw [← HA.out] at HRD HSO HCS HER
  obtain ⟨E, L, D, Q⟩ := A
  simp only at HRD HSO HCS HER
  go_wp2_with fail
  refine HRD.out.mono ?_
  rintro e w2 ⟨a2, c2, a3, c3, q, K1, K2, rfl, hq, h2⟩
  have HX2 : Hid (Herd w w2 [(K, tr g (unpack dat) q), (K1, ti (.slice a2 L.length c2) L), (K2, ti (.slice a3 D.length c3) D)]) := h2
  clear h2 hq
  by_cases e0 : E = 0
  case neg =>
    have e0' : (E != 0) = true := by simpa using e0
    obtain ⟨rfl, rfl⟩ : L = [] ∧ D = [] := by
      rcases HCS.out with ⟨_, h⟩ | ⟨h, _⟩
      · exact h
      · exact absurd h e0
    have hr : 70 ≤ E ∧ E ≤ 76 := by rcases HER.out with h | h; exact absurd h e0; exact h
    have hr1 := hr.1
    have hr2 := hr.2
    clear hr
    go_wp2_with fail
    refine (lnm_any w2 E).mono ?_
    rintro e w9 ⟨rfl, hw9⟩
    rw [hw9]
    clear hw9
    go_wp2_with fail
    refine (lnm_any w2 E).mono ?_
    rintro e w9 ⟨rfl, hw9⟩
    rw [hw9]
    clear hw9
    go_wp2
    go_ret
    exact ⟨rfl, HX2.out.bel⟩
  subst e0
  obtain ⟨m0, l1, l2, d1, d2⟩ := HSO.out rfl
  have HM0 := hide m0
  have g1 : ¬ (L.length : Int) < 257 := by omega
  have g2 : ¬ (286 : Int) < (L.length : Int) := by omega
  have g3 : ¬ (D.length : Int) < 1 := by omega
  have g4 : ¬ (30 : Int) < (D.length : Int) := by omega
  have HL2 := hide (HX2.out.isi 1 rfl)
  have HD2 := hide (HX2.out.isi 2 rfl)
  have HVD := hide (verdict_any _ _ L D w2 HL2.out HD2.out)
  rw [← vd_mk, HM0.out] at HVD
  have HNW := hide (hnewW HX2.out)
  clear m0
  go_wp2_with fail
  refine HVD.out.mono ?_
  rintro e w9 ⟨rfl, hw9⟩
  rw [hw9]
  clear hw9
  go_wp2_with fail
  refine HNW.out.mono ?_
  rintro e w3 ⟨gw, K3, rfl, h3⟩
  have HX3 : Hid (Herd w w3 [(K, tr g (unpack dat) q), (K1, ti (.slice a2 L.length c2) L), (K2, ti (.slice a3 D.length c3) D), (K3, tw gw [])]) := h3
  have HL3 := hide (HX3.out.isi 1 rfl)
  have HD3 := hide (HX3.out.isi 2 rfl)
  clear h3
  go_wp2_with fail
  refine (ints_any _ L w3 HL3.out (by omega)).mono ?_
  rintro e w4 ⟨v4, rfl, hv4, o4, b4⟩
  subst hv4
  have HX4 := hide (HX3.out.below b4)
  have HO4 := hide o4
  have HD4 := hide (HD3.out.below b4)
  clear o4 b4
  go_wp2_with fail
  refine (ints_any _ D w4 HD4.out (by omega)).mono ?_
  rintro e w5 ⟨v5, rfl, hv5, o5, b5⟩
  subst hv5
  have HX5 := hide (HX4.out.below b5)
  have HWR := hide (hwrite HX5.out 3 rfl _ _ L D (HO4.out.below b5 (Nat.le_refl _)).sb o5.sb HT.out HO.out)
  obtain ⟨wf1, wf2, -⟩ := wr_facts (l := L) (d := D) (row := []) (by simp)
  rw [wf1, wf2 HM0.out, HM0.out, List.nil_append] at HWR
  clear o5 b5 wf1 wf2
  go_wp2_with fail
  refine HWR.out.mono ?_
  rintro e w6 ⟨rfl, K6, h6⟩
  have HX6 : Hid (Herd w w6 [(K, tr g (unpack dat) q), (K1, ti (.slice a2 L.length c2) L), (K2, ti (.slice a3 D.length c3) D), (K6, tw gw (mkB L D))]) := h6
  have HBT := hide (HX6.out.bit 3 rfl).1
  have HBS := hide (hbytes HX6.out 3 rfl)
  clear h6
  go_wp2_with fail
  refine HBS.out.mono ?_
  rintro e w7 ⟨a7, c7, K7, rfl, h7⟩
  have HX7 : Hid (Herd w w7 [(K, tr g (unpack dat) q), (K1, ti (.slice a2 L.length c2) L), (K2, ti (.slice a3 D.length c3) D), (K6, tw gw (mkB L D)), (K7, tl (.slice a7 (pack (mkB L D)).length c7) (pack (mkB L D)))]) := h7
  have HNR2 := hide (hnewR HX7.out _ _ (HX7.out.sb 4 rfl) (unpack_pack HBT.out).2 (by rw [length_pack HBT.out]; have := (mkB_len HM0.out).2; omega))
  clear h7
  go_wp2_with fail
  refine HNR2.out.mono ?_
  rintro e w8 ⟨g8, K8, rfl, h8⟩
  have HX8 : Hid (Herd w w8 [(K, tr g (unpack dat) q), (K1, ti (.slice a2 L.length c2) L), (K2, ti (.slice a3 D.length c3) D), (K6, tw gw (mkB L D)), (K7, tl (.slice a7 (pack (mkB L D)).length c7) (pack (mkB L D))), (K8, tr g8 (unpack (pack (mkB L D))) 0)]) := h8
  have HRD2 := hide (hread HX8.out 5 rfl HT.out HO.out)
  rw [rd_pad HM0.out HBT.out rfl] at HRD2
  simp only at HRD2
  clear h8
  go_wp2_with fail
  refine HRD2.out.mono ?_
  rintro e w10 ⟨aA, cA, aB, cB, q10, KA, KB, rfl, hq10, h10⟩
  have HXA : Hid (Herd w w10 [(K, tr g (unpack dat) q), (K1, ti (.slice a2 L.length c2) L), (K2, ti (.slice a3 D.length c3) D), (K6, tw gw (mkB L D)), (K7, tl (.slice a7 (pack (mkB L D)).length c7) (pack (mkB L D))), (K8, tr g8 (unpack (pack (mkB L D))) q10), (KA, ti (.slice aA (mkL L).length cA) (mkL L)), (KB, ti (.slice aB (mkD D).length cB) (mkD D))]) := h10
  have HQ1 := hide (begins_any _ _ (mkL L) L w10 (HXA.out.isi 6 rfl) (HXA.out.isi 1 rfl) (fun k => trm_getD L 257 k))
  have HQ2 := hide (begins_any _ _ (mkD D) D w10 (HXA.out.isi 7 rfl) (HXA.out.isi 2 rfl) (fun k => trm_getD D 1 k))
  clear h10 hq10
  go_wp2_with fail
  refine HQ1.out.mono ?_
  rintro e w11 ⟨rfl, hw11⟩
  rw [hw11]
  clear hw11
  go_wp2_with fail
  refine HQ2.out.mono ?_
  rintro e w11 ⟨rfl, hw11⟩
  rw [hw11]
  clear hw11
  go_wp2
  go_ret
  exact ⟨rfl, HXA.out.bel⟩
end Go.Proofs.YtiabhmdefaabgabDoor

