import Derived.Test.YthlbmpmbbdaboabRdw
namespace Go.Proofs.Ythlbmpmbbdaboab
open Go.RowKit Go.Maps
set_option maxRecDepth 20000

def Rst (W : World) (g0 dg xg rg qg : Nat) (c0 : Nat) (l0 l U : List Int) (p : Nat) (wr : World) : Prop :=
  ∃ K0 K1 K2 K3 K4, Herd W wr [(K0, ti (.slice (some ⟨g0, 0, none⟩) l0.length c0) l0), (K1, td dg l), (K2, tdx xg l), (K3, tr rg U p), (K4, tq qg U p)]

set_option maxHeartbeats 4000000 in
theorem reads_yes (v u : Value) (l data : List Int) (skip : Int) (w : World) (h : SI w v l) (h2 : SB w u data) (hB : Byt data) (hr : l.length ≤ 17592186043904) (hd : dcE l = 0) :
    Calls Try.prog 5 #[v, u, .int .i64 skip] w fun e w' => e = .returned (.bool true) ∧ Below w.heap.size w w' := by
  have HS := hide h
  have HU := hide h2
  have HBy := hide hB
  obtain ⟨ao, cap, rfl, hlc, hcm⟩ := h.open
  obtain ⟨au, cau, rfl⟩ := h2.len
  clear h h2 hB
  have HD := hide hd
  have HL := hide (dcE_zero hd).1
  clear hd
  go_enter Try.func5, Try.ntmps5
  go_wp2_with fail
  refine (framed_any _ l w HS.out hr).mono ?_
  rintro e w1 ⟨v', rfl, hf, hb1⟩
  obtain ⟨g, c, hv, h1, h2, h3, h4, hsi⟩ := hf.form
  obtain ⟨KF, hh1⟩ := (Herd.nil w).ilist hb1 (show OI w1 w.heap.size v' (l ++ mk3) from hf)
  have HI := hide hsi
  have HH1 : Hid (Herd w w1 [(KF, ti v' (l ++ mk3))]) := hh1
  have hl3 : (l ++ mk3).length = l.length + 3 := length_fr l
  have HL3 := hide hl3
  subst hv
  clear hf hb1 hsi hh1 hl3
  go_wp2_with fail
  refine (hdecode HH1.out _ l HI.out).mono ?_
  rintro e w2 (⟨h0, _⟩ | ⟨_, dg, K1, rfl, hh2⟩)
  · exact absurd HD.out h0
  have HH2 : Hid (Herd w w2 [(KF, ti (.slice (some ⟨g, 0, none⟩) (l.length + 3) c) (l ++ mk3)), (K1, td dg l)]) := hh2
  have HS2 := hide (HS.out.below hh2.bel)
  clear hh2
  go_wp2_with fail
  refine (hxdecode HH2.out _ l HS2.out).mono ?_
  rintro e w3 (⟨h0, _⟩ | ⟨_, xg, K2, rfl, hh3⟩)
  · exact absurd HD.out h0
  have HH3 : Hid (Herd w w3 [(KF, ti (.slice (some ⟨g, 0, none⟩) (l.length + 3) c) (l ++ mk3)), (K1, td dg l), (K2, tdx xg l)]) := hh3
  have HS3 := hide (HS.out.below hh3.bel)
  have HF3 : Hid (Framed w3 0 (.slice (some ⟨g, 0, none⟩) (l.length + 3) c) l) := HH3.out.ioi 0 rfl
  clear hh3
  go_wp2_with fail
  refine (num_any _ _).mono ?_
  rintro e w4 ⟨rfl, rfl⟩
  go_wp2_with fail
  refine (whole_any _ _ l _ _ HF3.out HS3.out hr).mono ?_
  rintro e w5 ⟨rfl, n5, rfl⟩
  have HH5 := hide (HH3.out.drewN n5)
  go_wp2_with fail
  refine (spoil_any HH5.out 0 rfl _ l.length c (by rw [HL3.out]; omega) (by omega) (by omega) (fun _ => ⟨g, c, by rw [HL3.out], rfl⟩)).mono ?_
  rintro e w6 ⟨rfl, hh6⟩
  obtain ⟨l0, HL0⟩ : ∃ l0, Hid (l0 = List.replicate l.length (9 : Int) ++ (l ++ mk3).drop l.length) := ⟨_, rfl⟩
  have hl0 : l0.length = l.length + 3 := by rw [HL0.out, len_rep _ _ (by rw [HL3.out]; omega), HL3.out]
  rw [← HL0.out] at hh6
  have HH6 : Hid (Herd w w6 [(KF, ti (.slice (some ⟨g, 0, none⟩) l0.length c) l0), (K1, td dg l), (K2, tdx xg l)]) := by rw [hl0]; exact hh6
  have HU6 := hide (HU.out.below hh6.bel)
  clear hh6 HH1 HH2 HH3 HH5 HF3
  by_cases hdl : data.length ≤ 33554432
  case neg =>
    go_wp2_with fail
    refine (newReader_no _ data _ HU6.out hdl).mono ?_
    rintro e w7 ⟨rfl, rfl⟩
    go_wp2_with fail
    refine (qnewReader_no _ data _ HU6.out hdl).mono ?_
    rintro e w8 ⟨rfl, rfl⟩
    have HB := hide HH6.out.bel
    go_wp2
    go_ret
    exact ⟨rfl, HB.out⟩
  go_wp2_with fail
  refine (hnewR HH6.out _ data HU6.out HBy.out hdl).mono ?_
  rintro e w7 ⟨rg, Kr, rfl, hh7⟩
  have HH7 : Hid (Herd w w7 [(KF, ti (.slice (some ⟨g, 0, none⟩) l0.length c) l0), (K1, td dg l), (K2, tdx xg l), (Kr, tr rg (unpack data) 0)]) := hh7
  have HU7 := hide (HU.out.below hh7.bel)
  clear hh7
  go_wp2_with fail
  refine (hqnew HH7.out _ data HU7.out HBy.out hdl).mono ?_
  rintro e w8 ⟨qg, Kq, rfl, hh8⟩
  have HH8 : Hid (Herd w w8 [(KF, ti (.slice (some ⟨g, 0, none⟩) l0.length c) l0), (K1, td dg l), (K2, tdx xg l), (Kr, tr rg (unpack data) 0), (Kq, tq qg (unpack data) 0)]) := hh8
  clear hh8
  go_wp2_with fail
  refine (hskip HH8.out 3 rfl skip).mono ?_
  rintro e w9 ⟨rfl, hh9⟩
  have HH9 := hide hh9
  clear hh9
  go_wp2_with fail
  refine (hqskip HH9.out 4 rfl skip).mono ?_
  rintro e w10 ⟨rfl, hh10⟩
  obtain ⟨U, HUU⟩ : ∃ U, Hid (U = unpack data) := ⟨_, rfl⟩
  have hUl : U.length = 8 * data.length := by rw [HUU.out, length_unpack]
  rw [← HUU.out] at hh10
  have hp0 : skipP U 0 skip ≤ U.length := by unfold skipP; split; omega; split; omega; omega
  obtain ⟨p0, HP0⟩ : ∃ p, Hid (p = skipP U 0 skip) := ⟨_, rfl⟩
  rw [← HP0.out] at hh10 hp0
  have HR0 : Hid (Rst w g dg xg rg qg c l0 l U p0 w10) := ⟨KF, K1, K2, Kr, Kq, hh10⟩
  obtain ⟨sk, HSK⟩ : ∃ s, Hid (s = skipE (unpack data) 0 skip) := ⟨_, rfl⟩
  rw [← HSK.out]
  clear hh10 HH6 HH7 HH8 HH9
  go_wp2
  go_loopw [15] (fun q wr => ∃ k p : Nat, k ≤ p ∧ p ≤ 8 * data.length ∧ q = .int .i64 k ∧ Hid (Rst w g dg xg rg qg c l0 l U p wr)) (fun q _ => 8 * data.length + 1 - (intOf q).toNat)
  case atStart => exact ⟨0, p0, Nat.zero_le _, by omega, rfl, HR0⟩
  case round =>
    clear HR0
    obtain ⟨k, p, hkp, hp, rfl, HT⟩ := hrel
    obtain ⟨K0', K1', K2', K3', K4', hh⟩ := HT.out
    have HH := hide hh
    clear hh HT
    have hkl : (k : Int) ≤ 8 * (data.length : Int) := by omega
    obtain ⟨nS, HNS⟩ : ∃ n, Hid (n = nxS l U p) := ⟨_, rfl⟩
    obtain ⟨nE, HNE⟩ : ∃ n, Hid (n = nxE l U p) := ⟨_, rfl⟩
    obtain ⟨nP, HNP⟩ : ∃ n, Hid (n = nxP l U p) := ⟨_, rfl⟩
    go_wp2_with fail
    refine (hnext HH.out 1 3 rfl rfl).mono ?_
    rintro e w11 ⟨rfl, hh11⟩
    rw [← HNS.out, ← HNE.out]
    rw [← HNP.out] at hh11
    have HH11 : Hid (Herd w w11 [(K0', ti (.slice (some ⟨g, 0, none⟩) l0.length c) l0), (K1', td dg l), (K2', tdx xg l), (K3', tr rg U nP), (K4', tq qg U p)]) := hh11
    clear hh11
    go_wp2_with fail
    refine (hxnext HH11.out 2 4 rfl rfl).mono ?_
    rintro e w12 ⟨rfl, hh12⟩
    rw [← HNS.out, ← HNE.out]
    rw [← HNP.out] at hh12
    have HH12 : Hid (Herd w w12 [(K0', ti (.slice (some ⟨g, 0, none⟩) l0.length c) l0), (K1', td dg l), (K2', tdx xg l), (K3', tr rg U nP), (K4', tq qg U nP)]) := hh12
    clear hh12
    go_wp2_with fail
    refine (num_any _ _).mono ?_
    rintro e wx ⟨rfl, rfl⟩
    go_wp2_with fail
    refine (hat HH12.out 3 rfl).mono ?_
    rintro e w13 ⟨rfl, hh13⟩
    have HH13 := hide hh13
    clear hh13
    go_wp2_with fail
    refine (hqat HH13.out 4 rfl).mono ?_
    rintro e w14 ⟨rfl, hh14⟩
    have HH14 := hide hh14
    clear hh14
    by_cases he : nE = 0
    · have hmv := nx_move HL.out (show nxE l U p = 0 by rw [← HNE.out]; exact he)
      rw [← HNP.out, hUl] at hmv
      subst he
      have HN : Hid (Rst w g dg xg rg qg c l0 l U nP w14) := ⟨_, _, _, _, _, HH14.out⟩
      go_wp2
      go_roundw
      case rel => exact ⟨k + 1, nP, by omega, by omega, by go_num, HN⟩
      case measure => simp [intOf]; omega
    · have hst := nx_stay (show nxE l U p ≠ 0 by rw [← HNE.out]; exact he)
      have HPE : Hid (nP = p) := by show _ = _; rw [HNP.out]; exact hst.2
      have HSE : Hid (nxS l U p = 0) := hst.1
      rw [HPE.out] at HH14
      have he' : (nE == 0) = false := by simpa using he
      clear hst
      go_wp2_with fail
      refine (hnext HH14.out 1 3 rfl rfl).mono ?_
      rintro e w15 ⟨rfl, hh15⟩
      rw [HSE.out, ← HNE.out]
      rw [← HNP.out, HPE.out] at hh15
      have HH15 : Hid (Herd w w15 [(K0', ti (.slice (some ⟨g, 0, none⟩) l0.length c) l0), (K1', td dg l), (K2', tdx xg l), (K3', tr rg U p), (K4', tq qg U p)]) := hh15
      clear hh15
      go_wp2_with fail
      refine (num_any _ _).mono ?_
      rintro e wx ⟨rfl, rfl⟩
      go_wp2_with fail
      refine (hat HH15.out 3 rfl).mono ?_
      rintro e w16 ⟨rfl, hh16⟩
      have HH16 := hide hh16
      clear hh16
      go_wp2_with fail
      refine (hqat HH16.out 4 rfl).mono ?_
      rintro e w17 ⟨rfl, hh17⟩
      have HB := hide hh17.bel
      clear hh17
      go_wp2
      go_ret
      exact ⟨by first | rfl | simp, HB.out⟩

theorem reads_walk (v u : Value) (l data : List Int) (skip : Int) (w : World) (h : SI w v l) (h2 : SB w u data) (hB : Byt data) (hr : l.length ≤ 17592186043904) :
    Calls Try.prog 5 #[v, u, .int .i64 skip] w fun e w' => e = .returned (.bool true) ∧ Below w.heap.size w w' := by
  by_cases hd : dcE l = 0
  · exact reads_yes v u l data skip w h h2 hB hr hd
  · exact reads_no v u l data skip w h h2 hB hr hd
end Go.Proofs.Ythlbmpmbbdaboab
