import Derived.Test.YtmjdpfigkojolaaGreatDoorG06Rhl
namespace Go.Proofs.YtmjdpfigkojolaaGreatDoor
open Go.RowKit Go.Maps
set_option maxRecDepth 20000
set_option linter.unusedVariables false

set_option maxHeartbeats 4000000 in
theorem hread {W w : World} {xs : List ((Nat → Nat) × Thing)} (H : Herd W w xs) (i : Nat) {K : Nat → Nat} {g : Nat} {row : List Int} {p : Nat} (hi : xs[i]? = some (K, tr g row p)) (T : Tab W) (O : Odr W) :
    Calls Tryz.prog 69 #[.pointer (some ⟨g, 0, none⟩)] w fun e w' => ∃ a1 c1 a2 c2 q K1 K2, e = .returned (.tuple #[.slice a1 (rdA row p).2.1.length c1, .slice a2 (rdA row p).2.2.1.length c2, .int .i64 (rdA row p).1]) ∧ ((rdA row p).1 = 0 → q = (rdA row p).2.2.2) ∧ Herd W w' (xs.set i (K, tr g row q) ++ [(K1, ti (.slice a1 (rdA row p).2.1.length c1) (rdA row p).2.1)] ++ [(K2, ti (.slice a2 (rdA row p).2.2.1.length c2) (rdA row p).2.2.1)]) := by
  have hR : Rp w K g row p := H.rep i _ hi
  have HBT := hide hR.bit
  have HI := hide hi
  have HT := hide T
  have HO := hide O
  have HCN := hide (hcounts H i hi)
  have HNO : Hid (∀ (w' : World) (q : Nat), Herd W w' (xs.set i (K, tr g row q)) → Herd W w' (xs.set i (K, tr g row q) ++ [(fun _ => 0, ti (.slice none 0 0) [])] ++ [(fun _ => 0, ti (.slice none 0 0) [])])) := fun w' q h => h.nilI.nilI
  obtain ⟨A, HA⟩ : ∃ A, Hid (A = rdA row p) := ⟨_, rfl⟩
  rw [← HA.out]
  clear H hi hR T O
  go_enter Tryz.func69, Tryz.ntmps69
  go_wp2_with fail
  refine HCN.out.mono ?_
  rintro e w1 ⟨a, b, c, q1, rfl, h1, hok⟩
  obtain ⟨E1, HE1⟩ : ∃ E1, Hid (E1 = rcE row p) := ⟨_, rfl⟩
  rw [← HE1.out] at hok ⊢
  have HX1 := hide h1
  have HOK := hide hok
  clear h1 hok
  by_cases e1 : E1 = 0
  case neg =>
    have e1' : (E1 != 0) = true := by simpa using e1
    have HF : Hid (A = (E1, [], [], p)) := by show _ = _; rw [HA.out, HE1.out]; exact rd_c (by rw [← HE1.out]; exact e1)
    have HN := hide (HNO.out _ _ (HX1.out.below ((Below.refl _ _).alloc (Nat.le_refl _) (.cells #[.int .i64 a, .int .i64 b, .int .i64 c] 136))))
    go_wp2
    refine bodyPost_ret (v := .tuple #[.slice none 0 0, .slice none 0 0, .int .i64 E1]) (by simp [results, Tryz.results69, go_sem]) rfl ?_
    rw [HF.out]
    exact ⟨none, 0, none, 0, q1, _, _, rfl, fun h => absurd h e1, HN.out⟩
  subst e1
  obtain ⟨o1, o2, o3, o4⟩ := HOK.out rfl
  subst o1
  have hbd : (a : Int) ≤ 286 ∧ (b : Int) ≤ 30 ∧ (c : Int) ≤ 19 := by
    have h := HE1.out
    unfold rcE at h
    by_cases c0 : row.length < p + 14
    · rw [if_pos c0] at h; omega
    · rw [if_neg c0] at h
      by_cases c1 : 286 < rcL row p ∨ 30 < rcD row p
      · rw [if_pos c1] at h; omega
      · have hv := (ahead_bound HBT.out p 14).2
        have hv2 : ahead row p 14 < 16384 := hv
        have : rcN row p ≤ 19 := by unfold rcN; omega
        omega
  have ha257 : 257 ≤ a := by rw [o2]; unfold rcL; omega
  have hb1 : 1 ≤ b := by rw [o3]; unfold rcD; omega
  have HRC : Hid (rcE row p = 0) := HE1.out.symm
  obtain ⟨wx, hwx⟩ : ∃ wx, w1.alloc (.cells #[.int .i64 a, .int .i64 b, .int .i64 c] 136) = wx := ⟨_, rfl⟩
  obtain ⟨KB, hbox⟩ := HX1.out.box1 (.cells #[.int .i64 a, .int .i64 b, .int .i64 c] 136)
  rw [hwx] at hbox
  have hcb : Cbox wx w1.heap.size a b c := hbox.tbs
  obtain ⟨x0, x1, x2⟩ := hcb.cells
  have HWX := hide hwx
  have HSM := hide (hsmall hbox i (get_front (getset HI.out)) c (by omega) HO.out)
  rw [setf (getset HI.out), List.set_set] at HSM
  have HO2 := hide o2
  have HO3 := hide o3
  have HO4 := hide o4
  clear hbox hcb hwx o2 o3 o4 HOK HX1
  go_wp2_with fail
  rw [HWX.out]
  refine HSM.out.mono ?_
  rintro e w2 (⟨hne, rfl, q2, h2⟩ | ⟨hz, gd, Kd, rfl, h2⟩)
  · obtain ⟨E2, HE2⟩ : ∃ E2, Hid (E2 = smE row (p + 14) c) := ⟨_, rfl⟩
    rw [← HE2.out] at hne ⊢
    have e2' : (E2 != 0) = true := by simpa using hne
    have HF : Hid (A = (E2, [], [], p)) := by show _ = _; rw [HA.out, HE2.out, HO4.out]; exact rd_s HRC.out (by rw [← HO4.out, ← HE2.out]; exact hne)
    rw [setf (getset HI.out), List.set_set] at h2
    have HN := hide (HNO.out _ _ h2.front)
    clear h2
    go_wp2
    refine bodyPost_ret (v := .tuple #[.slice none 0 0, .slice none 0 0, .int .i64 E2]) (by simp [results, Tryz.results69, go_sem]) rfl ?_
    rw [HF.out]
    exact ⟨none, 0, none, 0, q2, _, _, rfl, fun h => absurd h hne, HN.out⟩
  have hcb : Cbox w2 w1.heap.size a b c := (h2.front).tbs
  have HSE : Hid (smE row (p + 14) (rcN row p) = 0) := by rw [← HO4.out]; exact hide hz
  clear x0 x1 x2 HSM
  obtain ⟨x0, x1, x2⟩ := hcb.cells
  have HLE := hide (hlens h2 i _ (by have := (List.getElem?_eq_some_iff.1 HI.out).1; simp; omega) (get_front (get_front (getset HI.out))) (get_last _ _) (by rw [smC_len19]) HT.out (a + b) (by omega))
  have HX2 := hide h2
  clear h2 hcb hz
  obtain ⟨x, hx⟩ : ∃ x, rl (smC row (p + 14) c) row (a + b) (a + b) [] (p + 14 + 3 * c) = x := ⟨_, rfl⟩
  rw [hx] at HLE
  have HRD := hide (rd_l HRC.out HSE.out (x := x) (by rw [← HO2.out, ← HO3.out, ← HO4.out]; exact hx))
  rw [← HA.out, ← HO2.out] at HRD
  have HRF := hide (rl_facts (C := smC row (p + 14) c) HBT.out (a + b) (a + b) [] (p + 14 + 3 * c) (by simp) (by simp) (by simp))
  rw [hx] at HRF
  obtain ⟨E3, L, Q⟩ := x
  simp only at HRD HLE HRF
  clear hx
  go_wp2_with fail
  refine HLE.out.mono ?_
  rintro e w3 (⟨hne, rfl, q3, h3⟩ | ⟨hz, aL, cL, Kl, rfl, h3⟩)
  · rw [setf (get_front (getset HI.out)), setf (getset HI.out), List.set_set] at h3
    have e3' : (E3 != 0) = true := by simpa using hne
    have HF : Hid (A = (E3, [], [], p)) := by show _ = _; rw [HRD.out, if_pos hne]
    have HN := hide (HNO.out _ _ h3.front.front)
    clear h3 x0 x1 x2
    go_wp2
    refine bodyPost_ret (v := .tuple #[.slice none 0 0, .slice none 0 0, .int .i64 E3]) (by simp [results, Tryz.results69, go_sem]) rfl ?_
    rw [HF.out]
    exact ⟨none, 0, none, 0, q3, _, _, rfl, fun h => absurd h hne, HN.out⟩
  subst hz
  rw [setf (get_front (getset HI.out)), setf (getset HI.out), List.set_set] at h3
  have hll : L.length = a + b := (HRF.out rfl).1
  have hcb : Cbox w3 w1.heap.size a b c := h3.front.front.tbs
  clear x0 x1 x2
  obtain ⟨y0, y1, y2⟩ := hcb.cells
  have hoL := h3.ioi _ (get_last _ _)
  obtain ⟨gJ, cJ, hv, hJ1, hJ2, hJ3, hJ4⟩ := hoL.form (by omega)
  simp only [Value.slice.injEq, true_and] at hv
  obtain ⟨rfl, rfl⟩ := hv
  have hsj := hoL.sb
  have hP1 : SI w3 (.slice (some ⟨gJ, 0, none⟩) a cL) (L.take a) := by
    have := hsj.sub (i := 0) (j := a) (Nat.zero_le _) (by omega)
    rwa [List.drop_zero, Nat.sub_zero, Nat.sub_zero, Nat.add_zero] at this
  have hP2 : SI w3 (.slice (some ⟨gJ, a, none⟩) b (cL - a)) (L.drop a) := by
    have := hsj.sub (i := a) (j := a + b) (by omega) (by omega)
    rwa [Nat.zero_add, Nat.add_sub_cancel_left, List.take_of_length_le (by rw [List.length_drop]; omega)] at this
  have htl : (L.take a).length = a := by rw [List.length_take]; omega
  have hdl : (L.drop a).length = b := by rw [List.length_drop]; omega
  have HC1 : Hid (∀ W', Below w3.heap.size w3 W' → Calls Tryz.prog 91 #[.slice (some ⟨gJ, 0, none⟩) a cL] W' fun e w' => ∃ a1 c1, e = .returned (.slice a1 a c1) ∧ OI w' W'.heap.size (.slice a1 a c1) (L.take a) ∧ Below W'.heap.size W' w') := fun W' hW' => by
    have := cloneI_any _ (L.take a) W' (hP1.below hW') (by omega)
    rwa [htl] at this
  have HC2 : Hid (∀ W', Below w3.heap.size w3 W' → Calls Tryz.prog 91 #[.slice (some ⟨gJ, a, none⟩) b (cL - a)] W' fun e w' => ∃ a1 c1, e = .returned (.slice a1 b c1) ∧ OI w' W'.heap.size (.slice a1 b c1) (L.drop a) ∧ Below W'.heap.size W' w') := fun W' hW' => by
    have := cloneI_any _ (L.drop a) W' (hP2.below hW') (by omega)
    rwa [hdl] at this
  have HX3 := hide h3.front.front.front
  have HCB := hide hcb
  have HTL := hide htl
  have HDL := hide hdl
  have hcap : a + b ≤ cL := by omega
  have hcap1 : ¬ (cL : Int) < (a : Int) := by omega
  have hcap2 : ¬ cL = a := by omega
  have hla : ¬ ((a + b : Nat) : Int) < (a : Int) := by omega
  have hce : (cL : Int) - (a : Int) = ((cL - a : Nat) : Int) := by omega
  have hla2 : ((a + b : Nat) : Int) - (a : Int) = (b : Int) := by omega
  rw [hll]
  clear h3 hcb hoL hsj hP1 hP2 htl hdl HLE HX2 HCN
  go_wp2
  go_region_with (go_at_call 91; first
    | (with_reducible refine (HC1.out _ (Below.refl _ _).drew).mono ?_
       rintro e w4 ⟨a4, c4, rfl, o4, b4⟩
       have HO4 := hide o4
       have HB4 : Hid (Below w3.heap.size w3 w4) := (Below.refl _ _).drew.trans b4
       have y4 := (HCB.out.below HB4.out).cells.1
       clear o4 b4)
    | (with_reducible refine (HC2.out _ HB4.out).mono ?_
       rintro e w5 ⟨a5, c5, rfl, o5, b5⟩
       have HO5 := hide o5
       have HB5 := hide b5
       clear o5 b5))
  all_goals
    obtain ⟨K4, h4⟩ := HX3.out.ilist HB4.out HO4.out
    obtain ⟨K5, h5⟩ := h4.ilist HB5.out HO5.out
    have HX5 := hide h5
    have HS4 := hide ((HO4.out.below HB5.out (Nat.le_refl _)).sb)
    have HS5 := hide HO5.out.sb
    have HCH := hide (hcheck_any _ _ (L.take a) (L.drop a) w5 HS4.out HS5.out (by rw [HTL.out]; exact ha257))
    clear h4 h5
    go_wp2_with fail
    refine HCH.out.mono ?_
    rintro e w6 ⟨rfl, b6⟩
    have HX6 := hide (HX5.out.below b6)
    obtain ⟨E4, HE4⟩ : ∃ E4, Hid (E4 = hck (L.take a) (L.drop a)) := ⟨_, rfl⟩
    rw [← HE4.out] at HRD ⊢
    clear b6
    by_cases e4 : E4 = 0
    · subst e4
      have HF : Hid (A = (0, L.take a, L.drop a, Q)) := by show _ = _; rw [HRD.out, if_neg (by simp), if_neg (by simp)]
      go_wp2
      refine bodyPost_ret (v := .tuple #[.slice a4 a c4, .slice a5 b c5, .int .i64 0]) (by simp [results, Tryz.results69, go_sem]) rfl ?_
      rw [HF.out]
      simp only
      rw [HTL.out, HDL.out]
      exact ⟨a4, c4, a5, c5, Q, K4, K5, rfl, fun _ => rfl, HX6.out⟩
    · have e4' : (E4 != 0) = true := by simpa using e4
      have HF : Hid (A = (E4, [], [], p)) := by show _ = _; rw [HRD.out, if_neg (by simp), if_pos e4]
      have HN := hide (HNO.out _ _ HX6.out.front.front)
      go_wp2
      refine bodyPost_ret (v := .tuple #[.slice none 0 0, .slice none 0 0, .int .i64 E4]) (by simp [results, Tryz.results69, go_sem]) rfl ?_
      rw [HF.out]
      exact ⟨none, 0, none, 0, Q, _, _, rfl, fun h => absurd h e4, HN.out⟩
end Go.Proofs.YtmjdpfigkojolaaGreatDoor

