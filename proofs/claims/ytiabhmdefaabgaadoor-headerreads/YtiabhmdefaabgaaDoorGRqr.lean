import Derived.Test.YtiabhmdefaabgaaDoorGRql
namespace Go.Proofs.YtiabhmdefaabgaaDoor
open Go.RowKit Go.Maps
set_option maxRecDepth 20000
set_option linter.unusedVariables false

set_option maxHeartbeats 8000000 in
theorem hxread {W w : World} {xs : List ((Nat → Nat) × Thing)} (H : Herd W w xs) (i : Nat) {K : Nat → Nat} {g : Nat} {row : List Int} {p : Nat} (hi : xs[i]? = some (K, tq g row p)) (hpl : p ≤ row.length) (hbt : Bit row) (O : Xodr W) :
    Calls Tryd.prog 30 #[.pointer (some ⟨g, 0, none⟩)] w fun e w' => ∃ a1 c1 a2 c2 q, e = .returned (.tuple #[.slice a1 (rdA row p).2.1.length c1, .slice a2 (rdA row p).2.2.1.length c2, .int .i64 (rdA row p).1]) ∧ ((rdA row p).1 = 0 → q = (rdA row p).2.2.2) ∧ Herd W w' (xs.set i (K, tq g row q)) ∧ SI w' (.slice a1 (rdA row p).2.1.length c1) (rdA row p).2.1 ∧ SI w' (.slice a2 (rdA row p).2.2.1.length c2) (rdA row p).2.2.1 := by
  have HBT := hide hbt
  have HI := hide hi
  have HO := hide O
  have HTK := hide (hqtake H i hi 14)
  have hab := ahead_bound hbt p 14
  have HNIL : Hid (∀ w' : World, SI w' (.slice none 0 0) []) := fun w' => by
    have h : OI w' 0 (.slice none 0 0) [] := World.ownsRow_nil _ _ _ _
    exact h.sb
  obtain ⟨A, HA⟩ : ∃ A, Hid (A = rdA row p) := ⟨_, rfl⟩
  rw [← HA.out]
  clear H hi O hbt
  go_enter Tryd.func30, Tryd.ntmps30
  go_wp2_with fail
  refine HTK.out.mono ?_
  rintro e w1 ⟨rfl, h1⟩
  have HX1 := hide h1
  clear h1 HTK
  by_cases hl : row.length < p + 14
  · have HE : Hid (rcE row p = 70) := by show _ = _; unfold rcE; rw [if_pos hl]
    have HF : Hid (A = (70, [], [], p)) := by show _ = _; rw [HA.out, rd_c (by rw [HE.out]; decide), HE.out]
    have e30 : takeE row p 14 = 30 := by unfold takeE; rw [if_pos ⟨by omega, by omega⟩, if_neg (by omega)]
    rw [e30]
    clear hab
    go_wp2
    refine bodyPost_ret (v := .tuple #[.slice none 0 0, .slice none 0 0, .int .i64 70]) (by simp [results, Tryd.results30, go_sem]) rfl ?_
    rw [HF.out]
    exact ⟨none, 0, none, 0, _, rfl, fun h => by simp only at h; omega, HX1.out, HNIL.out _, HNIL.out _⟩
  obtain ⟨t1, t2, t3⟩ := take_ok (takeOk_of (row := row) (p := p) (n := 14) (by omega) (by omega))
  have t1' : takeE row p 14 = 0 := t1
  have t2' : takeV row p 14 = ahead row p 14 := t2
  have t3' : takeP row p 14 = p + 14 := t3
  rw [t1', t2']
  rw [t3'] at HX1
  have hv2 : ahead row p 14 < 16384 := hab.2
  have hv1 := hab.1
  have HL0 : Hid (rcL row p = 257 + (ahead row p 14 % 32).toNat) := rfl
  have HD0 : Hid (rcD row p = 1 + (ahead row p 14 / 32 % 32).toNat) := rfl
  have HN0 : Hid (rcN row p = 4 + (ahead row p 14 / 1024).toNat) := rfl
  obtain ⟨V, HV⟩ : ∃ V, Hid (V = ahead row p 14) := ⟨_, rfl⟩
  rw [← HV.out] at hv1 hv2 HL0 HD0 HN0 ⊢
  obtain ⟨a, ha⟩ : ∃ a : Nat, 257 + V % 32 = (a : Int) := ⟨(257 + V % 32).toNat, by omega⟩
  obtain ⟨b, hb⟩ : ∃ b : Nat, 1 + V / 32 % 32 = (b : Int) := ⟨(1 + V / 32 % 32).toNat, by omega⟩
  obtain ⟨c, hc⟩ : ∃ c : Nat, 4 + V / 1024 = (c : Int) := ⟨(4 + V / 1024).toNat, by omega⟩
  have HO2 : Hid (a = rcL row p) := by show _ = _; rw [HL0.out]; omega
  have HO3 : Hid (b = rcD row p) := by show _ = _; rw [HD0.out]; omega
  have HO4 : Hid (c = rcN row p) := by show _ = _; rw [HN0.out]; omega
  have ha257 : 257 ≤ a := by omega
  have hb1 : 1 ≤ b := by omega
  have hc19 : c ≤ 19 := by omega
  clear hab t1 t2 t3 t1' t2' t3' HL0 HD0 HN0
  by_cases q1 : 286 < (a : Int)
  · have HE : Hid (rcE row p = 71) := by show _ = _; unfold rcE; rw [if_neg hl, if_pos (.inl (by rw [← HO2.out]; omega))]
    have HF : Hid (A = (71, [], [], p)) := by show _ = _; rw [HA.out, rd_c (by rw [HE.out]; decide), HE.out]
    go_wp2
    refine bodyPost_ret (v := .tuple #[.slice none 0 0, .slice none 0 0, .int .i64 71]) (by simp [results, Tryd.results30, go_sem]) rfl ?_
    rw [HF.out]
    exact ⟨none, 0, none, 0, _, rfl, fun h => by simp only at h; omega, HX1.out, HNIL.out _, HNIL.out _⟩
  by_cases q2 : 30 < (b : Int)
  · have HE : Hid (rcE row p = 71) := by show _ = _; unfold rcE; rw [if_neg hl, if_pos (.inr (by rw [← HO3.out]; omega))]
    have HF : Hid (A = (71, [], [], p)) := by show _ = _; rw [HA.out, rd_c (by rw [HE.out]; decide), HE.out]
    have q1' : decide (286 < (a : Int)) = false := decide_eq_false q1
    go_wp2
    refine bodyPost_ret (v := .tuple #[.slice none 0 0, .slice none 0 0, .int .i64 71]) (by simp [results, Tryd.results30, go_sem]) rfl ?_
    rw [HF.out]
    exact ⟨none, 0, none, 0, _, rfl, fun h => by simp only at h; omega, HX1.out, HNIL.out _, HNIL.out _⟩
  have HRC : Hid (rcE row p = 0) := by show _ = _; unfold rcE; rw [if_neg hl, if_neg (by rw [← HO2.out, ← HO3.out]; omega)]
  have HSM := hide (hxsmall HX1.out i (getset HI.out) c hc19 (by omega) HBT.out HO.out)
  rw [List.set_set] at HSM
  go_wp2_with fail
  refine HSM.out.mono ?_
  rintro e w2 (⟨hne, rfl, q, h2⟩ | ⟨hz, gb, Kc, rfl, h2⟩)
  · obtain ⟨E2, HE2⟩ : ∃ E2, Hid (E2 = smE row (p + 14) c) := ⟨_, rfl⟩
    rw [← HE2.out] at hne ⊢
    have e2' : (E2 != 0) = true := by simpa using hne
    have HF : Hid (A = (E2, [], [], p)) := by show _ = _; rw [HA.out, HE2.out, HO4.out]; exact rd_s HRC.out (by rw [← HO4.out, ← HE2.out]; exact hne)
    rw [List.set_set] at h2
    have HN := hide h2
    clear h2
    go_wp2
    refine bodyPost_ret (v := .tuple #[.slice none 0 0, .slice none 0 0, .int .i64 E2]) (by simp [results, Tryd.results30, go_sem]) rfl ?_
    rw [HF.out]
    exact ⟨none, 0, none, 0, q, rfl, fun h => absurd h hne, HN.out, HNIL.out _, HNIL.out _⟩
  have HSE : Hid (smE row (p + 14) (rcN row p) = 0) := by rw [← HO4.out]; exact hide hz
  have hdc : dcE (smC row (p + 14) c) = 0 := by
    unfold smE at hz
    by_cases z0 : row.length < p + 14 + 3 * c
    · rw [if_pos z0] at hz; omega
    · rw [if_neg z0] at hz
      by_cases z1 : chkS (smC row (p + 14) c) ≠ 4
      · rw [if_pos z1] at hz; omega
      · have hS : chkS (smC row (p + 14) c) = 4 := by omega
        unfold chkS at hS
        by_cases q : Lens (smC row (p + 14) c)
        · rw [if_pos q] at hS
          refine (dcE_iff _).2 ⟨?_, .inr hS⟩
          unfold chkE
          rw [if_neg (by have := q.1; omega), if_pos q]
        · rw [if_neg q] at hS; omega
  have HLE := hide (hxlists h2 i (get_front (getset HI.out)) _ (smC row (p + 14) c) (h2.isi _ (get_last _ _)) (smC_len19 _ _ _) hdc HBT.out (a + b) (by omega))
  clear h2 hz hdc HSM
  obtain ⟨x, hx⟩ : ∃ x, rl (smC row (p + 14) c) row (a + b) (a + b) [] (p + 14 + 3 * c) = x := ⟨_, rfl⟩
  rw [hx] at HLE
  have HRD := hide (rd_l HRC.out HSE.out (x := x) (by rw [← HO2.out, ← HO3.out, ← HO4.out]; exact hx))
  rw [← HA.out, ← HO2.out] at HRD
  have HRF := hide (rl_facts (C := smC row (p + 14) c) HBT.out (a + b) (a + b) [] (p + 14 + 3 * c) (by simp) (by simp) (by simp))
  rw [hx] at HRF
  obtain ⟨E3, L, Q⟩ := x
  simp only at HRD HLE HRF
  clear hx
  go_wp2_with fail
  refine HLE.out.mono ?_
  rintro e w3 (⟨hne, rfl, q3, h3⟩ | ⟨hz, aL, cL, Kl, rfl, h3⟩)
  · rw [setf (getset HI.out), List.set_set] at h3
    have e3' : (E3 != 0) = true := by simpa using hne
    have HF : Hid (A = (E3, [], [], p)) := by show _ = _; rw [HRD.out, if_pos hne]
    have HN := hide h3.front
    clear h3
    go_wp2
    refine bodyPost_ret (v := .tuple #[.slice none 0 0, .slice none 0 0, .int .i64 E3]) (by simp [results, Tryd.results30, go_sem]) rfl ?_
    rw [HF.out]
    exact ⟨none, 0, none, 0, q3, rfl, fun h => absurd h hne, HN.out, HNIL.out _, HNIL.out _⟩
  subst hz
  rw [setf (getset HI.out), List.set_set] at h3
  have hll : L.length = a + b := (HRF.out rfl).1
  have hoL := h3.ioi _ (get_last _ _)
  obtain ⟨gJ, cJ, hv, hJ1, hJ2, hJ3, hJ4⟩ := hoL.form (by omega)
  simp only [Value.slice.injEq, true_and] at hv
  obtain ⟨rfl, rfl⟩ := hv
  have hsj := hoL.sb
  have hP1 : SI w3 (.slice (some ⟨gJ, 0, none⟩) a cL) (L.take a) := by
    have := hsj.sub (i := 0) (j := a) (Nat.zero_le _) (by omega)
    rwa [List.drop_zero, Nat.sub_zero, Nat.sub_zero, Nat.add_zero] at this
  have hP2 : SI w3 (.slice (some ⟨gJ, a, none⟩) b (cL - a)) (L.drop a) := by
    have := hsj.sub (i := a) (j := a + b) (by omega) (by omega)
    rwa [Nat.zero_add, Nat.add_sub_cancel_left, List.take_of_length_le (by rw [List.length_drop]; omega)] at this
  have htl : (L.take a).length = a := by rw [List.length_take]; omega
  have hdl : (L.drop a).length = b := by rw [List.length_drop]; omega
  have HP1 := hide hP1
  have HP2 := hide hP2
  have HX3 := hide h3.front.front
  have HTL := hide htl
  have HDL := hide hdl
  have hcap : a + b ≤ cL := by omega
  have hcap1 : ¬ (cL : Int) < (a : Int) := by omega
  have hcap2 : ¬ cL = a := by omega
  have hla : ¬ ((a + b : Nat) : Int) < (a : Int) := by omega
  have hce : (cL : Int) - (a : Int) = ((cL - a : Nat) : Int) := by omega
  have hla2 : ((a + b : Nat) : Int) - (a : Int) = (b : Int) := by omega
  have HCD := hide (zcodes_any _ _ (L.take a) (L.drop a) w3 hP1 hP2 (by rw [htl]; exact ha257))
  rw [hll]
  clear h3 hoL hsj hP1 hP2 htl hdl HLE
  go_wp2_with fail
  refine HCD.out.mono ?_
  rintro e w4 ⟨rfl, hw4⟩
  rw [hw4]
  clear hw4
  obtain ⟨E4, HE4⟩ : ∃ E4, Hid (E4 = hck (L.take a) (L.drop a)) := ⟨_, rfl⟩
  rw [← HE4.out] at HRD ⊢
  by_cases e4 : E4 = 0
  · subst e4
    have HF : Hid (A = (0, L.take a, L.drop a, Q)) := by show _ = _; rw [HRD.out, if_neg (by simp), if_neg (by simp)]
    go_wp2
    refine bodyPost_ret (v := .tuple #[.slice (some ⟨gJ, 0, none⟩) a cL, .slice (some ⟨gJ, a, none⟩) b (cL - a), .int .i64 0]) (by simp [results, Tryd.results30, go_sem]) rfl ?_
    rw [HF.out]
    simp only
    rw [HTL.out, HDL.out]
    exact ⟨_, _, _, _, Q, rfl, fun _ => rfl, HX3.out, HP1.out, HP2.out⟩
  · have e4' : (E4 != 0) = true := by simpa using e4
    have HF : Hid (A = (E4, [], [], p)) := by show _ = _; rw [HRD.out, if_neg (by simp), if_pos e4]
    go_wp2
    refine bodyPost_ret (v := .tuple #[.slice none 0 0, .slice none 0 0, .int .i64 E4]) (by simp [results, Tryd.results30, go_sem]) rfl ?_
    rw [HF.out]
    exact ⟨none, 0, none, 0, Q, rfl, fun h => absurd h e4, HX3.out, HNIL.out _, HNIL.out _⟩
end Go.Proofs.YtiabhmdefaabgaaDoor

