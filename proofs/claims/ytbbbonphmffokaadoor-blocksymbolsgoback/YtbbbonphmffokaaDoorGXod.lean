import Derived.Test.YtbbbonphmffokaaDoorGXof
namespace Go.Proofs.YtbbbonphmffokaaDoor
open Go.RowKit
set_option maxRecDepth 20000
set_option linter.unusedVariables false

theorem xdbits_any (i : Nat) (hi : i < 30) (w : World) : Calls Tryd.prog 23 #[.int .i64 (i : Int)] w fun e w' => e = .returned (.int .i64 (DF i : Int)) ∧ w' = w := by
  have HL := hide (dfIs i hi)
  obtain ⟨F, HF⟩ : ∃ F, Hid (F = DF i) := ⟨_, hide rfl⟩
  rw [← HF.out] at HL ⊢
  by_cases h1 : i < 4
  · have hF : F = 0 := by rw [HL.out, if_pos h1]
    subst hF
    have g1 : (i : Int) < 4 := by omega
    go_enter Tryd.func23, Tryd.ntmps23
    go_wp2
    go_ret
    exact ⟨rfl, rfl⟩
  · have g1 : ¬ (i : Int) < 4 := by omega
    have hF : F = (i - 2) / 2 := by rw [HL.out, if_neg h1]
    obtain ⟨p, hp⟩ : ∃ p : Int, (i : Int) - 2 = p := ⟨_, rfl⟩
    have g4 : p.tdiv 2 = (F : Int) := by rw [Int.tdiv_eq_ediv_of_nonneg (by omega)]; omega
    have g5 : wrap64 (F : Int) = (F : Int) := by unfold wrap64; omega
    have g6 : wrap64 p = p := by unfold wrap64; omega
    clear hF
    go_enter Tryd.func23, Tryd.ntmps23
    go_wp2
    go_ret
    exact ⟨rfl, rfl⟩

theorem xdbase_any (i : Nat) (hi : i ≤ 30) (w : World) : Calls Tryd.prog 22 #[.int .i64 (i : Int)] w fun e w' => e = .returned (.int .i64 (DB i : Int)) ∧ w' = w := by
  have HLN : Hid (∀ j, j < 30 → DB (j + 1) = DB j + 2 ^ DF j) := dbNext
  have HLE := hide dfLe
  have HL0 : Hid (DB 0 = 1) := rfl
  have HL3 : Hid (DB 30 = 32769) := rfl
  go_enter Tryd.func22, Tryd.ntmps22
  go_wp2
  go_loopw [3, 4] (fun b t wr => ∃ j : Nat, j ≤ i ∧ b = .int .i64 (DB j : Int) ∧ t = .int .i64 (j : Int) ∧ wr = w) (fun _ t _ => i - (intOf t).toNat)
  case atStart => exact ⟨0, Nat.zero_le _, by rw [HL0.out]; rfl, rfl, rfl⟩
  case round =>
    obtain ⟨j, hj, rfl, rfl, rfl⟩ := hrel
    by_cases hlt : j < i
    · have hlt' : (j : Int) < (i : Int) := by omega
      have HBI := hide (xdbits_any j (by omega) wr)
      obtain ⟨e1, e2, e3⟩ := HLE.out j (by omega)
      have hnx := HLN.out j (by omega)
      obtain ⟨F, hF⟩ : ∃ F, DF j = F := ⟨_, rfl⟩
      rw [hF] at HBI e1 e3 hnx
      obtain ⟨w1, w2, w3⟩ := wrap_pow (F := F) (by omega)
      obtain ⟨q, hq⟩ : ∃ q, 2 ^ F = q := ⟨_, rfl⟩
      rw [hq] at w1 hnx e3
      obtain ⟨B, hB⟩ : ∃ B, DB j = B := ⟨_, rfl⟩
      obtain ⟨B', hB'⟩ : ∃ B, DB (j + 1) = B := ⟨_, rfl⟩
      rw [hB, hB'] at hnx
      rw [hB] at e2
      have hmin : min F 64 = F := by omega
      have hcv : IntKind.u64.wrap (F : Int) = (F : Int) := by rw [IntKind.wrap_u64]; omega
      have had : wrap64 ((B : Int) + (q : Int)) = (B' : Int) := by unfold wrap64; omega
      rw [hB]
      have HBB := hide hB'
      clear hq hF w2 w3 hB hB' hnx e1 e2 e3
      go_wp2_with fail
      refine HBI.out.mono ?_
      rintro e w8 ⟨rfl, hw8⟩
      subst hw8
      go_wp2
      go_roundw
      case rel => exact ⟨j + 1, by omega, by rw [HBB.out, had], by go_num, by first | rfl | trivial⟩
      case measure => simp [intOf]; omega
    · obtain rfl : j = i := by omega
      have hlt' : ¬ (j : Int) < (j : Int) := by omega
      obtain ⟨B, hB⟩ : ∃ B, DB j = B := ⟨_, rfl⟩
      rw [hB]
      have HBH := hide hB
      clear hB
      go_wp2
      go_ret
      exact ⟨by rw [HBH.out]; rfl, rfl⟩

theorem xLengthOf_any (s x : Int) (w : World) : Calls Tryd.prog 14 #[.int .i64 s, .int .i64 x] w fun e w' => e = .returned (.tuple #[.int .i64 (lV s x), .int .i64 (lE s x)]) ∧ w' = w := by
  by_cases h : 257 ≤ s ∧ s ≤ 285
  · obtain ⟨i, hs⟩ : ∃ i : Nat, s = ((257 + i : Nat) : Int) := ⟨s.toNat - 257, by omega⟩
    have hi : i < 29 := by omega
    have HV : Hid (lV s x = ofV (LB i) (LF i) x ∧ lE s x = ofE (LF i) x) := by
      unfold lV lE
      rw [if_pos h, if_pos h, hs, Int.toNat_natCast, show 257 + i - 257 = i by omega]
      exact ⟨rfl, rfl⟩
    have HBI := hide (xlbits_any i s hi hs w)
    have HBA := hide (xlbase_any i s hi hs w)
    obtain ⟨e1, e2, e3⟩ := lfLe i hi
    rw [HV.out.1, HV.out.2]
    obtain ⟨F, hF⟩ : ∃ F, LF i = F := ⟨_, rfl⟩
    obtain ⟨B, hB⟩ : ∃ B, LB i = B := ⟨_, rfl⟩
    rw [hF] at HBI e1 e3 ⊢
    rw [hB] at HBA e2 ⊢
    obtain ⟨w1, w2, w3⟩ := wrap_pow (F := F) (by omega)
    have HI := hide (of_in (B := B) (F := F) (x := x))
    have HO := hide (of_out (B := B) (F := F) (x := x))
    obtain ⟨q, hq⟩ : ∃ q, 2 ^ F = q := ⟨_, rfl⟩
    rw [hq] at w1 w2 w3 HI HO e3
    have hmin : min F 64 = F := by omega
    have hcv : IntKind.u64.wrap (F : Int) = (F : Int) := by rw [IntKind.wrap_u64]; omega
    have g1 : ¬ s < 257 := by omega
    have g2 : ¬ (285 : Int) < s := by omega
    clear hF hB hq hs h e1
    by_cases h0 : x < 0
    · have HV2 := hide (HO.out (by omega))
      rw [HV2.out.1, HV2.out.2]
      go_enter Tryd.func14, Tryd.ntmps14
      go_wp2
      refine bodyPost_ret (results_tmp2 rfl _ _ _) rfl ?_
      exact ⟨rfl, rfl⟩
    · by_cases h1 : (q : Int) ≤ x
      · have HV2 := hide (HO.out (by omega))
        rw [HV2.out.1, HV2.out.2]
        go_enter Tryd.func14, Tryd.ntmps14
        go_wp2_with fail
        refine HBI.out.mono ?_
        rintro e w8 ⟨rfl, hw8⟩
        subst hw8
        go_wp2
        refine bodyPost_ret (results_tmp2 rfl _ _ _) rfl ?_
        exact ⟨rfl, rfl⟩
      · have HV2 := hide (HI.out (by omega))
        rw [HV2.out.1, HV2.out.2]
        have hwx : wrap64 ((B : Int) + x) = (B : Int) + x := by unfold wrap64; omega
        go_enter Tryd.func14, Tryd.ntmps14
        go_wp2_with fail
        refine HBI.out.mono ?_
        rintro e w8 ⟨rfl, hw8⟩
        subst hw8
        go_wp2_with fail
        refine HBA.out.mono ?_
        rintro e w8 ⟨rfl, hw8⟩
        subst hw8
        go_wp2
        refine bodyPost_ret (results_tmp2 rfl _ _ _) rfl ?_
        exact ⟨rfl, rfl⟩
  · have HV : Hid (lV s x = 0 ∧ lE s x = 1) := by unfold lV lE; rw [if_neg h, if_neg h]; exact ⟨rfl, rfl⟩
    rw [HV.out.1, HV.out.2]
    by_cases h1 : s < 257
    · go_enter Tryd.func14, Tryd.ntmps14
      go_wp2
      refine bodyPost_ret (results_tmp2 rfl _ _ _) rfl ?_
      exact ⟨rfl, rfl⟩
    · have h2 : (285 : Int) < s := by omega
      go_enter Tryd.func14, Tryd.ntmps14
      go_wp2
      refine bodyPost_ret (results_tmp2 rfl _ _ _) rfl ?_
      exact ⟨rfl, rfl⟩

theorem xDistOf_any (s x : Int) (w : World) : Calls Tryd.prog 16 #[.int .i64 s, .int .i64 x] w fun e w' => e = .returned (.tuple #[.int .i64 (dV s x), .int .i64 (dE s x)]) ∧ w' = w := by
  by_cases h : 0 ≤ s ∧ s ≤ 29
  · obtain ⟨i, rfl⟩ := Int.eq_ofNat_of_zero_le (show 0 ≤ s by omega)
    have hi : i < 30 := by omega
    have HV : Hid (dV (i : Int) x = ofV (DB i) (DF i) x ∧ dE (i : Int) x = ofE (DF i) x) := by
      unfold dV dE
      rw [if_pos h, if_pos h, Int.toNat_natCast]
      exact ⟨rfl, rfl⟩
    have HBI := hide (xdbits_any i hi w)
    have HBA := hide (xdbase_any i (by omega) w)
    obtain ⟨e1, e2, e3⟩ := dfLe i hi
    rw [HV.out.1, HV.out.2]
    obtain ⟨F, hF⟩ : ∃ F, DF i = F := ⟨_, rfl⟩
    obtain ⟨B, hB⟩ : ∃ B, DB i = B := ⟨_, rfl⟩
    rw [hF] at HBI e1 e3 ⊢
    rw [hB] at HBA e2 ⊢
    obtain ⟨w1, w2, w3⟩ := wrap_pow (F := F) (by omega)
    have HI := hide (of_in (B := B) (F := F) (x := x))
    have HO := hide (of_out (B := B) (F := F) (x := x))
    obtain ⟨q, hq⟩ : ∃ q, 2 ^ F = q := ⟨_, rfl⟩
    rw [hq] at w1 w2 w3 HI HO e3
    have hmin : min F 64 = F := by omega
    have hcv : IntKind.u64.wrap (F : Int) = (F : Int) := by rw [IntKind.wrap_u64]; omega
    have g1 : ¬ (i : Int) < 0 := by omega
    have g2 : ¬ (29 : Int) < (i : Int) := by omega
    clear hF hB hq h e1
    by_cases h0 : x < 0
    · have HV2 := hide (HO.out (by omega))
      rw [HV2.out.1, HV2.out.2]
      go_enter Tryd.func16, Tryd.ntmps16
      go_wp2
      refine bodyPost_ret (results_tmp2 rfl _ _ _) rfl ?_
      exact ⟨rfl, rfl⟩
    · by_cases h1 : (q : Int) ≤ x
      · have HV2 := hide (HO.out (by omega))
        rw [HV2.out.1, HV2.out.2]
        go_enter Tryd.func16, Tryd.ntmps16
        go_wp2_with fail
        refine HBI.out.mono ?_
        rintro e w8 ⟨rfl, hw8⟩
        subst hw8
        go_wp2
        refine bodyPost_ret (results_tmp2 rfl _ _ _) rfl ?_
        exact ⟨rfl, rfl⟩
      · have HV2 := hide (HI.out (by omega))
        rw [HV2.out.1, HV2.out.2]
        have hwx : wrap64 ((B : Int) + x) = (B : Int) + x := by unfold wrap64; omega
        go_enter Tryd.func16, Tryd.ntmps16
        go_wp2_with fail
        refine HBI.out.mono ?_
        rintro e w8 ⟨rfl, hw8⟩
        subst hw8
        go_wp2_with fail
        refine HBA.out.mono ?_
        rintro e w8 ⟨rfl, hw8⟩
        subst hw8
        go_wp2
        refine bodyPost_ret (results_tmp2 rfl _ _ _) rfl ?_
        exact ⟨rfl, rfl⟩
  · have HV : Hid (dV s x = 0 ∧ dE s x = 1) := by unfold dV dE; rw [if_neg h, if_neg h]; exact ⟨rfl, rfl⟩
    rw [HV.out.1, HV.out.2]
    by_cases h1 : s < 0
    · go_enter Tryd.func16, Tryd.ntmps16
      go_wp2
      refine bodyPost_ret (results_tmp2 rfl _ _ _) rfl ?_
      exact ⟨rfl, rfl⟩
    · have h2 : (29 : Int) < s := by omega
      go_enter Tryd.func16, Tryd.ntmps16
      go_wp2
      refine bodyPost_ret (results_tmp2 rfl _ _ _) rfl ?_
      exact ⟨rfl, rfl⟩

theorem bnum_any (w : World) (x : Int) : Calls Tryd.prog 10 #[.int .i64 x] w fun e w' => e = .returned (.int .i64 x) ∧ w' = w := by
  go_enter Tryd.func10, Tryd.ntmps10
  go_wp2
  go_ret
  exact ⟨rfl, rfl⟩

theorem lengthsOf_walk (s x : Int) (w : World) (T : Ltab w) : Calls Tryd.prog 5 #[.int .i64 s, .int .i64 x] w fun e w' => e = .returned (.bool true) ∧ Below w.heap.size w w' := by
  have HA := hide (lengthOf_any s x w T)
  have HX := hide (fun wx => xLengthOf_any s x wx)
  obtain ⟨V, HV⟩ : ∃ V, Hid (V = lV s x) := ⟨_, hide rfl⟩
  obtain ⟨E, HE⟩ : ∃ V, Hid (V = lE s x) := ⟨_, hide rfl⟩
  rw [← HV.out, ← HE.out] at HA HX
  have q1 : (V == V) = true := by simp
  have q2 : (E == E) = true := by simp
  go_enter Tryd.func5, Tryd.ntmps5
  go_wp2_with fail
  refine HA.out.mono ?_
  rintro e w2 ⟨rfl, b2⟩
  have HB2 := hide b2
  clear b2 HA
  go_wp2_with fail
  refine (HX.out _).mono ?_
  rintro e w3 ⟨rfl, hw3⟩
  subst hw3
  go_wp2_with fail
  refine (bnum_any _ E).mono ?_
  rintro e w3 ⟨rfl, hw3⟩
  subst hw3
  go_wp2
  go_ret
  exact ⟨rfl, HB2.out⟩

theorem distsOf_walk (s x : Int) (w : World) (T : Dtab w) : Calls Tryd.prog 6 #[.int .i64 s, .int .i64 x] w fun e w' => e = .returned (.bool true) ∧ Below w.heap.size w w' := by
  have HA := hide (distOf_any s x w T)
  have HX := hide (fun wx => xDistOf_any s x wx)
  obtain ⟨V, HV⟩ : ∃ V, Hid (V = dV s x) := ⟨_, hide rfl⟩
  obtain ⟨E, HE⟩ : ∃ V, Hid (V = dE s x) := ⟨_, hide rfl⟩
  rw [← HV.out, ← HE.out] at HA HX
  have q1 : (V == V) = true := by simp
  have q2 : (E == E) = true := by simp
  go_enter Tryd.func6, Tryd.ntmps6
  go_wp2_with fail
  refine HA.out.mono ?_
  rintro e w2 ⟨rfl, b2⟩
  have HB2 := hide b2
  clear b2 HA
  go_wp2_with fail
  refine (HX.out _).mono ?_
  rintro e w3 ⟨rfl, hw3⟩
  subst hw3
  go_wp2_with fail
  refine (bnum_any _ E).mono ?_
  rintro e w3 ⟨rfl, hw3⟩
  subst hw3
  go_wp2
  go_ret
  exact ⟨rfl, HB2.out⟩
end Go.Proofs.YtbbbonphmffokaaDoor

