import Derived.Test.YtbbbonphmffokabDoorGCn
namespace Go.Proofs.YtbbbonphmffokabDoor
open Go.RowKit
set_option maxRecDepth 20000
set_option linter.unusedVariables false

theorem wrap_small {n : Nat} (h : n ≤ 1000000) : wrap64 (n : Int) = (n : Int) := by unfold wrap64; omega

theorem wrapu_small {n : Nat} (h : n ≤ 1000000) : IntKind.u64.wrap (n : Int) = (n : Int) := by rw [IntKind.wrap_u64]; omega

theorem wrap_add {a b : Nat} (h : a + b ≤ 1000000) : wrap64 ((a : Int) + (b : Int)) = (a : Int) + (b : Int) := by unfold wrap64; omega

theorem lsy_step {x i j : Nat} (h : Lsy x i) (hx : x < 258) (hj : j ≤ i) : i ≤ 27 ∧ (j < i → LB j + 2 ^ LF j ≤ x) ∧ (j = i → x < LB j + 2 ^ LF j) := by
  obtain ⟨h1, h2, h3⟩ := h
  have hi : i ≤ 27 := by
    by_cases e : i = 28
    · subst e
      have : LB 28 = 258 := by decide
      omega
    · omega
  refine ⟨hi, fun hlt => ?_, fun e => ?_⟩
  · rw [← lbNext j (by omega)]
    by_cases e : j + 1 = i
    · rw [e]; exact h2
    · have := lb_up (j + 1) i (by omega) (by omega) (by omega)
      omega
  · subst e
    by_cases e : j = 27
    · subst e
      have : LB 27 + 2 ^ LF 27 = 259 := by decide
      omega
    · rw [← lbNext j (by omega)]
      exact h3 (j + 1) (by omega) (by omega)

theorem dsy_step {x i j : Nat} (h : Dsy x i) (hx : x ≤ 32768) (hj : j ≤ i) : (j < i → DB (j + 1) ≤ x) ∧ (j = i → x < DB (j + 1)) := by
  obtain ⟨h1, h2, h3⟩ := h
  refine ⟨fun hlt => ?_, fun e => ?_⟩
  · by_cases e : j + 1 = i
    · rw [e]; exact h2
    · have := db_up (j + 1) i (by omega) (by omega) (by omega)
      omega
  · subst e
    by_cases e : j = 29
    · subst e
      have : DB (29 + 1) = 32769 := by decide
      omega
    · exact h3 (j + 1) (by omega) (by omega)

set_option maxHeartbeats 2000000 in
theorem xdsymbol_any (x i : Nat) (w : World) (h : Dsy x i) (hx : 1 ≤ x) (hx2 : x ≤ 32768) :
    Calls Tryd.prog 33 #[.int .i64 (x : Int)] w fun e w' => e = .returned (.tuple #[.int .i64 (i : Int), .int .i64 (DF i : Int), .int .i64 ((x - DB i : Nat) : Int), .int .i64 0]) ∧ w' = w := by
  have HST := hide (fun j => dsy_step (j := j) h hx2)
  have hi : i < 30 := h.1
  have h2 : DB i ≤ x := h.2.1
  have HDL := hide (dfLe i hi)
  obtain ⟨B, hB⟩ : ∃ B, DB i = B := ⟨_, rfl⟩
  obtain ⟨F, hF⟩ : ∃ F, DF i = F := ⟨_, rfl⟩
  have HLB := hide hB
  have HLF := hide hF
  rw [hB] at h2 ⊢
  rw [hF]
  have g1 : ¬ (x : Int) < 1 := by omega
  have g2 : ¬ (32768 : Int) < (x : Int) := by omega
  have g6 : wrap64 ((x : Int) - (B : Int)) = ((x - B : Nat) : Int) := by unfold wrap64; omega
  have g4 : (x : Int) - (B : Int) = ((x - B : Nat) : Int) := by omega
  obtain ⟨Z, hZ⟩ : ∃ z : Int, ((x - B : Nat) : Int) = z := ⟨_, rfl⟩
  rw [hZ] at g4 g6 ⊢
  clear hZ hB hF h
  go_enter Tryd.func33, Tryd.ntmps33
  go_wp2
  go_loopw [6] (fun t wr => ∃ j : Nat, j ≤ i ∧ t = .int .i64 (j : Int) ∧ wr = w) (fun t _ => i - (intOf t).toNat)
  case atStart => exact ⟨0, Nat.zero_le _, rfl, rfl⟩
  case round =>
    obtain ⟨j, hj, rfl, rfl⟩ := hrel
    have HBA := hide (xdbase_any (j + 1) (by omega) wr)
    obtain ⟨s1, s2⟩ := HST.out j hj
    obtain ⟨Q, hQ⟩ : ∃ Q, DB (j + 1) = Q := ⟨_, rfl⟩
    rw [hQ] at HBA s1 s2
    rw [show ((j + 1 : Nat) : Int) = (j : Int) + 1 by omega] at HBA
    have k1 : wrap64 ((j : Int) + 1) = (j : Int) + 1 := by unfold wrap64; omega
    by_cases hlt : j < i
    · have k2 : (Q : Int) ≤ (x : Int) := by have := s1 hlt; omega
      clear s1 s2 hQ
      go_wp2_with fail
      refine HBA.out.mono ?_
      rintro e w8 ⟨rfl, hw8⟩
      subst hw8
      go_wp2
      go_roundw
      case rel => exact ⟨j + 1, by omega, by go_num, by first | rfl | trivial⟩
      case measure => simp [intOf]; omega
    · obtain rfl : j = i := by omega
      have k2 : ¬ (Q : Int) ≤ (x : Int) := by have := s2 rfl; omega
      have HFI := hide (xdbits_any j hi wr)
      have HFA := hide (xdbase_any j (by omega) wr)
      rw [HLF.out] at HFI
      rw [HLB.out] at HFA
      clear s1 s2 hQ
      go_wp2_with fail
      refine HBA.out.mono ?_
      rintro e w8 ⟨rfl, hw8⟩
      subst hw8
      go_wp2_with fail
      refine HFI.out.mono ?_
      rintro e w8 ⟨rfl, hw8⟩
      subst hw8
      go_wp2_with fail
      refine HFA.out.mono ?_
      rintro e w8 ⟨rfl, hw8⟩
      subst hw8
      go_wp2
      refine bodyPost_ret (results_tmp4 rfl _ _ _) rfl ?_
      exact ⟨rfl, rfl⟩

theorem xdsymbol_no (x : Int) (w : World) (h : ¬ (1 ≤ x ∧ x ≤ 32768)) :
    Calls Tryd.prog 33 #[.int .i64 x] w fun e w' => e = .returned (.tuple #[.int .i64 0, .int .i64 0, .int .i64 0, .int .i64 1]) ∧ w' = w := by
  by_cases h1 : x < 1
  · go_enter Tryd.func33, Tryd.ntmps33
    go_wp2
    refine bodyPost_ret (results_tmp4 rfl _ _ _) rfl ?_
    exact ⟨rfl, rfl⟩
  · have h2 : (32768 : Int) < x := by omega
    go_enter Tryd.func33, Tryd.ntmps33
    go_wp2
    refine bodyPost_ret (results_tmp4 rfl _ _ _) rfl ?_
    exact ⟨rfl, rfl⟩

set_option maxHeartbeats 4000000 in
theorem xlsymbol_any (x i : Nat) (w : World) (h : Lsy x i) (hx : 3 ≤ x) (hx2 : x ≤ 258) :
    Calls Tryd.prog 32 #[.int .i64 (x : Int)] w fun e w' => e = .returned (.tuple #[.int .i64 ((257 + i : Nat) : Int), .int .i64 (LF i : Int), .int .i64 ((x - LB i : Nat) : Int), .int .i64 0]) ∧ w' = w := by
  have HST := hide (fun j (q : x < 258) => lsy_step (j := j) h q)
  have hi : i < 29 := h.1
  have h2 : LB i ≤ x := h.2.1
  have HI8 : Hid (x = 258 → i = 28) := fun e => by
    by_cases q : i = 28
    · exact q
    · have := h.2.2 28 (by omega) (by omega)
      have h8 : LB 28 = 258 := by decide
      omega
  obtain ⟨B, hB⟩ : ∃ B, LB i = B := ⟨_, rfl⟩
  obtain ⟨F, hF⟩ : ∃ F, LF i = F := ⟨_, rfl⟩
  have HLB := hide hB
  have HLF := hide hF
  rw [hB] at h2 ⊢
  rw [hF]
  have g1 : ¬ (x : Int) < 3 := by omega
  have g2 : ¬ (258 : Int) < (x : Int) := by omega
  have g6 : wrap64 ((x : Int) - (B : Int)) = ((x - B : Nat) : Int) := by unfold wrap64; omega
  have g4 : (x : Int) - (B : Int) = ((x - B : Nat) : Int) := by omega
  obtain ⟨Z, hZ⟩ : ∃ z : Int, ((x - B : Nat) : Int) = z := ⟨_, rfl⟩
  obtain ⟨sy, hsy⟩ : ∃ z : Int, z = ((257 + i : Nat) : Int) := ⟨_, rfl⟩
  have HSY := hide hsy
  rw [hZ] at g4 g6 ⊢
  have HG4 := hide g4
  have HG6 := hide g6
  rw [← hsy]
  clear hZ hB hF h hsy g4 g6
  go_enter Tryd.func32, Tryd.ntmps32
  go_wp2
  go_loopw [6, 7] (fun t s wr => ∃ j : Nat, ((t = .int .i64 285 ∧ j ≤ i) ∨ (t = .int .i64 sy ∧ i ≤ 27 ∧ j = i + 1)) ∧ s = .int .i64 ((257 + j : Nat) : Int) ∧ wr = w) (fun _ s _ => 286 - (intOf s).toNat)
  case atStart => exact ⟨0, .inl ⟨rfl, Nat.zero_le _⟩, rfl, rfl⟩
  case round =>
    obtain ⟨j, hjj, rfl, rfl⟩ := hrel
    obtain ⟨sj, hsj⟩ : ∃ z : Int, z = ((257 + j : Nat) : Int) := ⟨_, rfl⟩
    have HSJ := hide hsj
    rw [← hsj]
    rcases hjj with ⟨rfl, hji⟩ | ⟨rfl, hi7, hj⟩
    · by_cases hj28 : j = 28
      · have k1 : ¬ sj < 285 := by omega
        have e1 : i = 28 := by omega
        have e2 : sy = 285 := by have := HSY.out; omega
        have HSY2 : Hid ((285 : Int) = ((257 + i : Nat) : Int)) := by rw [← e2]; exact HSY.out
        have HE2 := hide e2
        clear hsj e1 e2 hj28
        have g4 := HG4.out
        have g6 := HG6.out
        have HFI := hide (xlbits_any i 285 hi HSY2.out wr)
        have HFA := hide (xlbase_any i 285 hi HSY2.out wr)
        rw [HLF.out] at HFI
        rw [HLB.out] at HFA
        go_wp2_with fail
        refine HFI.out.mono ?_
        rintro e w8 ⟨rfl, hw8⟩
        subst hw8
        go_wp2_with fail
        refine HFA.out.mono ?_
        rintro e w8 ⟨rfl, hw8⟩
        subst hw8
        go_wp2
        refine bodyPost_ret (results_tmp4 rfl _ _ _) rfl ?_
        exact ⟨by rw [HE2.out]; rfl, rfl⟩
      · have k1 : sj < 285 := by omega
        have HJA := hide (xlbase_any j sj (by omega) hsj wr)
        have HJI := hide (xlbits_any j sj (by omega) hsj wr)
        have hle := lfLe j (by omega)
        have k3 : sj + 1 = ((257 + (j + 1) : Nat) : Int) := by omega
        have HK2 : Hid (wrap64 (sj + 1) = ((257 + (j + 1) : Nat) : Int)) := by show _ = _; rw [k3]; exact wrap_small (by omega)
        have HK3 := hide k3
        by_cases hx8 : x < 258
        · obtain ⟨s0, s1, s2⟩ := HST.out j hx8 hji
          have hx8' : (x : Int) < 258 := by omega
          obtain ⟨QB, hQB⟩ : ∃ Q, LB j = Q := ⟨_, rfl⟩
          obtain ⟨QF, hQF⟩ : ∃ Q, LF j = Q := ⟨_, rfl⟩
          rw [hQB] at HJA hle s1 s2
          rw [hQF] at HJI hle s1 s2
          obtain ⟨q, hq⟩ : ∃ q, 2 ^ QF = q := ⟨_, rfl⟩
          obtain ⟨l1, l2, l3⟩ := hle
          have w1 := (wrap_pow (F := QF) (Nat.le_trans l1 (by decide))).1
          rw [hq] at w1 s1 s2 l3
          have HW1 := hide w1
          clear w1 hq
          have HK4 : Hid ((j < i → ¬ (x : Int) < (QB : Int) + (q : Int)) ∧ (¬ j < i → (x : Int) < (QB : Int) + (q : Int))) := ⟨fun h => by have := s1 h; omega, fun h => by have := s2 (by omega); omega⟩
          have hjj : ¬ j < i → j = i := fun h => by omega
          have hmin : min QF 64 = QF := Nat.min_eq_left (Nat.le_trans l1 (by decide))
          have hcv : IntKind.u64.wrap (QF : Int) = (QF : Int) := wrapu_small (Nat.le_trans l1 (by decide))
          have had : wrap64 ((QB : Int) + (q : Int)) = (QB : Int) + (q : Int) := wrap_add (Nat.le_trans (Nat.add_le_add l2 l3) (by decide))
          obtain ⟨G, HG⟩ : ∃ G : Int, Hid ((QB : Int) + (q : Int) = G) := ⟨_, hide rfl⟩
          have hcb : wrap64 ((QB : Int) + wrap64 ((2 : Int) ^ QF)) = G := by rw [HW1.out, had]; exact HG.out
          have hK4 := HK4.out
          rw [HG.out] at hK4
          clear had
          by_cases hlt : j < i
          · have k4 := hK4.1 hlt
            clear hQB hQF hsj k3 s1 s2 l1 l2 l3 hjj hK4
            go_wp2_with fail
            refine HJA.out.mono ?_
            rintro e w8 ⟨rfl, hw8⟩
            subst hw8
            go_wp2_with fail
            refine HJI.out.mono ?_
            rintro e w8 ⟨rfl, hw8⟩
            subst hw8
            go_wp2
            clear hcb hcv hmin k4
            go_roundw
            case rel => exact ⟨j + 1, .inl ⟨rfl, by omega⟩, by rw [HK2.out], by first | rfl | trivial⟩
            case measure => have h1 := HK2.out; have h2 := HSJ.out; rw [h1]; simp [intOf]; omega
          · have k4 := hK4.2 hlt
            obtain rfl : j = i := hjj hlt
            have HE3 : Hid (sj = sy) := HSJ.out.trans HSY.out.symm
            clear hQB hQF hsj k3 s1 s2 l1 l2 l3 hjj hK4
            go_wp2_with fail
            refine HJA.out.mono ?_
            rintro e w8 ⟨rfl, hw8⟩
            subst hw8
            go_wp2_with fail
            refine HJI.out.mono ?_
            rintro e w8 ⟨rfl, hw8⟩
            subst hw8
            go_wp2
            clear hcb hcv hmin k4
            go_roundw
            case rel => exact ⟨j + 1, .inr ⟨by rw [HE3.out], s0, rfl⟩, by rw [HK2.out], by first | rfl | trivial⟩
            case measure => have h1 := HK2.out; have h2 := HSJ.out; rw [h1]; simp [intOf]; omega
        · have hx8' : ¬ (x : Int) < 258 := by omega
          have e8 : i = 28 := HI8.out (by omega)
          obtain ⟨QB, hQB⟩ : ∃ Q, LB j = Q := ⟨_, rfl⟩
          rw [hQB] at HJA
          clear hQB hsj k3 hle
          go_wp2_with fail
          refine HJA.out.mono ?_
          rintro e w8 ⟨rfl, hw8⟩
          subst hw8
          go_wp2
          go_roundw
          case rel => exact ⟨j + 1, .inl ⟨rfl, by omega⟩, by first | rw [HK2.out] | rw [HK3.out], by first | rfl | trivial⟩
          case measure => have h1 := HK2.out; have h2 := HSJ.out; have h3 := HK3.out; (first | rw [h1] | rw [h3]); simp [intOf]; omega
    · have k5 : (sy == 285) = false := by have := HSY.out; simp; omega
      by_cases k1 : sj < 285
      · clear hsj
        have g4 := HG4.out
        have g6 := HG6.out
        have HFI := hide (xlbits_any i sy hi HSY.out wr)
        have HFA := hide (xlbase_any i sy hi HSY.out wr)
        rw [HLF.out] at HFI
        rw [HLB.out] at HFA
        go_wp2_with fail
        refine HFI.out.mono ?_
        rintro e w8 ⟨rfl, hw8⟩
        subst hw8
        go_wp2_with fail
        refine HFA.out.mono ?_
        rintro e w8 ⟨rfl, hw8⟩
        subst hw8
        go_wp2
        refine bodyPost_ret (results_tmp4 rfl _ _ _) rfl ?_
        exact ⟨rfl, rfl⟩
      · clear hsj
        have g4 := HG4.out
        have g6 := HG6.out
        have HFI := hide (xlbits_any i sy hi HSY.out wr)
        have HFA := hide (xlbase_any i sy hi HSY.out wr)
        rw [HLF.out] at HFI
        rw [HLB.out] at HFA
        go_wp2_with fail
        refine HFI.out.mono ?_
        rintro e w8 ⟨rfl, hw8⟩
        subst hw8
        go_wp2_with fail
        refine HFA.out.mono ?_
        rintro e w8 ⟨rfl, hw8⟩
        subst hw8
        go_wp2
        refine bodyPost_ret (results_tmp4 rfl _ _ _) rfl ?_
        exact ⟨rfl, rfl⟩

theorem xlsymbol_no (x : Int) (w : World) (h : ¬ (3 ≤ x ∧ x ≤ 258)) :
    Calls Tryd.prog 32 #[.int .i64 x] w fun e w' => e = .returned (.tuple #[.int .i64 0, .int .i64 0, .int .i64 0, .int .i64 1]) ∧ w' = w := by
  by_cases h1 : x < 3
  · go_enter Tryd.func32, Tryd.ntmps32
    go_wp2
    refine bodyPost_ret (results_tmp4 rfl _ _ _) rfl ?_
    exact ⟨rfl, rfl⟩
  · have h2 : (258 : Int) < x := by omega
    go_enter Tryd.func32, Tryd.ntmps32
    go_wp2
    refine bodyPost_ret (results_tmp4 rfl _ _ _) rfl ?_
    exact ⟨rfl, rfl⟩

end Go.Proofs.YtbbbonphmffokabDoor

