import Derived.Test.YthlbmpmbbdaboaaPfx2
namespace Go.Proofs.Ythlbmpmbbdaboaa
open Go.RowKit Go.Maps
set_option maxRecDepth 20000

set_option maxHeartbeats 4000000 in
theorem prefix_yes (v : Value) (l : List Int) (w : World) (h : SI w v l) (hr : l.length ≤ 17592186043904) (hd : cdE l = 0) :
    Calls Try.prog 4 #[v] w fun e w' => e = .returned (.bool true) ∧ Below w.heap.size w w' := by
  have HS := hide h
  obtain ⟨ao, cap, rfl, hlc, hcm⟩ := h.open
  clear h
  have HCL : Hid (cdL l = wds l) := if_pos hd
  have hc0 : chkE l = 0 := by
    unfold cdE at hd
    by_cases e : chkE l = 0
    · exact e
    · rw [if_pos e] at hd; exact absurd hd e
  have hl := (chkE_zero hc0).1
  have hs3 : ¬ shp l = 3 := fun e => by unfold cdE at hd; rw [if_neg (by simp [hc0]), if_pos e] at hd; omega
  have hule : ¬ 32768 < usum l := fun e => hs3 ((shp_over hl).2 e)
  have husl : us l 16 ≤ 32768 := by rw [us_sum hl.2]; omega
  have HL := hide hl
  have HUS := hide husl
  have HUL := hide hule
  have HC := hide hd
  have h288 := hl.1
  clear hd hc0 hl hs3 hule husl
  go_enter Try.func4, Try.ntmps4
  go_wp2_with fail
  refine (icopied_any _ l _ HS.out hr).mono ?_
  rintro e w1 ⟨a1, rfl, ho1, hb1⟩
  have HB1 := hide hb1
  have HO1 := hide ho1.sb
  clear hb1 ho1
  go_wp2_with fail
  refine (codes_any _ l _ HO1.out).mono ?_
  rintro e w2 ⟨a2, c2, rfl, ho2, hb2⟩
  have HB2 := hide (HB1.out.trans (hb2.mono HB1.out.size))
  have HS2 := hide (HS.out.below HB2.out)
  rw [HCL.out, wds_len] at ho2
  rw [HCL.out, HC.out, wds_len]
  have HO2 := hide (show SI w2 (.slice a2 (wds l).length c2) (wds l) from by rw [wds_len]; exact ho2.sb)
  have hc2 : l.length ≤ c2 ∧ c2 ≤ 9223372036854775807 := by
    obtain ⟨_, _, e1, e2, e3⟩ := HO2.out.open
    simp only [Value.slice.injEq] at e1
    obtain ⟨-, -, rfl⟩ := e1
    rw [wds_len] at e2
    exact ⟨e2, e3⟩
  obtain ⟨hc21, hc22⟩ := hc2
  clear hb2 ho2
  have hl2' : ¬ (288 : Int) < l.length := by omega
  go_wp2
  go_loopw [5, 6] (fun u i wr => ∃ k : Nat, k ≤ l.length ∧ i = .int .i64 k ∧ u = .int .i64 (usum (l.take k)) ∧ wr = w2) (fun _ i _ => l.length - (intOf i).toNat)
  case atStart => exact ⟨0, Nat.zero_le _, rfl, rfl, rfl⟩
  case round =>
    obtain ⟨k, hk, rfl, rfl, rfl⟩ := hrel
    by_cases hlt : k < l.length
    · have hlt' : (k : Int) < (l.length : Int) := by omega
      obtain ⟨b, o, hao, hcc⟩ := HS2.out.get (Below.refl _ _) hlt
      subst hao
      have HU := hide (usum_succ hlt).1
      obtain ⟨n, HN⟩ : ∃ n, Hid (ln l k = n) := ⟨_, rfl⟩
      have hn15 : n ≤ 15 := by rw [← HN.out]; exact (HL.out.ln k).2
      rw [(HL.out.ln k).1, HN.out] at hcc HU
      have b1' : ¬ 15 < (n : Int) := by omega
      have hub := (sum_bound HL.out k).1
      obtain ⟨u, HUU⟩ : ∃ u : Nat, Hid (u = usum (l.take k)) := ⟨_, rfl⟩
      rw [← HUU.out] at hub HU ⊢
      by_cases h0 : n = 0
      · subst h0
        have HU2 : Hid (usum (l.take (k + 1)) = u) := by show _ = _; rw [HU.out]; simp [wt]
        go_wp2
        go_roundw
        case rel => exact ⟨k + 1, by omega, by go_num, by rw [HU2.out], by trivial⟩
        case measure => simp [intOf]; omega
      · have h0' : (0 : Int) < n := by omega
        have hp4 : 2 ^ (15 - n) ≤ 32768 := Nat.pow_le_pow_right (n := 2) (by decide) (show 15 - n ≤ 15 by omega)
        have HU2 : Hid (usum (l.take (k + 1)) = u + 2 ^ (15 - n)) := by show _ = _; rw [HU.out, wt_pos (by omega)]
        have e1 : (15 : Int) - n = ((15 - n : Nat) : Int) := by omega
        obtain ⟨m, HM⟩ : ∃ m : Nat, Hid (m = 15 - n) := ⟨_, rfl⟩
        rw [← HM.out] at hp4 HU2 e1
        have hm15 : m ≤ 15 := by rw [HM.out]; omega
        have hpp : (2 : Int) ^ m = ((2 ^ m : Nat) : Int) := by push_cast; rfl
        obtain ⟨p, HP⟩ : ∃ p : Nat, Hid (p = 2 ^ m) := ⟨_, rfl⟩
        rw [← HP.out] at hp4 HU2 hpp
        have hwp : IntKind.i64.wrap (p : Int) = p := by rw [IntKind.wrap_i64]; omega
        go_wp2
        go_roundw
        case rel => exact ⟨k + 1, by omega, by go_num, by rw [HU2.out]; push_cast; rfl, by trivial⟩
        case measure => simp [intOf]; omega
    · obtain rfl : k = l.length := by omega
      have hlt' : ¬ (l.length : Int) < (l.length : Int) := by omega
      rw [List.take_of_length_le (Nat.le_refl _)]
      have hub := us_bound HL.out
      rw [us_sum HL.out.2] at hub
      have hu := HUL.out
      obtain ⟨u, HUU⟩ : ∃ u : Nat, Hid (u = usum l) := ⟨_, rfl⟩
      rw [← HUU.out] at hu hub ⊢
      have hu' : ¬ (32768 : Int) < u := by omega
      go_wp2_with fail
      refine (num_any _ _).mono ?_
      rintro e wy ⟨rfl, rfl⟩
      go_wp2
      go_loopw [7] (fun i wr2 => ∃ k n : Nat, k ≤ l.length ∧ i = .int .i64 k ∧ wr2 = wy.drewN n) (fun i _ => l.length - (intOf i).toNat)
      case atStart => exact ⟨0, 0, Nat.zero_le _, rfl, rfl⟩
      case round =>
        obtain ⟨k, nq, hk2, rfl, rfl⟩ := hrel
        by_cases hkl : k < l.length
        · have hkl' : (k : Int) < (l.length : Int) := by omega
          obtain ⟨b, o, hao, hcc⟩ := HS2.out.get (Below.refl _ _) hkl
          subst hao
          obtain ⟨b2, o2, hao2, hcw⟩ := HO2.out.get (Below.refl _ _) (k := k) (by rw [wds_len]; exact hkl)
          subst hao2
          rw [(HL.out.ln k).1] at hcc
          rw [wds_get hkl] at hcw
          have hwlt := word_lt HL.out HUS.out (s := k)
          have hn15 := (HL.out.ln k).2
          have hp4 : 2 ^ (ln l k) ≤ 32768 := Nat.pow_le_pow_right (n := 2) (by decide) hn15
          obtain ⟨n, HN⟩ : ∃ n, Hid (ln l k = n) := ⟨_, rfl⟩
          obtain ⟨y, HY⟩ : ∃ y, Hid (wd l k = y) := ⟨_, rfl⟩
          rw [HN.out] at hcc hwlt hn15 hp4
          rw [HY.out] at hcw hwlt
          have hpp : (2 : Int) ^ n = ((2 ^ n : Nat) : Int) := by push_cast; rfl
          obtain ⟨p, HP⟩ : ∃ p : Nat, Hid (p = 2 ^ n) := ⟨_, rfl⟩
          rw [← HP.out] at hp4 hwlt hpp
          have hwp : IntKind.i64.wrap (p : Int) = p := by rw [IntKind.wrap_i64]; omega
          have hge : ¬ (p : Int) ≤ y := by omega
          have hsh : IntKind.i64.wrap ((2 : Int) ^ min (IntKind.u64.wrap (n : Int)).toNat 64) = (p : Int) := by
            have e1 : IntKind.u64.wrap (n : Int) = n := by rw [IntKind.wrap_u64]; omega
            rw [e1, Int.toNat_natCast, Nat.min_eq_left (by omega), hpp, hwp]
          have hwn : IntKind.u64.wrap (n : Int) = n := by rw [IntKind.wrap_u64]; omega
          have hsh2 : IntKind.i64.wrap ((2 : Int) ^ min n 64) = (p : Int) := by rw [Nat.min_eq_left (by omega), hpp, hwp]
          have hmn : min n 64 = n := Nat.min_eq_left (by omega)
          have hd1 : decide ((p : Int) ≤ (y : Int)) = false := decide_eq_false hge
          have hd2 : decide (p ≤ y) = false := decide_eq_false (by omega)
          go_wp2
          go_quiet (fail)
          go_wp2
          clear hcc hcw
          go_loopw [8] (fun i wr3 => ∃ j n : Nat, j ≤ l.length ∧ i = .int .i64 j ∧ wr3 = wy.drewN n) (fun i _ => l.length - (intOf i).toNat)
          case atStart => exact ⟨0, _, Nat.zero_le _, rfl, World.drewN_drewN _ _ _⟩
          case round =>
            obtain ⟨j, nr, hj, rfl, rfl⟩ := hrel
            by_cases hjl : j < l.length
            · have hjl' : (j : Int) < (l.length : Int) := by omega
              obtain ⟨b', o', hao, hc1⟩ := HS2.out.get (Below.refl _ _) hkl
              simp only [Option.some.injEq, Addr.mk.injEq] at hao
              obtain ⟨rfl, rfl, -⟩ := hao
              obtain ⟨b'', o'', hao, hc2⟩ := HO2.out.get (Below.refl _ _) (k := k) (by rw [wds_len]; exact hkl)
              simp only [Option.some.injEq, Addr.mk.injEq] at hao
              obtain ⟨rfl, rfl, -⟩ := hao
              obtain ⟨b', o', hao, hc3⟩ := HS2.out.get (Below.refl _ _) hjl
              simp only [Option.some.injEq, Addr.mk.injEq] at hao
              obtain ⟨rfl, rfl, -⟩ := hao
              obtain ⟨b'', o'', hao, hc4⟩ := HO2.out.get (Below.refl _ _) (k := j) (by rw [wds_len]; exact hjl)
              simp only [Option.some.injEq, Addr.mk.injEq] at hao
              obtain ⟨rfl, rfl, -⟩ := hao
              rw [(HL.out.ln k).1] at hc1
              rw [wds_get hkl] at hc2
              rw [(HL.out.ln j).1] at hc3
              rw [wds_get hjl] at hc4
              have hw1 := word_lt HL.out HUS.out (s := k)
              have hm15 := (HL.out.ln k).2
              have hp5 : 2 ^ (ln l k) ≤ 32768 := Nat.pow_le_pow_right (n := 2) (by decide) hm15
              by_cases hkj : k = j
              · subst hkj
                have HCall : Hid (∀ n, Calls Try.prog 19 #[.int .i64 (ln l k), .int .i64 (wd l k), .int .i64 (ln l k), .int .i64 (wd l k), .bool false] (wy.drewN (nr + n)) fun e w'' => e = .returned (.bool (decide (ln l k = 0))) ∧ ∃ m, w'' = wy.drewN (nr + m)) := fun n => by
                  have := apart_self (ln l k) (wd l k) hm15 (by omega) (wy.drewN (nr + n))
                  exact this.mono fun e w' h => ⟨h.1, n, h.2⟩
                obtain ⟨A, HA⟩ : ∃ A, Hid (A = ln l k) := ⟨_, rfl⟩
                obtain ⟨X, HX⟩ : ∃ X, Hid (X = wd l k) := ⟨_, rfl⟩
                rw [← HA.out] at hc1 hc3 HCall
                rw [← HX.out] at hc2 hc4 HCall
                obtain ⟨B, HB⟩ : ∃ B, Hid (B = decide (A = 0)) := ⟨_, rfl⟩
                rw [← HB.out] at HCall
                clear hw1 hp5
                go_wp2
                go_quiet (first | (go_at_call 19; exact HCall.out _))
                go_wp2
                go_roundw
                case rel => exact ⟨k + 1, _, by omega, by go_num, by first | rfl | exact World.drewN_drewN _ _ _⟩
                case measure => simp [intOf]; omega
              · have hkj' : ((k : Int) == (j : Int)) = false := by simp; omega
                have hkj2 : ¬ (k : Int) = (j : Int) := by omega
                have HCall : Hid (∀ n, Calls Try.prog 19 #[.int .i64 (ln l k), .int .i64 (wd l k), .int .i64 (ln l j), .int .i64 (wd l j), .bool (decide (k < j))] (wy.drewN (nr + n)) fun e w'' => e = .returned (.bool true) ∧ ∃ m, w'' = wy.drewN (nr + m)) := fun n => by
                  have := apart_any HL.out HUS.out k j hkl hjl hkj (wy.drewN (nr + n))
                  exact this.mono fun e w' h => ⟨h.1, n, h.2⟩
                obtain ⟨A, HA⟩ : ∃ A, Hid (A = ln l k) := ⟨_, rfl⟩
                obtain ⟨X, HX⟩ : ∃ X, Hid (X = wd l k) := ⟨_, rfl⟩
                obtain ⟨A2, HA2⟩ : ∃ A, Hid (A = ln l j) := ⟨_, rfl⟩
                obtain ⟨X2, HX2⟩ : ∃ X, Hid (X = wd l j) := ⟨_, rfl⟩
                rw [← HA.out] at hc1 HCall
                rw [← HX.out] at hc2 HCall
                rw [← HA2.out] at hc3 HCall
                rw [← HX2.out] at hc4 HCall
                have hdd : decide ((k : Int) < (j : Int)) = decide (k < j) := by simp
                clear hw1 hp5
                go_wp2
                go_quiet (first | (go_at_call 19; exact HCall.out _))
                go_wp2
                go_roundw
                case rel => exact ⟨j + 1, _, by omega, by go_num, by first | rfl | exact World.drewN_drewN _ _ _⟩
                case measure => simp [intOf]; omega
            · obtain rfl : j = l.length := by omega
              have hjl' : ¬ (l.length : Int) < (l.length : Int) := by omega
              go_wp2
              go_roundw
              case rel => exact ⟨k + 1, _, by omega, by go_num, rfl⟩
              case measure => simp [intOf]; omega
        · obtain rfl : k = l.length := by omega
          have hkl' : ¬ (l.length : Int) < (l.length : Int) := by omega
          have HCD := hide cd111
          obtain ⟨V, HV⟩ : ∃ V, Hid (V = wy.drewN nq) := ⟨_, rfl⟩
          rw [← HV.out]
          have HBV : Hid (Below w.heap.size w V) := by rw [HV.out]; exact below_drewN HB2.out nq
          have HS7 : Hid (SI (V.alloc (.cells #[.int .i64 1, .int .i64 1, .int .i64 1] 3)) (.slice (some ⟨V.heap.size, 0, none⟩) 3 3) [1, 1, 1]) := built_si3 V [1, 1, 1] (by simp)
          have HB7 : Hid (Below w.heap.size w (V.alloc (.cells #[.int .i64 1, .int .i64 1, .int .i64 1] 3))) := HBV.out.alloc HBV.out.size _
          go_wp2_with fail
          refine (codes_any _ [1, 1, 1] _ HS7.out).mono ?_
          rintro e w9 ⟨a9, c9, rfl, ho9, hb9⟩
          rw [HCD.out.1, HCD.out.2]
          have HB9 := hide (HB7.out.trans (hb9.mono HB7.out.size))
          clear ho9 hb9
          go_wp2_with fail
          refine (num_any _ _).mono ?_
          rintro e wz ⟨rfl, rfl⟩
          go_wp2
          go_ret
          exact ⟨rfl, HB9.out⟩

theorem prefix_walk (v : Value) (l : List Int) (w : World) (h : SI w v l) (hr : l.length ≤ 17592186043904) :
    Calls Try.prog 4 #[v] w fun e w' => e = .returned (.bool true) ∧ Below w.heap.size w w' := by
  by_cases hd : cdE l = 0
  · exact prefix_yes v l w h hr hd
  · exact prefix_no v l w h hr hd
end Go.Proofs.Ythlbmpmbbdaboaa
