import Derived.Test.YtklffkbcigehfaaHerdJ
import Derived.Test.YtklffkbcigehfaaFact
import Derived.Test.YtklffkbcigehfaaNums
namespace Go.Proofs.Ytklffkbcigehfaa
open Go.RowKit Go.Maps
set_option maxRecDepth 20000

/-- Numbers laid down one behind the other, each with its width. -/
def rowOf (f : Nat → Nat) (l : List Int) : Nat → List Int
  | 0 => []
  | k + 1 => rowOf f l k ++ bts (l.getD k 0 % 2 ^ f k) (f k)

theorem length_rowOf {f : Nat → Nat} (hf : ∀ k, f k ≤ 32) (l : List Int) (k : Nat) : (rowOf f l k).length ≤ 32 * k := by
  induction k with
  | zero => simp [rowOf]
  | succ k ih => have := hf k; simp only [rowOf, List.length_append, length_bts]; omega

def f2 (i : Nat) : Nat := i % 31 + 1
def f1 (c i : Nat) : Nat := (i + c) % 32 + 1

theorem f2_le (i : Nat) : f2 i ≤ 32 := by unfold f2; omega
theorem f1_le (c i : Nat) : f1 c i ≤ 32 := by unfold f1; omega

theorem join_ok {row x : List Int} (h : row.length + x.length ≤ 268435456) : joinE row x = 0 ∧ joinRow row x = row ++ x := ⟨if_neg (by omega), if_neg (by omega)⟩

set_option maxHeartbeats 4000000 in
theorem joins_walk (v1 v2 : Value) (l1 l2 : List Int) (w : World) (h1 : SN .u32 w v1 l1) (b1 : ∀ i, 0 ≤ l1.getD i 0 ∧ l1.getD i 0 < 4294967296) (h2 : SN .u32 w v2 l2) (b2 : ∀ i, 0 ≤ l2.getD i 0 ∧ l2.getD i 0 < 4294967296) (r1 : l1.length ≤ 140737488351232) (r2 : l2.length ≤ 140737488351232) :
    Calls Try.prog 4 #[v1, v2] w fun e w' => e = .returned (.bool true) ∧ Below w.heap.size w w' := by
  obtain ⟨a1, c1, hv1, hc11, hc12⟩ := h1.len
  subst hv1
  obtain ⟨a2, c2, hv2, hc21, hc22⟩ := h2.len
  subst hv2
  have HS1 := hide h1
  have HS2 := hide h2
  have HB1 := hide b1
  have HB2 := hide b2
  have H0 := hide (Herd.nil w)
  clear h1 h2 b1 b2
  by_cases hlen : 1048576 < l1.length + l2.length
  · have hlen' : (1048576 : Int) < (l1.length : Int) + l2.length := by omega
    go_enter Try.func4, Try.ntmps4
    go_wp2
    go_ret
    exact ⟨rfl, Below.refl _ _⟩
  have hlen' : (l1.length : Int) + l2.length ≤ 1048576 := by omega
  have hlenN : l1.length + l2.length ≤ 1048576 := by omega
  clear hlen
  go_enter Try.func4, Try.ntmps4
  go_wp2_with fail
  refine (hnewW H0.out).mono ?_
  rintro e w1 ⟨gw, K1, rfl, hH⟩
  have H1 := hide hH
  clear hH
  go_wp2_with fail
  refine (hnewW H1.out).mono ?_
  rintro e w2 ⟨gx, K2, rfl, hH⟩
  have H2 := hide hH
  clear hH
  go_wp2_with fail
  refine (hnewW H2.out).mono ?_
  rintro e w3 ⟨ga, K3, rfl, hH⟩
  have H3 := hide hH
  clear hH
  go_wp2_with fail
  refine (hnewW H3.out).mono ?_
  rintro e w4 ⟨gt, K4, rfl, hH⟩
  have H4 : Hid (Herd w w4 [(K1, tw gw []), (K2, tw gx []), (K3, tw ga []), (K4, tw gt [])]) := hH
  clear hH H0 H1 H2 H3
  obtain ⟨A, HA⟩ : ∃ A, Hid (A = rowOf f2 l2 l2.length) := ⟨_, rfl⟩
  have hAl : A.length ≤ 33554432 := by rw [HA.out]; have := length_rowOf f2_le l2 l2.length; omega
  go_wp2
  go_loopw [9, 10] (fun n j wr => ∃ k : Nat, k ≤ 2 ∧ j = .int .i64 k ∧ n = .int .i64 ((if k = 0 then [] else A).length : Nat) ∧ Hid (∃ K1 K2 K3 K4, Herd w wr [(K1, tw gw []), (K2, tw gx (if k = 0 then [] else A)), (K3, tw ga []), (K4, tw gt (if k = 0 then [] else if k = 1 then A else A ++ A))])) (fun _ j _ => 2 - (intOf j).toNat)
  case atStart => exact ⟨0, by omega, rfl, rfl, K1, K2, K3, K4, H4.out⟩
  case round =>
    clear H4
    obtain ⟨k, hk, rfl, rfl, HQ⟩ := hrel
    obtain rfl | rfl | rfl : k = 0 ∨ k = 1 ∨ k = 2 := by omega
    · have e0 : ((0 : Nat) : Int) = 0 := rfl
      simp only [if_true, List.length_nil, e0] at HQ ⊢
      clear e0
      go_wp2
      go_loopw [9, 11] (fun n j wr => ∃ i : Nat, i ≤ l2.length ∧ j = .int .i64 i ∧ n = .int .i64 ((rowOf f2 l2 i).length : Nat) ∧ Hid (∃ K1 K2 K3 K4, Herd w wr [(K1, tw gw []), (K2, tw gx (rowOf f2 l2 i)), (K3, tw ga []), (K4, tw gt (rowOf f2 l2 i))])) (fun _ j _ => l2.length - (intOf j).toNat)
      case atStart => exact ⟨0, Nat.zero_le _, rfl, rfl, HQ.out⟩
      case round =>
        clear HQ
        obtain ⟨i, hi, rfl, rfl, HQ⟩ := hrel
        obtain ⟨K1, K2, K3, K4, hH⟩ := HQ.out
        have H5 := hide hH
        clear hH HQ
        by_cases hlt : i < l2.length
        · have hlt' : (i : Int) < (l2.length : Int) := by omega
          obtain ⟨b, o, hab, hc⟩ := HS2.out.num H5.out.bel hlt
          subst hab
          obtain ⟨y, HY⟩ : ∃ y, Hid (y = l2.getD i 0) := ⟨_, rfl⟩
          have hy := HB2.out i
          rw [← HY.out] at hc hy
          obtain ⟨hy0, hy1⟩ := hy
          obtain ⟨s, HSs⟩ : ∃ s, Hid (s = f2 i) := ⟨_, rfl⟩
          have hs32 : s ≤ 32 := by rw [HSs.out]; exact f2_le i
          have hsi : (i : Int) % 31 + 1 = (s : Int) := by rw [HSs.out]; unfold f2; omega
          obtain ⟨x, HX⟩ : ∃ x, Hid (x = y % 2 ^ s) := ⟨_, rfl⟩
          obtain ⟨x0, x1, x2⟩ := low_in y hs32
          rw [← HX.out] at x0 x1 x2
          have HX1 := hide x1
          have hr := length_rowOf f2_le l2 i
          obtain ⟨R, HR⟩ : ∃ R, Hid (R = rowOf f2 l2 i) := ⟨_, rfl⟩
          rw [← HR.out] at H5 hr
          have HRS : Hid (rowOf f2 l2 (i + 1) = R ++ bts x s) := by show _ = _; rw [HR.out, HX.out, HSs.out, HY.out]; rfl
          rw [← HR.out]
          have P1 := hide (putE_ok (putOk_of (row := R) HX1.out hs32 (by omega)))
          clear x1
          go_wp2_with fail
          refine (low_any y s hs32 hy0 hy1 _).mono ?_
          rintro e wx ⟨rfl, hwx⟩
          subst hwx
          rw [← HX.out]
          go_wp2_with fail
          refine (hput H5.out 1 rfl x s x0 x2).mono ?_
          rintro e w6 ⟨rfl, K6, hH⟩
          rw [P1.out.1]
          rw [P1.out.2] at hH
          have H6 := hide hH
          clear hH
          have hc6 : w6.cell? ⟨b, o + i, none⟩ = some (.int .u32 y) := by
            obtain ⟨b', o', e1, e2⟩ := HS2.out.num H6.out.bel hlt
            simp only [Option.some.injEq, Addr.mk.injEq] at e1
            obtain ⟨rfl, rfl, -⟩ := e1
            rw [e2, HY.out]
          go_wp2_with fail
          refine (low_any y s hs32 hy0 hy1 _).mono ?_
          rintro e wx ⟨rfl, hwx⟩
          subst hwx
          rw [← HX.out]
          go_wp2_with fail
          refine (hput H6.out 3 rfl x s x0 x2).mono ?_
          rintro e w7 ⟨rfl, K7, hH⟩
          rw [P1.out.1]
          rw [P1.out.2, ← HRS.out] at hH
          have H7 := hide hH
          clear hH
          have HLn : Hid ((rowOf f2 l2 (i + 1)).length = R.length + s) := by show _ = _; rw [HRS.out, List.length_append, length_bts]
          go_wp2
          go_roundw
          case rel => exact ⟨i + 1, by omega, by go_num, by rw [HLn.out]; go_num, K1, K6, K3, K7, H7.out⟩
          case measure => simp [intOf]; omega
        · obtain rfl : i = l2.length := by omega
          have hlt' : ¬ (l2.length : Int) < (l2.length : Int) := by omega
          rw [← HA.out] at H5 ⊢
          go_wp2
          go_roundw
          case rel => exact ⟨1, by omega, by go_num, rfl, K1, K2, K3, K4, H5.out⟩
          case measure => simp [intOf]
    · have HQ1 : Hid (∃ K1 K2 K3 K4, Herd w wr [(K1, tw gw []), (K2, tw gx A), (K3, tw ga []), (K4, tw gt (A ++ rowOf f2 l2 0))]) := by
        obtain ⟨K1, K2, K3, K4, h⟩ := HQ.out
        refine ⟨K1, K2, K3, K4, ?_⟩
        simp only [rowOf, List.append_nil]
        exact h
      rw [show (if (1 : Nat) = 0 then ([] : List Int) else A) = A from rfl, show ((1 : Nat) : Int) = 1 from rfl]
      clear HQ
      go_wp2
      go_loopw [9, 11] (fun n j wr => ∃ i : Nat, i ≤ l2.length ∧ j = .int .i64 i ∧ n = .int .i64 (A.length : Nat) ∧ Hid (∃ K1 K2 K3 K4, Herd w wr [(K1, tw gw []), (K2, tw gx (A)), (K3, tw ga []), (K4, tw gt (A ++ rowOf f2 l2 i))])) (fun _ j _ => l2.length - (intOf j).toNat)
      case atStart => exact ⟨0, Nat.zero_le _, rfl, rfl, HQ1.out⟩
      case round =>
        clear HQ1
        obtain ⟨i, hi, rfl, rfl, HQ⟩ := hrel
        obtain ⟨K1, K2, K3, K4, hH⟩ := HQ.out
        have H5 := hide hH
        clear hH HQ
        by_cases hlt : i < l2.length
        · have hlt' : (i : Int) < (l2.length : Int) := by omega
          obtain ⟨b, o, hab, hc⟩ := HS2.out.num H5.out.bel hlt
          subst hab
          obtain ⟨y, HY⟩ : ∃ y, Hid (y = l2.getD i 0) := ⟨_, rfl⟩
          have hy := HB2.out i
          rw [← HY.out] at hc hy
          obtain ⟨hy0, hy1⟩ := hy
          obtain ⟨s, HSs⟩ : ∃ s, Hid (s = f2 i) := ⟨_, rfl⟩
          have hs32 : s ≤ 32 := by rw [HSs.out]; exact f2_le i
          have hsi : (i : Int) % 31 + 1 = (s : Int) := by rw [HSs.out]; unfold f2; omega
          obtain ⟨x, HX⟩ : ∃ x, Hid (x = y % 2 ^ s) := ⟨_, rfl⟩
          obtain ⟨x0, x1, x2⟩ := low_in y hs32
          rw [← HX.out] at x0 x1 x2
          have HX1 := hide x1
          have hr := length_rowOf f2_le l2 i
          obtain ⟨R, HR⟩ : ∃ R, Hid (R = rowOf f2 l2 i) := ⟨_, rfl⟩
          rw [← HR.out] at H5 hr
          have HRS : Hid (rowOf f2 l2 (i + 1) = R ++ bts x s) := by show _ = _; rw [HR.out, HX.out, HSs.out, HY.out]; rfl
          have P1 := hide (putE_ok (putOk_of (row := A ++ R) HX1.out hs32 (by rw [List.length_append]; omega)))
          rw [List.append_assoc, ← HRS.out] at P1
          clear x1
          go_wp2_with fail
          refine (low_any y s hs32 hy0 hy1 _).mono ?_
          rintro e wx ⟨rfl, hwx⟩
          subst hwx
          rw [← HX.out]
          go_wp2_with fail
          refine (hput H5.out 3 rfl x s x0 x2).mono ?_
          rintro e w7 ⟨rfl, K7, hH⟩
          rw [P1.out.1]
          rw [P1.out.2] at hH
          have H7 := hide hH
          clear hH
          go_wp2
          go_roundw
          case rel => exact ⟨i + 1, by omega, by go_num, rfl, K1, K2, K3, K7, H7.out⟩
          case measure => simp [intOf]; omega
        · obtain rfl : i = l2.length := by omega
          have hlt' : ¬ (l2.length : Int) < (l2.length : Int) := by omega
          rw [← HA.out] at H5
          go_wp2
          go_roundw
          case rel => exact ⟨2, by omega, by go_num, rfl, K1, K2, K3, K4, H5.out⟩
          case measure => simp [intOf]
    · obtain ⟨K1, K2, K3, K4, hH⟩ := HQ.out
      have H5 : Hid (Herd w wr [(K1, tw gw []), (K2, tw gx A), (K3, tw ga []), (K4, tw gt (A ++ A))]) := hH
      rw [show (if (2 : Nat) = 0 then ([] : List Int) else A) = A from rfl, show ((2 : Nat) : Int) = 2 from rfl]
      clear hH HQ
      obtain ⟨T, HT⟩ : ∃ T, Hid (T = pack A) := ⟨_, rfl⟩
      go_wp2_with fail
      refine (hbytes H5.out 1 rfl).mono ?_
      rintro e w6 ⟨a6, c6, K6, rfl, hH⟩
      rw [← HT.out] at hH ⊢
      have H6 := hide hH
      clear hH
      obtain ⟨cc, hcc⟩ : ∃ cc : Nat, l1.getD 0 0 % 32 = cc := ⟨(l1.getD 0 0 % 32).toNat, by omega⟩
      have hcc32 : cc < 32 := by omega
      have HCC := hide hcc
      have HF1 : Hid (∀ i, f1 cc i ≤ 32) := f1_le cc
      clear hcc H5
      go_wp2
      go_loopw [14, 15] (fun n j wr => ∃ i : Nat, i ≤ l1.length ∧ j = .int .i64 i ∧ n = .int .i64 ((rowOf (f1 cc) l1 i).length : Nat) ∧ Hid (∃ K1 K2 K3 K4, Herd w wr [(K1, tw gw (rowOf (f1 cc) l1 i)), (K2, tw gx A), (K3, tw ga (rowOf (f1 cc) l1 i)), (K4, tw gt (A ++ A)), (K6, tl (.slice a6 T.length c6) T)])) (fun _ j _ => l1.length - (intOf j).toNat)
      case atStart => exact ⟨0, Nat.zero_le _, rfl, rfl, K1, K2, K3, K4, H6.out⟩
      case round =>
        clear H6
        obtain ⟨i, hi, rfl, rfl, HQ⟩ := hrel
        obtain ⟨K1, K2, K3, K4, hH⟩ := HQ.out
        have H5 := hide hH
        clear hH HQ
        by_cases hlt : i < l1.length
        · have hlt' : (i : Int) < (l1.length : Int) := by omega
          obtain ⟨b, o, hab, hc⟩ := HS1.out.num H5.out.bel hlt
          obtain ⟨b0, o0, hab0, hc0⟩ := HS1.out.num H5.out.bel (i := 0) (by omega)
          subst hab
          simp only [Option.some.injEq, Addr.mk.injEq] at hab0
          obtain ⟨rfl, rfl, -⟩ := hab0
          rw [Nat.add_zero] at hc0
          obtain ⟨y, HY⟩ : ∃ y, Hid (y = l1.getD i 0) := ⟨_, rfl⟩
          obtain ⟨z, HZ⟩ : ∃ z, Hid (z = l1.getD 0 0) := ⟨_, rfl⟩
          have hy := HB1.out i
          have hz := HB1.out 0
          have hcz := HCC.out
          rw [← HY.out] at hc hy
          rw [← HZ.out] at hc0 hz hcz
          obtain ⟨hy0, hy1⟩ := hy
          obtain ⟨hz0, hz1⟩ := hz
          obtain ⟨s, HSs⟩ : ∃ s, Hid (s = f1 cc i) := ⟨_, rfl⟩
          have hs32 : s ≤ 32 := by rw [HSs.out]; exact f1_le cc i
          have hsi : ((i : Int) + cc) % 32 + 1 = (s : Int) := by rw [HSs.out]; unfold f1; omega
          obtain ⟨x, HX⟩ : ∃ x, Hid (x = y % 2 ^ s) := ⟨_, rfl⟩
          obtain ⟨x0, x1, x2⟩ := low_in y hs32
          rw [← HX.out] at x0 x1 x2
          have HX1 := hide x1
          have hr := length_rowOf HF1.out l1 i
          obtain ⟨R, HR⟩ : ∃ R, Hid (R = rowOf (f1 cc) l1 i) := ⟨_, rfl⟩
          rw [← HR.out] at H5 hr ⊢
          have HRS : Hid (rowOf (f1 cc) l1 (i + 1) = R ++ bts x s) := by show _ = _; rw [HR.out, HX.out, HSs.out, HY.out]; rfl
          have P1 := hide (putE_ok (putOk_of (row := R) HX1.out hs32 (by omega)))
          clear x1
          go_wp2_with fail
          refine (low_any y s hs32 hy0 hy1 _).mono ?_
          rintro e wx ⟨rfl, hwx⟩
          subst hwx
          rw [← HX.out]
          go_wp2_with fail
          refine (hput H5.out 0 rfl x s x0 x2).mono ?_
          rintro e w7 ⟨rfl, K7, hH⟩
          rw [P1.out.1]
          rw [P1.out.2] at hH
          have H7 := hide hH
          clear hH
          have hc7 : w7.cell? ⟨b, o + i, none⟩ = some (.int .u32 y) := by
            obtain ⟨b', o', e1, e2⟩ := HS1.out.num H7.out.bel hlt
            simp only [Option.some.injEq, Addr.mk.injEq] at e1
            obtain ⟨rfl, rfl, -⟩ := e1
            rw [e2, HY.out]
          go_wp2_with fail
          refine (low_any y s hs32 hy0 hy1 _).mono ?_
          rintro e wx ⟨rfl, hwx⟩
          subst hwx
          rw [← HX.out]
          go_wp2_with fail
          refine (hput H7.out 2 rfl x s x0 x2).mono ?_
          rintro e w8 ⟨rfl, K8, hH⟩
          rw [P1.out.1]
          rw [P1.out.2, ← HRS.out] at hH
          have H8 := hide hH
          clear hH
          have HLn : Hid ((rowOf (f1 cc) l1 (i + 1)).length = R.length + s) := by show _ = _; rw [HRS.out, List.length_append, length_bts]
          go_wp2
          go_roundw
          case rel => exact ⟨i + 1, by omega, by go_num, by rw [HLn.out]; go_num, K7, K2, K8, K4, H8.out⟩
          case measure => simp [intOf]; omega
        · obtain rfl : i = l1.length := by omega
          have hlt' : ¬ (l1.length : Int) < (l1.length : Int) := by omega
          have hOl := length_rowOf HF1.out l1 l1.length
          obtain ⟨O, HO⟩ : ∃ O, Hid (O = rowOf (f1 cc) l1 l1.length) := ⟨_, rfl⟩
          rw [← HO.out] at H5 hOl ⊢
          have hOb : O.length ≤ 33554432 := by omega
          clear hOl
          go_wp2
          go_loopw [17] (fun j wr => ∃ i : Nat, i ≤ l2.length ∧ j = .int .i64 i ∧ Hid (∃ K1 K2 K3 K4, Herd w wr [(K1, tw gw O), (K2, tw gx A), (K3, tw ga (O ++ rowOf f2 l2 i)), (K4, tw gt (A ++ A)), (K6, tl (.slice a6 T.length c6) T)])) (fun j _ => l2.length - (intOf j).toNat)
          case atStart => exact ⟨0, Nat.zero_le _, rfl, K1, K2, K3, K4, by simpa [rowOf] using H5.out⟩
          case round =>
            clear H5
            obtain ⟨i, hi, rfl, HQ⟩ := hrel
            obtain ⟨K1, K2, K3, K4, hH⟩ := HQ.out
            have H5 := hide hH
            clear hH HQ
            by_cases hlt : i < l2.length
            · have hlt' : (i : Int) < (l2.length : Int) := by omega
              obtain ⟨b, o, hab, hc⟩ := HS2.out.num H5.out.bel hlt
              subst hab
              obtain ⟨y, HY⟩ : ∃ y, Hid (y = l2.getD i 0) := ⟨_, rfl⟩
              have hy := HB2.out i
              rw [← HY.out] at hc hy
              obtain ⟨hy0, hy1⟩ := hy
              obtain ⟨s, HSs⟩ : ∃ s, Hid (s = f2 i) := ⟨_, rfl⟩
              have hs32 : s ≤ 32 := by rw [HSs.out]; exact f2_le i
              have hsi : (i : Int) % 31 + 1 = (s : Int) := by rw [HSs.out]; unfold f2; omega
              obtain ⟨x, HX⟩ : ∃ x, Hid (x = y % 2 ^ s) := ⟨_, rfl⟩
              obtain ⟨x0, x1, x2⟩ := low_in y hs32
              rw [← HX.out] at x0 x1 x2
              have HX1 := hide x1
              have hr := length_rowOf f2_le l2 i
              obtain ⟨R, HR⟩ : ∃ R, Hid (R = rowOf f2 l2 i) := ⟨_, rfl⟩
              rw [← HR.out] at H5 hr
              have HRS : Hid (rowOf f2 l2 (i + 1) = R ++ bts x s) := by show _ = _; rw [HR.out, HX.out, HSs.out, HY.out]; rfl
              have P1 := hide (putE_ok (putOk_of (row := O ++ R) HX1.out hs32 (by rw [List.length_append]; omega)))
              rw [List.append_assoc, ← HRS.out] at P1
              clear x1
              go_wp2_with fail
              refine (low_any y s hs32 hy0 hy1 _).mono ?_
              rintro e wx ⟨rfl, hwx⟩
              subst hwx
              rw [← HX.out]
              go_wp2_with fail
              refine (hput H5.out 2 rfl x s x0 x2).mono ?_
              rintro e w7 ⟨rfl, K7, hH⟩
              rw [P1.out.1]
              rw [P1.out.2] at hH
              have H7 := hide hH
              clear hH
              go_wp2
              go_roundw
              case rel => exact ⟨i + 1, by omega, by go_num, K1, K2, K7, K4, H7.out⟩
              case measure => simp [intOf]; omega
            · obtain rfl : i = l2.length := by omega
              have hlt' : ¬ (l2.length : Int) < (l2.length : Int) := by omega
              rw [← HA.out] at H5
              have J1 := hide (join_ok (row := O) (x := A) (by omega))
              have J2 := hide (join_ok (row := A) (x := A) (by omega))
              obtain ⟨P, HP⟩ : ∃ P, Hid (P = O ++ A) := ⟨_, rfl⟩
              obtain ⟨D, HD⟩ : ∃ D, Hid (D = A ++ A) := ⟨_, rfl⟩
              rw [← HP.out] at H5 J1
              rw [← HD.out] at H5 J2
              have hPl : (P.length : Int) = (O.length : Int) + A.length := by rw [HP.out, List.length_append]; omega
              have hDl : (D.length : Int) = 2 * (A.length : Int) := by rw [HD.out, List.length_append]; omega
              obtain ⟨TP, HTP⟩ : ∃ TP, Hid (TP = pack P) := ⟨_, rfl⟩
              obtain ⟨TD, HTD⟩ : ∃ TD, Hid (TD = pack D) := ⟨_, rfl⟩
              clear HA
              go_wp2_with fail
              refine (hjoin H5.out 0 1 rfl rfl (by decide)).mono ?_
              rintro e w6 ⟨rfl, K8, hH⟩
              rw [J1.out.1]
              rw [J1.out.2] at hH
              have H6 := hide hH
              clear hH
              go_wp2_with fail
              refine (hlen H6.out 0 rfl).mono ?_
              rintro e w7 ⟨rfl, hH⟩
              have H7 := hide hH
              clear hH
              go_wp2_with fail
              refine (hlen H7.out 2 rfl).mono ?_
              rintro e w8 ⟨rfl, hH⟩
              have H8 := hide hH
              clear hH
              go_wp2_with fail
              refine (hbytes H8.out 0 rfl).mono ?_
              rintro e w9 ⟨a9, c9, K9, rfl, hH⟩
              rw [← HTP.out] at hH ⊢
              have H9 := hide hH
              clear hH
              go_wp2_with fail
              refine (hbytes H9.out 2 rfl).mono ?_
              rintro e w10 ⟨a10, c10, K10, rfl, hH⟩
              rw [← HTP.out] at hH ⊢
              have H10 := hide hH
              clear hH
              go_wp2_with fail
              refine (same_any _ _ TP TP _ (H10.out.sb 5 rfl) (H10.out.sb 6 rfl)).mono ?_
              rintro e w11 ⟨rfl, n11, rfl⟩
              rw [show eqB TP TP = true by simp [eqB]]
              have H11 := hide (H10.out.drewN n11)
              go_wp2_with fail
              refine (hlen H11.out 1 rfl).mono ?_
              rintro e w12 ⟨rfl, hH⟩
              have H12 := hide hH
              clear hH
              go_wp2_with fail
              refine (hbytes H12.out 1 rfl).mono ?_
              rintro e w13 ⟨a13, c13, K13, rfl, hH⟩
              rw [← HT.out] at hH ⊢
              have H13 := hide hH
              clear hH
              go_wp2_with fail
              refine (same_any _ _ T T _ (H13.out.sb 7 rfl) (H13.out.sb 4 rfl)).mono ?_
              rintro e w14 ⟨rfl, n14, rfl⟩
              rw [show eqB T T = true by simp [eqB]]
              have H14 := hide (H13.out.drewN n14)
              go_wp2_with fail
              refine (hjoinself H14.out 1 rfl).mono ?_
              rintro e w15 ⟨rfl, K15, hH⟩
              rw [J2.out.1]
              rw [J2.out.2] at hH
              have H15 := hide hH
              clear hH
              go_wp2_with fail
              refine (hlen H15.out 1 rfl).mono ?_
              rintro e w16 ⟨rfl, hH⟩
              have H16 := hide hH
              clear hH
              go_wp2_with fail
              refine (hbytes H16.out 1 rfl).mono ?_
              rintro e w17 ⟨a17, c17, K17, rfl, hH⟩
              rw [← HTD.out] at hH ⊢
              have H17 := hide hH
              clear hH
              go_wp2_with fail
              refine (hbytes H17.out 3 rfl).mono ?_
              rintro e w18 ⟨a18, c18, K18, rfl, hH⟩
              rw [← HTD.out] at hH ⊢
              have H18 := hide hH
              clear hH
              go_wp2_with fail
              refine (same_any _ _ TD TD _ (H18.out.sb 8 rfl) (H18.out.sb 9 rfl)).mono ?_
              rintro e w19 ⟨rfl, n19, rfl⟩
              rw [show eqB TD TD = true by simp [eqB]]
              have H19 := hide (H18.out.drewN n19)
              go_wp2_with fail
              refine (hbytes H19.out 0 rfl).mono ?_
              rintro e w20 ⟨a20, c20, K20, rfl, hH⟩
              rw [← HTP.out] at hH ⊢
              have H20 := hide hH
              clear hH
              go_wp2_with fail
              refine (hbytes H20.out 2 rfl).mono ?_
              rintro e w21 ⟨a21, c21, K21, rfl, hH⟩
              rw [← HTP.out] at hH ⊢
              have H21 := hide hH
              clear hH
              go_wp2_with fail
              refine (same_any _ _ TP TP _ (H21.out.sb 10 rfl) (H21.out.sb 11 rfl)).mono ?_
              rintro e w22 ⟨rfl, n22, rfl⟩
              rw [show eqB TP TP = true by simp [eqB]]
              have H22 := hide (H21.out.drewN n22).bel
              go_wp2
              go_ret
              exact ⟨rfl, H22.out⟩
end Go.Proofs.Ytklffkbcigehfaa
