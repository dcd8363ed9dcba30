import Derived.Test.YtklffkbcigehfabFact
namespace Go.Proofs.Ytklffkbcigehfab
open Go.RowKit Go.Maps
set_option maxRecDepth 20000

set_option maxHeartbeats 1000000 in
theorem cuts_walk (ah sh v n cut : Int) (ha : 0 ≤ ah) (ha1 : ah < 4294967296) (hv : 0 ≤ v) (hv1 : v < 4294967296) (w : World) :
    Calls Try.prog 4 #[.int .u32 ah, .int .i64 sh, .int .u32 v, .int .i64 n, .int .i64 cut] w fun e w' => e = .returned (.bool true) ∧ Below w.heap.size w w' := by
  obtain ⟨s, hs⟩ : ∃ s : Nat, sh % 8 = s := ⟨(sh % 8).toNat, by omega⟩
  obtain ⟨m, hm⟩ : ∃ m : Nat, n % 33 = m := ⟨(n % 33).toNat, by omega⟩
  have hs8 : s < 8 := by omega
  have hm32 : m ≤ 32 := by omega
  obtain ⟨c, hc⟩ : ∃ c : Nat, cut % ((m : Int) + 1) = c := ⟨(cut % ((m : Int) + 1)).toNat, by have := Int.emod_nonneg cut (show (m : Int) + 1 ≠ 0 by omega); omega⟩
  have hcm : c ≤ m := by have := Int.emod_lt_of_pos cut (show 0 < (m : Int) + 1 by omega); omega
  obtain ⟨x, HX⟩ : ∃ x, Hid (x = v % 2 ^ m) := ⟨_, rfl⟩
  obtain ⟨hx0, hx1, hx2⟩ := low_in v hm32
  rw [← HX.out] at hx0 hx1 hx2
  obtain ⟨y, HY⟩ : ∃ y, Hid (y = ah % 2 ^ s) := ⟨_, rfl⟩
  obtain ⟨hy0, hy1, hy2⟩ := low_in ah (n := s) (by omega)
  rw [← HY.out] at hy0 hy1 hy2
  obtain ⟨p, HP⟩ : ∃ p, Hid (p = x % 2 ^ c) := ⟨_, rfl⟩
  obtain ⟨hp0, hp1, hp2⟩ := low_in x (n := c) (by omega)
  rw [← HP.out] at hp0 hp1 hp2
  obtain ⟨q, HQ⟩ : ∃ q, Hid (q = x / 2 ^ c) := ⟨_, rfl⟩
  have hq0 : 0 ≤ q := by rw [HQ.out]; exact Int.ediv_nonneg hx0 (Int.le_of_lt (pow_pos c))
  have hq1 : q < 2 ^ (m - c) := by
    rw [HQ.out]
    have e2 : (2 : Int) ^ m = 2 ^ (m - c) * 2 ^ c := by rw [← Int.pow_add]; congr 1; omega
    exact Int.ediv_lt_of_lt_mul (pow_pos c) (by rw [← e2]; exact hx1)
  have hq2 : q < 4294967296 := by rw [HQ.out]; exact Int.lt_of_le_of_lt (Int.ediv_le_self _ hx0) hx2
  have HS := hide hs
  have HM := hide hm
  have HC := hide hc
  have HX1 := hide hx1
  have HY1 := hide hy1
  have HP1 := hide hp1
  have HQ1 := hide hq1
  have hsh : x / 2 ^ c = q := HQ.out.symm
  have hmc : (m : Int) - c = ((m - c : Nat) : Int) := by omega
  have HMC := hide hmc
  clear hs hm hc hx1 hy1 hp1 hq1 hmc
  have HSP : Hid (bts p c ++ bts q (m - c) = bts x m) := by
    show _ = _
    have := bts_split x c (m - c)
    rw [show c + (m - c) = m by omega] at this
    rw [this, HP.out, bts_mod, HQ.out]
  go_enter Try.func4, Try.ntmps4
  go_wp2_with fail
  refine (which_any sh 8 (by omega) (by omega) _).mono ?_
  rintro e w' ⟨rfl, rfl⟩
  rw [HS.out]
  go_wp2_with fail
  refine (width_any n _).mono ?_
  rintro e w' ⟨rfl, rfl⟩
  rw [HM.out]
  go_wp2_with fail
  refine (which_any cut ((m : Int) + 1) (by omega) (by omega) _).mono ?_
  rintro e w' ⟨rfl, rfl⟩
  rw [HC.out]
  go_wp2_with fail
  refine (low_any v m hm32 hv hv1 _).mono ?_
  rintro e w' ⟨rfl, rfl⟩
  rw [← HX.out]
  have H0 := hide (Herd.nil w')
  go_wp2_with fail
  refine (hnewW H0.out).mono ?_
  rintro e w1 ⟨g, K1, rfl, hH⟩
  have H1 := hide hH
  clear hH
  go_wp2_with fail
  refine (hnewW H1.out).mono ?_
  rintro e w2 ⟨g2, K2, rfl, hH⟩
  have H2 : Hid (Herd w' w2 [(K1, tw g []), (K2, tw g2 [])]) := hH
  clear hH
  have P1 := hide (putE_ok (putOk_of (row := []) HY1.out (by omega) (by simp; omega)))
  rw [List.nil_append] at P1
  have P2 := hide (putE_ok (putOk_of (row := bts y s) HX1.out hm32 (by rw [length_bts]; omega)))
  have P3 := hide (putE_ok (putOk_of (row := bts y s) HP1.out (by omega) (by rw [length_bts]; omega)))
  have P4 := hide (putE_ok (putOk_of (row := bts y s ++ bts p c) HQ1.out (by omega) (by rw [List.length_append, length_bts, length_bts]; omega)))
  rw [List.append_assoc, HSP.out] at P4
  go_wp2_with fail
  refine (low_any ah s (by omega) ha ha1 _).mono ?_
  rintro e wx ⟨rfl, hwx⟩
  subst hwx
  rw [← HY.out]
  go_wp2_with fail
  refine (hput H2.out 0 rfl y s hy0 hy2).mono ?_
  rintro e w3 ⟨rfl, K3, hH⟩
  rw [P1.out.1]
  rw [P1.out.2] at hH
  have H3 : Hid (Herd w' w3 [(K3, tw g (bts y s)), (K2, tw g2 [])]) := hH
  clear hH
  go_wp2_with fail
  refine (low_any ah s (by omega) ha ha1 _).mono ?_
  rintro e wx ⟨rfl, hwx⟩
  subst hwx
  rw [← HY.out]
  go_wp2_with fail
  refine (hput H3.out 1 rfl y s hy0 hy2).mono ?_
  rintro e w4 ⟨rfl, K4, hH⟩
  rw [P1.out.1]
  rw [P1.out.2] at hH
  have H4 : Hid (Herd w' w4 [(K3, tw g (bts y s)), (K4, tw g2 (bts y s))]) := hH
  clear hH
  go_wp2_with fail
  refine (hput H4.out 0 rfl x m hx0 hx2).mono ?_
  rintro e w5 ⟨rfl, K5, hH⟩
  rw [P2.out.1]
  rw [P2.out.2] at hH
  have H5 : Hid (Herd w' w5 [(K5, tw g (bts y s ++ bts x m)), (K4, tw g2 (bts y s))]) := hH
  clear hH
  go_wp2_with fail
  refine (low_any x c (by omega) hx0 hx2 _).mono ?_
  rintro e wx ⟨rfl, hwx⟩
  subst hwx
  rw [← HP.out]
  go_wp2_with fail
  refine (hput H5.out 1 rfl p c hp0 hp2).mono ?_
  rintro e w6 ⟨rfl, K6, hH⟩
  rw [P3.out.1]
  rw [P3.out.2] at hH
  have H6 : Hid (Herd w' w6 [(K5, tw g (bts y s ++ bts x m)), (K6, tw g2 (bts y s ++ bts p c))]) := hH
  clear hH
  go_wp2_with fail
  rw [HMC.out]
  refine (hput H6.out 1 rfl q (m - c : Nat) hq0 hq2).mono ?_
  rintro e w7 ⟨rfl, K7, hH⟩
  rw [P4.out.1]
  rw [P4.out.2] at hH
  have H7 : Hid (Herd w' w7 [(K5, tw g (bts y s ++ bts x m)), (K7, tw g2 (bts y s ++ bts x m))]) := hH
  clear hH
  obtain ⟨R, HRR⟩ : ∃ R, Hid (R = bts y s ++ bts x m) := ⟨_, rfl⟩
  rw [← HRR.out] at H7
  have hRl : (R.length : Int) = (s : Int) + m := by rw [HRR.out, List.length_append, length_bts, length_bts]; omega
  have HBT := hide (H7.out.bit 0 rfl).1
  obtain ⟨T, HT⟩ : ∃ T, Hid (T = pack R) := ⟨_, rfl⟩
  have hTl : T.length = (R.length + 7) / 8 := by rw [HT.out]; exact length_pack HBT.out
  have hTi : (T.length : Int) = ((s : Int) + m + 7) / 8 := by omega
  have HTs : Hid (T.length ≤ 33554432) := by show _ ≤ _; omega
  have HTi := hide hTi
  have HTB : Hid (Byt T) := by rw [HT.out]; exact (unpack_pack HBT.out).2
  have HTU : Hid (unpack T = pad R) := by show _ = _; rw [HT.out]; exact (unpack_pack HBT.out).1
  clear hTl hTi
  go_wp2_with fail
  refine (hlen H7.out 0 rfl).mono ?_
  rintro e w8 ⟨rfl, hH⟩
  have H8 := hide hH
  clear hH
  go_wp2_with fail
  refine (hlen H8.out 1 rfl).mono ?_
  rintro e w9 ⟨rfl, hH⟩
  have H9 := hide hH
  clear hH
  go_wp2_with fail
  refine (hbytes H9.out 0 rfl).mono ?_
  rintro e w10 ⟨a10, c10, K10, rfl, hH⟩
  rw [← HT.out] at hH ⊢
  have H10 := hide hH
  clear hH
  go_wp2_with fail
  refine (hbytes H10.out 1 rfl).mono ?_
  rintro e w11 ⟨a11, c11, K11, rfl, hH⟩
  rw [← HT.out] at hH ⊢
  have H11 := hide hH
  clear hH
  go_wp2_with fail
  refine (same_any _ _ T T _ (H11.out.sb 2 rfl) (H11.out.sb 3 rfl)).mono ?_
  rintro e w12 ⟨rfl, n12, rfl⟩
  have H12 := hide (H11.out.drewN n12)
  rw [show eqB T T = true by simp [eqB]]
  go_wp2_with fail
  refine (hbytes H12.out 0 rfl).mono ?_
  rintro e w13 ⟨a13, c13, K13, rfl, hH⟩
  rw [← HT.out] at hH ⊢
  have H13 := hide hH
  clear hH
  have hTi := HTi.out
  go_wp2_with fail
  refine (hbytes H13.out 0 rfl).mono ?_
  rintro e w14 ⟨a14, c14, K14, rfl, hH⟩
  rw [← HT.out] at hH ⊢
  have H14 := hide hH
  clear hH hTi
  go_wp2_with fail
  refine (hnewR H14.out _ T (H14.out.sb 5 rfl) HTB.out HTs.out).mono ?_
  rintro e w15 ⟨g15, K15, rfl, hH⟩
  rw [HTU.out] at hH
  have H15 := hide hH
  clear hH
  obtain ⟨U, HU⟩ : ∃ U, Hid (U = pad R) := ⟨_, rfl⟩
  rw [← HU.out] at H15
  have HUl : Hid (s + m ≤ U.length) := by show _ ≤ _; rw [HU.out, length_pad]; omega
  have HUa : Hid (ahead U s c = p ∧ ahead U (s + c) (m - c) = q) := by
    have e0 : U = bts y s ++ (bts p c ++ (bts q (m - c) ++ List.replicate ((R.length + 7) / 8 * 8 - R.length) 0)) := by
      rw [HU.out]; unfold pad
      rw [← List.append_assoc (bts p c), HSP.out, ← List.append_assoc, ← HRR.out]
    have e1 : U.drop s = bts p c ++ (bts q (m - c) ++ List.replicate ((R.length + 7) / 8 * 8 - R.length) 0) := by
      rw [e0, List.drop_left' (length_bts _ _)]
    have e2 : U.drop (s + c) = bts q (m - c) ++ List.replicate ((R.length + 7) / 8 * 8 - R.length) 0 := by
      rw [← List.drop_drop, e1, List.drop_left' (length_bts _ _)]
    exact ⟨by rw [ahead_at e1 (length_bts _ _), val_bts_in hp0 HP1.out], by rw [ahead_at e2 (length_bts _ _), val_bts_in hq0 HQ1.out]⟩
  have S1 := hide (skip_ok (row := U) (p := 0) (n := s) (by have := HUl.out; omega))
  rw [Nat.zero_add] at S1
  have T1 := hide (take_ok (takeOk_of (row := U) (p := s) (n := c) (by omega) (by have := HUl.out; omega)))
  have T2 := hide (take_ok (takeOk_of (row := U) (p := s + c) (n := m - c) (by omega) (by have := HUl.out; omega)))
  go_wp2_with fail
  refine (hskip H15.out 6 rfl s).mono ?_
  rintro e w16 ⟨rfl, hH⟩
  rw [S1.out.1]
  rw [S1.out.2] at hH
  have H16 := hide hH
  clear hH
  go_wp2_with fail
  refine (htake H16.out 6 rfl c).mono ?_
  rintro e w17 ⟨rfl, hH⟩
  rw [T1.out.1, T1.out.2.1, HUa.out.1]
  rw [T1.out.2.2] at hH
  have H17 := hide hH
  clear hH
  go_wp2_with fail
  rw [HMC.out]
  refine (htake H17.out 6 rfl (m - c : Nat)).mono ?_
  rintro e w18 ⟨rfl, hH⟩
  rw [T2.out.1, T2.out.2.1, HUa.out.2]
  rw [T2.out.2.2] at hH
  have H18 := hide hH
  clear hH
  obtain ⟨hor, z0, z1, _⟩ := u64_or hp0 HP1.out hq0 HQ1.out (by omega)
  have hw : IntKind.u64.wrap (q * 2 ^ c) = q * 2 ^ c := by rw [IntKind.wrap_u64]; omega
  have hsum : p + q * 2 ^ c = x := by
    rw [HP.out, HQ.out]
    have := Int.mul_ediv_add_emod x (2 ^ c)
    rw [Int.mul_comm]
    omega
  have hpl : ((s + c + (m - c) : Nat) : Int) = (s : Int) + m := by omega
  have HPL := hide hpl
  clear z0 z1 hpl
  go_wp2_with fail
  refine (hat H18.out 6 rfl).mono ?_
  rintro e w19 ⟨rfl, hH⟩
  rw [HPL.out]
  have H19 := hide hH.bel
  clear hH
  go_wp2
  go_ret
  exact ⟨rfl, H19.out⟩
end Go.Proofs.Ytklffkbcigehfab
