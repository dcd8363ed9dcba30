import Derived.Test.YtklffkbcigehfaaFact
import Derived.Test.YtklffkbcigehfaaHerdJ
namespace Go.Proofs.Ytklffkbcigehfaa
open Go.RowKit Go.Maps
set_option maxRecDepth 20000

set_option maxHeartbeats 1000000 in
theorem places_walk (vd : Value) (l : List Int) (w : World) (hS : SB w vd l) (hB : Byt l) :
    Calls Try.prog 7 #[vd] w fun e w' => e = .returned (.bool true) ∧ Below w.heap.size w w' := by
  obtain ⟨ao, cap, hvd⟩ := hS.len
  subst hvd
  obtain ⟨hcap1, hcap2⟩ := hS.cap
  have HS := hide hS
  have HBy := hide hB
  have H0 := hide (Herd.nil w)
  clear hS hB
  go_enter Try.func7, Try.ntmps7
  go_wp2_with fail
  refine (hnewW H0.out).mono ?_
  rintro e w1 ⟨g, K1, rfl, hH⟩
  have H1 := hide hH
  clear hH
  go_wp2_with fail
  refine (hnewW H1.out).mono ?_
  rintro e w2 ⟨g2, K2, rfl, hH⟩
  have H2 : Hid (Herd w w2 [(K1, tw g []), (K2, tw g2 [])]) := hH
  clear hH
  by_cases hlen : 33554432 < l.length
  · have hlen' : (33554432 : Int) < l.length := by omega
    have HB := hide H2.out.bel
    clear H1 H2
    go_wp2
    go_ret
    exact ⟨rfl, HB.out⟩
  have hlen' : (l.length : Int) ≤ 33554432 := by omega
  have hlenN : l.length ≤ 33554432 := by omega
  clear hlen
  have HS2 := hide (HS.out.below H2.out.bel)
  go_wp2_with fail
  refine (copied_any _ l _ HS2.out (by omega)).mono ?_
  rintro e w3 ⟨a3, c3, rfl, ho3, hb3⟩
  obtain ⟨K3, hH⟩ := H2.out.list hb3 ho3
  have H3 : Hid (Herd w w3 [(K1, tw g []), (K2, tw g2 []), (K3, tl (.slice a3 l.length c3) l)]) := hH
  clear hH ho3 hb3
  go_wp2_with fail
  refine (hnewR H3.out _ l (H3.out.sb 2 rfl) HBy.out hlenN).mono ?_
  rintro e w4 ⟨g4, K4, rfl, hH⟩
  obtain ⟨U, HU⟩ : ∃ U, Hid (U = unpack l) := ⟨_, rfl⟩
  rw [← HU.out] at hH
  have H4 : Hid (Herd w w4 [(K1, tw g []), (K2, tw g2 []), (K3, tl (.slice a3 l.length c3) l), (K4, tr g4 U 0)]) := hH
  have hUl : U.length = 8 * l.length := by rw [HU.out, length_unpack]
  have HUl := hide hUl
  clear hH hUl H0 H1 H2 H3 HS2
  go_wp2
  go_loopw [6] (fun i wr => ∃ k : Nat, k ≤ l.length ∧ i = .int .i64 k ∧ Hid (∃ K1 K2 K3 K4, Herd w wr [(K1, tw g (U.take (8 * k))), (K2, tw g2 []), (K3, tl (.slice a3 l.length c3) l), (K4, tr g4 U (8 * k))])) (fun i _ => l.length - (intOf i).toNat)
  case atStart => exact ⟨0, Nat.zero_le _, rfl, K1, K2, K3, K4, by simpa using H4.out⟩
  case round =>
    clear H4
    obtain ⟨k, hk, rfl, HQ⟩ := hrel
    by_cases hlt : k < l.length
    · have hlt' : (k : Int) < (l.length : Int) := by omega
      go_wp2
      go_loopw [7] (fun i wr => ∃ j : Nat, j ≤ 8 ∧ i = .int .i64 j ∧ Hid (∃ K1 K2 K3 K4, Herd w wr [(K1, tw g (U.take (8 * k + j))), (K2, tw g2 []), (K3, tl (.slice a3 l.length c3) l), (K4, tr g4 U (8 * k + j))])) (fun i _ => 8 - (intOf i).toNat)
      case atStart => exact ⟨0, by omega, rfl, HQ.out⟩
      case round =>
        clear HQ
        obtain ⟨j, hj, rfl, HQ⟩ := hrel
        obtain ⟨K1, K2, K3, K4, hH⟩ := HQ.out
        have H5 := hide hH
        clear hH HQ
        by_cases hj8 : j < 8
        · have hj8' : (j : Int) < 8 := by omega
          obtain ⟨x, hx⟩ : ∃ x, l[k]? = some x := ⟨l[k], by simp [hlt]⟩
          have hbit := unpack_get hx hj8
          rw [← HU.out] at hbit
          obtain ⟨b, o, hao, hc⟩ := HS.out.byte H5.out.bel hlt
          have hxd : l.getD k 0 = x := by rw [List.getD, hx]; rfl
          rw [hxd] at hc
          obtain ⟨hx0, hx1⟩ := HBy.out.get hx
          subst hao
          obtain ⟨q, HQ⟩ : ∃ q, Hid (q = x / 2 ^ j) := ⟨_, rfl⟩
          have hq0 : 0 ≤ q := by rw [HQ.out]; exact Int.ediv_nonneg hx0 (Int.le_of_lt (pow_pos j))
          have hq1 : q < 4294967296 := by rw [HQ.out]; exact Int.lt_of_le_of_lt (Int.ediv_le_self _ hx0) (by omega)
          have hsh : x / 2 ^ j = q := HQ.out.symm
          rw [hsh] at hbit
          have hand := u32_and1 hq0 hq1
          have HBIT := hide hbit
          have hpl : 8 * k + j < U.length := (List.getElem?_eq_some_iff.1 hbit).1
          have T1 := hide (take_ok (takeOk_of (row := U) (p := 8 * k + j) (n := 1) (by omega) (by omega)))
          have HA := hide (ahead_one HBIT.out)
          have HTL : Hid (U.length ≤ 268435456) := by show _ ≤ _; rw [HUl.out]; omega
          have hq2 : q % 2 = 0 ∨ q % 2 = 1 := by omega
          have P1 := hide (putE_ok (putOk_of (row := U.take (8 * k + j)) (v := q % 2) (n := 1) (by omega) (by omega) (by rw [List.length_take]; have := HTL.out; omega)))
          rw [bts_one hq2, ← take_one HBIT.out] at P1
          clear hbit hxd hpl hx hq2
          go_wp2_with fail
          refine (htake H5.out 3 rfl 1).mono ?_
          rintro e w6 ⟨rfl, hH⟩
          have T1' : Hid (takeE U (8 * k + j) 1 = 0 ∧ takeV U (8 * k + j) 1 = q % 2 ∧ takeP U (8 * k + j) 1 = 8 * k + j + 1) := ⟨T1.out.1, T1.out.2.1.trans HA.out, T1.out.2.2⟩
          rw [T1'.out.1, T1'.out.2.1]
          rw [T1'.out.2.2] at hH
          have H6 := hide hH
          clear hH
          go_wp2_with fail
          refine (hput H6.out 0 rfl (q % 2) 1 (by omega) (by omega)).mono ?_
          rintro e w7 ⟨rfl, K7, hH⟩
          have P1' : Hid (putE (U.take (8 * k + j)) (q % 2) 1 = 0 ∧ putRow (U.take (8 * k + j)) (q % 2) 1 = U.take (8 * k + j + 1)) := P1.out
          rw [P1'.out.1]
          rw [P1'.out.2] at hH
          have H7 := hide hH
          clear hH
          go_wp2
          go_roundw
          case rel => exact ⟨j + 1, by omega, by go_num, K7, K2, K3, K4, H7.out⟩
          case measure => simp [intOf]; omega
        · obtain rfl : j = 8 := by omega
          go_wp2
          go_roundw
          case rel => exact ⟨k + 1, by omega, by go_num, K1, K2, K3, K4, by rw [show 8 * (k + 1) = 8 * k + 8 by omega]; exact H5.out⟩
          case measure => simp [intOf]; omega
    · obtain rfl : k = l.length := by omega
      have hlt' : ¬ (l.length : Int) < (l.length : Int) := by omega
      obtain ⟨K1, K2, K3, K4, hH⟩ := HQ.out
      have hT : U.take (8 * l.length) = U := List.take_of_length_le (by rw [HUl.out]; exact Nat.le_refl _)
      rw [hT] at hH
      have H5 := hide hH
      have HS5 := hide (HS.out.below hH.bel)
      clear hH hT HQ
      go_wp2_with fail
      refine (copied_any _ l _ HS5.out (by omega)).mono ?_
      rintro e w6 ⟨a6, c6, rfl, ho6, hb6⟩
      obtain ⟨K6, hH⟩ := H5.out.list hb6 ho6
      have H6 : Hid (Herd w w6 [(K1, tw g U), (K2, tw g2 []), (K3, tl (.slice a3 l.length c3) l), (K4, tr g4 U (8 * l.length)), (K6, tl (.slice a6 l.length c6) l)]) := hH
      clear hH ho6 hb6
      have hre : rawE [] l = 0 ∧ rawRow [] l = U := by
        unfold rawE rawRow
        rw [if_neg (by simp; omega), if_neg (by simp), if_neg (by simp; omega), if_neg (by simp), HU.out]
        exact ⟨rfl, rfl⟩
      have HRE := hide hre
      clear hre
      go_wp2_with fail
      refine (hraw H6.out 1 rfl _ l HBy.out (H6.out.sb 4 rfl) (fun x hx _ => H6.out.sep 4 1 _ _ rfl rfl (by decide) x ((H6.out.rep 4 _ rfl).2.1 x hx))).mono ?_
      rintro e w7 ⟨rfl, K7, hH⟩
      rw [HRE.out.1]
      rw [HRE.out.2] at hH
      have H7 : Hid (Herd w w7 [(K1, tw g U), (K7, tw g2 U), (K3, tl (.slice a3 l.length c3) l), (K4, tr g4 U (8 * l.length)), (K6, tl (.slice a6 l.length c6) l)]) := hH
      clear hH
      have hUi : (U.length : Int) = 8 * (l.length : Int) := by rw [HUl.out]; omega
      have HUi := hide hUi
      clear hUi
      go_wp2_with fail
      refine (hleft H7.out 3 rfl).mono ?_
      rintro e w8 ⟨rfl, hH⟩
      rw [show ((U.length : Int) - ((8 * l.length : Nat) : Int)) = 0 by rw [HUl.out]; omega]
      have H8 := hide hH
      clear hH
      go_wp2_with fail
      refine (hlen H8.out 1 rfl).mono ?_
      rintro e w9 ⟨rfl, hH⟩
      rw [HUi.out]
      have H9 := hide hH
      clear hH
      go_wp2_with fail
      refine (hlen H9.out 0 rfl).mono ?_
      rintro e w10 ⟨rfl, hH⟩
      rw [HUi.out]
      have H10 := hide hH
      clear hH
      go_wp2_with fail
      refine (hlen H10.out 1 rfl).mono ?_
      rintro e w11 ⟨rfl, hH⟩
      rw [HUi.out]
      have H11 := hide hH
      clear hH
      have HPK : Hid (pack U = l) := by show _ = _; rw [HU.out]; exact pack_unpack HBy.out
      go_wp2_with fail
      refine (hbytes H11.out 0 rfl).mono ?_
      rintro e w12 ⟨a12, c12, K12, rfl, hH⟩
      rw [HPK.out] at hH ⊢
      have H12 := hide hH
      have HS12 := hide (HS.out.below hH.bel)
      clear hH
      go_wp2_with fail
      refine (same_any _ _ l l _ (H12.out.sb 5 rfl) HS12.out).mono ?_
      rintro e w13 ⟨rfl, n13, rfl⟩
      have H13 := hide (H12.out.drewN n13)
      rw [show eqB l l = true by simp [eqB]]
      go_wp2_with fail
      refine (hbytes H13.out 1 rfl).mono ?_
      rintro e w14 ⟨a14, c14, K14, rfl, hH⟩
      rw [HPK.out] at hH ⊢
      have H14 := hide hH
      have HS14 := hide (HS.out.below hH.bel)
      clear hH
      go_wp2_with fail
      refine (same_any _ _ l l _ (H14.out.sb 6 rfl) HS14.out).mono ?_
      rintro e w15 ⟨rfl, n15, rfl⟩
      have H15 := hide (H14.out.drewN n15).bel
      rw [show eqB l l = true by simp [eqB]]
      go_wp2
      go_ret
      exact ⟨rfl, H15.out⟩
end Go.Proofs.Ytklffkbcigehfaa
