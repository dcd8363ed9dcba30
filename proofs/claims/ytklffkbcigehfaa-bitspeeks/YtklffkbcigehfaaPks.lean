import Derived.Test.YtklffkbcigehfaaHerdJ
import Derived.Test.YtklffkbcigehfaaFact
import Derived.Test.YtklffkbcigehfaaNums
namespace Go.Proofs.Ytklffkbcigehfaa
open Go.RowKit Go.Maps
set_option maxRecDepth 20000

theorem take_end {row : List Int} {p n : Nat} (h1 : n ≤ 32) (h2 : row.length < p + n) : takeE row p n = 30 ∧ takeV row p n = 0 ∧ takeP row p n = p := by
  have hn : ¬ takeOk row p n := fun h => by have := h.2; omega
  refine ⟨?_, by unfold takeV; rw [if_neg hn], by unfold takeP; rw [if_neg hn]⟩
  unfold takeE
  rw [if_pos ⟨by omega, by omega⟩, if_neg (by omega)]

theorem skip_end {row : List Int} {p n : Nat} (h2 : row.length < p + n) : skipE row p n = 30 ∧ skipP row p n = p := by
  refine ⟨?_, ?_⟩
  · unfold skipE; rw [if_neg (by omega), if_neg (by omega)]
  · unfold skipP; rw [if_neg (by omega), if_neg (by omega)]

theorem ahead_all {row : List Int} {p n L : Nat} (hL : row.length = p + L) (h : L ≤ n) : ahead row p n = ahead row p L := by
  unfold ahead
  rw [List.take_of_length_le (by rw [List.length_drop]; omega), List.take_of_length_le (by rw [List.length_drop]; omega)]

theorem peek_in {row : List Int} {p n : Nat} (h : n ≤ 32) : peekV row p n = ahead row p n ∧ peekK row p n = min (n : Int) ((row.length : Int) - p) := by
  have hc : Cnt (n : Int) := ⟨by omega, by omega⟩
  exact ⟨by unfold peekV; rw [if_pos hc]; rfl, if_pos hc⟩

set_option maxHeartbeats 2000000 in
theorem peeks_walk (vd vs : Value) (l ss : List Int) (w : World) (hS : SB w vd l) (hB : Byt l) (hN : SN .i64 w vs ss) :
    Calls Try.prog 5 #[vd, vs] w fun e w' => e = .returned (.bool true) ∧ Below w.heap.size w w' := by
  obtain ⟨ao, cap, hvd⟩ := hS.len
  subst hvd
  obtain ⟨hcap1, hcap2⟩ := hS.cap
  obtain ⟨sa, sc, hvs, hsc1, hsc2⟩ := hN.len
  subst hvs
  have HS := hide hS
  have HSN := hide hN
  have HBy := hide hB
  have H0 := hide (Herd.nil w)
  clear hS hB hN
  by_cases hlen : 33554432 < l.length
  · have hlen' : (33554432 : Int) < l.length := by omega
    go_enter Try.func5, Try.ntmps5
    go_wp2
    go_ret
    exact ⟨rfl, Below.refl _ _⟩
  have hlen' : (l.length : Int) ≤ 33554432 := by omega
  have hlenN : l.length ≤ 33554432 := by omega
  clear hlen
  obtain ⟨U, HU⟩ : ∃ U, Hid (U = unpack l) := ⟨_, rfl⟩
  go_enter Try.func5, Try.ntmps5
  go_wp2_with fail
  refine (copied_any _ l _ HS.out (by omega)).mono ?_
  rintro e w1 ⟨a1, c1, rfl, ho1, hb1⟩
  obtain ⟨K1, hH⟩ := H0.out.list hb1 ho1
  have H1 : Hid (Herd w w1 [(K1, tl (.slice a1 l.length c1) l)]) := hH
  clear hH ho1 hb1
  go_wp2_with fail
  refine (hnewR H1.out _ l (H1.out.sb 0 rfl) HBy.out hlenN).mono ?_
  rintro e w2 ⟨g, K2, rfl, hH⟩
  rw [← HU.out] at hH
  have H2 : Hid (Herd w w2 [(K1, tl (.slice a1 l.length c1) l), (K2, tr g U 0)]) := hH
  have HS2 := hide (HS.out.below H2.out.bel)
  clear hH
  go_wp2_with fail
  refine (copied_any _ l _ HS2.out (by omega)).mono ?_
  rintro e w3 ⟨a3, c3, rfl, ho3, hb3⟩
  obtain ⟨K3, hH⟩ := H2.out.list hb3 ho3
  have H3 : Hid (Herd w w3 [(K1, tl (.slice a1 l.length c1) l), (K2, tr g U 0), (K3, tl (.slice a3 l.length c3) l)]) := hH
  clear hH ho3 hb3
  go_wp2_with fail
  refine (hnewR H3.out _ l (H3.out.sb 2 rfl) HBy.out hlenN).mono ?_
  rintro e w4 ⟨g4, K4, rfl, hH⟩
  rw [← HU.out] at hH
  have H4 : Hid (Herd w w4 [(K1, tl (.slice a1 l.length c1) l), (K2, tr g U 0), (K3, tl (.slice a3 l.length c3) l), (K4, tr g4 U 0)]) := hH
  have hUl : U.length = 8 * l.length := by rw [HU.out, length_unpack]
  have HUl := hide hUl
  clear hH hUl H0 H1 H2 H3 HS2
  go_wp2
  go_loopw [7, 8] (fun at' i wr => ∃ k p : Nat, k ≤ ss.length ∧ p ≤ 8 * l.length ∧ i = .int .i64 k ∧ at' = .int .i64 p ∧ Hid (Herd w wr [(K1, tl (.slice a1 l.length c1) l), (K2, tr g U p), (K3, tl (.slice a3 l.length c3) l), (K4, tr g4 U p)])) (fun _ i _ => ss.length - (intOf i).toNat)
  case atStart => exact ⟨0, 0, Nat.zero_le _, Nat.zero_le _, rfl, rfl, H4.out⟩
  case round =>
    clear H4
    obtain ⟨k, p, hk, hp, rfl, rfl, H5⟩ := hrel
    by_cases hlt : k < ss.length
    · have hlt' : (k : Int) < (ss.length : Int) := by omega
      obtain ⟨b, o, hsa, hc⟩ := HSN.out.num H5.out.bel hlt
      subst hsa
      obtain ⟨sk, HSK⟩ : ∃ sk, Hid (sk = ss.getD k 0) := ⟨_, rfl⟩
      rw [← HSK.out] at hc
      obtain ⟨m, hm⟩ : ∃ m : Nat, sk % 33 = m := ⟨(sk % 33).toNat, by omega⟩
      have hm32 : m ≤ 32 := by omega
      have HM := hide hm
      clear hm
      obtain ⟨L, hL⟩ : ∃ L : Nat, 8 * l.length = p + L := ⟨8 * l.length - p, by omega⟩
      have hLi : 8 * (l.length : Int) - p = L := by omega
      have HL := hide hL
      have HUL : Hid (U.length = p + L) := by show _ = _; rw [HUl.out, hL]
      have HLI : Hid ((U.length : Int) - p = L) := by show _ = _; rw [HUl.out]; omega
      have hLp : L ≤ 268435456 := by omega
      have PK := hide (peek_in (row := U) (p := p) hm32)
      have HBU : Hid (Bit U) := by rw [HU.out]; exact bit_unpack _
      have hab := ahead_bound HBU.out p m
      have h232 : (2 : Int) ^ m ≤ 2 ^ 32 := pow_le hm32
      obtain ⟨A, HA⟩ : ∃ A, Hid (A = ahead U p m) := ⟨_, rfl⟩
      rw [← HA.out] at hab PK
      have hA0 := hab.1
      have hA1 : A < 4294967296 := by omega
      have HAB := hide hab.2
      clear hL hab h232
      go_wp2_with fail
      refine (width_any sk _).mono ?_
      rintro e wx ⟨rfl, hwx⟩
      subst hwx
      rw [HM.out]
      go_wp2_with fail
      refine (hpeek H5.out 1 rfl m).mono ?_
      rintro e w6 ⟨rfl, hH⟩
      rw [PK.out.1, PK.out.2, HLI.out]
      have H6 := hide hH
      clear hH
      by_cases hml : m ≤ L
      · have hmin : min (m : Int) (L : Int) = m := by omega
        have HMIN := hide hmin
        rw [HMIN.out]
        have HLOW : Hid (A % 2 ^ m = A) := Int.emod_eq_of_lt hA0 HAB.out
        have T1 := hide (take_ok (takeOk_of (row := U) (p := p) (n := m) hm32 (by rw [HUL.out]; omega)))
        rw [← HA.out] at T1
        have S1 := hide (skip_ok (row := U) (p := p) (n := m) (by rw [HUL.out]; omega))
        have hnl : ¬ (L : Int) < m := by omega
        have hml' : (m : Int) ≤ L := by omega
        clear HMIN hmin
        go_wp2_with fail
        refine (low_any A m hm32 hA0 hA1 _).mono ?_
        rintro e wx ⟨rfl, hwx⟩
        subst hwx
        rw [HLOW.out]
        go_wp2_with fail
        refine (hat H6.out 1 rfl).mono ?_
        rintro e w7 ⟨rfl, hH⟩
        have H7 := hide hH
        clear hH
        go_wp2_with fail
        refine (hleft H7.out 1 rfl).mono ?_
        rintro e w8 ⟨rfl, hH⟩
        rw [HLI.out]
        have H8 := hide hH
        clear hH
        go_wp2_with fail
        refine (htake H8.out 1 rfl m).mono ?_
        rintro e w9 ⟨rfl, hH⟩
        rw [T1.out.1, T1.out.2.1]
        rw [T1.out.2.2] at hH
        have H9 := hide hH
        clear hH
        go_wp2_with fail
        refine (hskip H9.out 3 rfl m).mono ?_
        rintro e w10 ⟨rfl, hH⟩
        rw [S1.out.1]
        rw [S1.out.2] at hH
        have H10 := hide hH
        clear hH
        go_wp2_with fail
        refine (hat H10.out 3 rfl).mono ?_
        rintro e w11 ⟨rfl, hH⟩
        have H11 := hide hH
        clear hH
        go_wp2
        go_roundw
        case rel => exact ⟨k + 1, p + m, by omega, by have := HL.out; omega, by go_num, by go_num, H11.out⟩
        case measure => simp [intOf]; omega
      · have hmin : min (m : Int) (L : Int) = L := by omega
        have HMIN := hide hmin
        rw [HMIN.out]
        have hL32 : L ≤ 32 := by omega
        have HAL : Hid (A = ahead U p L) := by show _ = _; rw [HA.out]; exact ahead_all HUL.out (by omega)
        have HABL : Hid (A < 2 ^ L) := by show _ < _; rw [HAL.out]; exact (ahead_bound HBU.out p L).2
        have HLOW : Hid (A % 2 ^ L = A) := Int.emod_eq_of_lt hA0 HABL.out
        have T1 := hide (take_end (row := U) (p := p) (n := m) hm32 (by rw [HUL.out]; omega))
        have S1 := hide (skip_end (row := U) (p := p) (n := m) (by rw [HUL.out]; omega))
        have T2 := hide (take_ok (takeOk_of (row := U) (p := p) (n := L) hL32 (by rw [HUL.out]; omega)))
        rw [← HAL.out] at T2
        have S2 := hide (skip_ok (row := U) (p := p) (n := L) (by rw [HUL.out]; omega))
        have hnl : (L : Int) < m := by omega
        have hml' : ¬ (m : Int) ≤ L := by omega
        clear HMIN hmin hml
        go_wp2_with fail
        refine (low_any A L hL32 hA0 hA1 _).mono ?_
        rintro e wx ⟨rfl, hwx⟩
        subst hwx
        rw [HLOW.out]
        go_wp2_with fail
        refine (hat H6.out 1 rfl).mono ?_
        rintro e w7 ⟨rfl, hH⟩
        have H7 := hide hH
        clear hH
        go_wp2_with fail
        refine (hleft H7.out 1 rfl).mono ?_
        rintro e w8 ⟨rfl, hH⟩
        rw [HLI.out]
        have H8 := hide hH
        clear hH
        go_wp2_with fail
        refine (htake H8.out 1 rfl m).mono ?_
        rintro e w9 ⟨rfl, hH⟩
        rw [T1.out.1, T1.out.2.1]
        rw [T1.out.2.2] at hH
        have H9 := hide hH
        clear hH
        go_wp2_with fail
        refine (hskip H9.out 3 rfl m).mono ?_
        rintro e w10 ⟨rfl, hH⟩
        rw [S1.out.1]
        rw [S1.out.2] at hH
        have H10 := hide hH
        clear hH
        go_wp2_with fail
        refine (htake H10.out 1 rfl L).mono ?_
        rintro e w11 ⟨rfl, hH⟩
        rw [T2.out.1, T2.out.2.1]
        rw [T2.out.2.2] at hH
        have H11 := hide hH
        clear hH
        go_wp2_with fail
        refine (hskip H11.out 3 rfl L).mono ?_
        rintro e w12 ⟨rfl, hH⟩
        rw [S2.out.1]
        rw [S2.out.2] at hH
        have H12 := hide hH
        clear hH
        go_wp2
        go_roundw
        case rel => exact ⟨k + 1, p + L, by omega, by have := HL.out; omega, by go_num, by have := HL.out; go_num, H12.out⟩
        case measure => simp [intOf]; omega
    · have hlt' : ¬ (k : Int) < (ss.length : Int) := by omega
      go_wp2_with fail
      refine (hat H5.out 1 rfl).mono ?_
      rintro e w7 ⟨rfl, hH⟩
      have H7 := hide hH
      clear hH
      go_wp2_with fail
      refine (hat H7.out 3 rfl).mono ?_
      rintro e w8 ⟨rfl, hH⟩
      have H8 := hide hH.bel
      clear hH
      go_wp2
      go_ret
      exact ⟨rfl, H8.out⟩
end Go.Proofs.Ytklffkbcigehfaa
