import Derived.Test.YtklffkbcigehfaaHlp
import Derived.Test.YtklffkbcigehfaaWr3
namespace Go.Proofs.Ytklffkbcigehfaa
open Go.RowKit Go.Maps
set_option maxRecDepth 20000

theorem putOk_of {row : List Int} {v : Int} {n : Nat} (h1 : v < 2 ^ n) (h2 : n ≤ 32) (h3 : row.length + n ≤ 268435456) : putOk row v n := ⟨⟨⟨by omega, by omega⟩, by simpa using h1⟩, by omega⟩

theorem putE_ok {row : List Int} {v : Int} {n : Nat} (h : putOk row v n) : putE row v n = 0 ∧ putRow row v n = row ++ bts v n := ⟨if_pos h, by unfold putRow; rw [if_pos h]; rfl⟩

theorem takeOk_of {row : List Int} {p n : Nat} (h1 : n ≤ 32) (h2 : p + n ≤ row.length) : takeOk row p n := ⟨⟨by omega, by omega⟩, by omega⟩

theorem take_ok {row : List Int} {p n : Nat} (h : takeOk row p n) : takeE row p n = 0 ∧ takeV row p n = ahead row p n ∧ takeP row p n = p + n :=
  ⟨by unfold takeE; rw [if_pos h.1, if_pos h.2], by unfold takeV; rw [if_pos h]; rfl, by unfold takeP; rw [if_pos h]; rfl⟩

/-- What lies at the front of what comes next. -/
theorem ahead_at {row : List Int} {p n : Nat} {x y : List Int} (h : row.drop p = x ++ y) (hx : x.length = n) : ahead row p n = val x := by
  unfold ahead
  rw [h, List.take_append_of_le_length (by omega), List.take_of_length_le (by omega)]

theorem rev_rev {v : Int} {n : Nat} (h0 : 0 ≤ v) (h1 : v < 2 ^ n) : val (bts (val (bts v n).reverse) n).reverse = v := by
  have hb : Bit (bts v n).reverse := fun b hb => bit_bts v n b (List.mem_reverse.1 hb)
  have e := bts_val hb
  rw [List.length_reverse, length_bts] at e
  rw [e, List.reverse_reverse, val_bts_in h0 h1]

theorem revN_in {v : Int} {n : Nat} (h1 : v < 2 ^ n) (hn : n ≤ 32) : revN v n = val (bts v n).reverse ∧ revE v n = 0 := by
  have : Fit v n := ⟨⟨by omega, by omega⟩, by simpa using h1⟩
  exact ⟨if_pos this, if_pos this⟩

theorem rev_at {v : Int} {n i : Nat} (hi : i < n) (rest : List Int) : ahead ((bts v n).reverse ++ rest) i 1 = v / 2 ^ (n - 1 - i) % 2 := by
  have h := rev_take (v := v) hi
  have hl : i < (bts v n).reverse.length := by rw [List.length_reverse, length_bts]; exact hi
  have e : ((bts v n).reverse ++ rest).drop i = [(bts v n).reverse[i]] ++ ((bts v n).reverse.drop (i + 1) ++ rest) := by
    rw [List.drop_append_of_le_length (by omega), List.drop_eq_getElem_cons hl]
    rfl
  rw [ahead_at (n := 1) e rfl]
  rw [List.take_succ_eq_append_getElem hl, val_append] at h
  rw [List.length_take, Nat.min_eq_left (by omega)] at h
  have hp := pow_pos i
  have h2 : 2 ^ i * val [(bts v n).reverse[i]] = 2 ^ i * (v / 2 ^ (n - 1 - i) % 2) := by rw [Int.mul_comm (2 ^ i) (v / 2 ^ (n - 1 - i) % 2)]; omega
  exact Int.eq_of_mul_eq_mul_left (by omega) h2

set_option maxHeartbeats 1000000 in
theorem mirror_walk (v n : Int) (hv : 0 ≤ v) (hv1 : v < 4294967296) (w : World) : Calls Try.prog 8 #[.int .u32 v, .int .i64 n] w fun e w' => e = .returned (.bool true) ∧ Below w.heap.size w w' := by
  obtain ⟨m, hm⟩ : ∃ m : Nat, n % 33 = m := ⟨(n % 33).toNat, by omega⟩
  have hm32 : m ≤ 32 := by omega
  obtain ⟨x, HX⟩ : ∃ x, Hid (x = v % 2 ^ m) := ⟨_, rfl⟩
  have hp32 : (2 : Int) ^ m ≤ 2 ^ 32 := pow_le hm32
  have hpn := pow_pos m
  have hx0 : 0 ≤ x := by rw [HX.out]; exact Int.emod_nonneg _ (by omega)
  have hx1 : x < 2 ^ m := by rw [HX.out]; exact Int.emod_lt_of_pos _ hpn
  have hx2 : x < 4294967296 := by omega
  have HXB := hide hx1
  obtain ⟨y, HY⟩ : ∃ y, Hid (y = val (bts x m).reverse) := ⟨_, rfl⟩
  have hyb := rev_bound x m
  rw [← HY.out] at hyb
  have hy2 : y < 4294967296 := by omega
  have hy0 := hyb.1
  have HYB := hide hyb.2
  have HR1 := hide (revN_in HXB.out hm32)
  rw [← HY.out] at HR1
  have HR2 := hide (revN_in HYB.out hm32)
  have HRR : Hid (val (bts y m).reverse = x) := by show _ = _; rw [HY.out]; exact rev_rev hx0 hx1
  have HM := hide hm
  clear hp32 hpn hx1 hyb hm
  go_enter Try.func8, Try.ntmps8
  go_wp2_with fail
  refine (width_any n _).mono ?_
  rintro e w' ⟨rfl, rfl⟩
  rw [HM.out]
  go_wp2_with fail
  refine (low_any v m hm32 hv hv1 _).mono ?_
  rintro e w' ⟨rfl, rfl⟩
  rw [← HX.out]
  go_wp2_with fail
  refine (reverse_any x m hx0 hx2 _).mono ?_
  rintro e w' ⟨rfl, rfl⟩
  rw [HR1.out.1, HR1.out.2]
  go_wp2_with fail
  refine (reverse_any y m hy0 hy2 _).mono ?_
  rintro e w' ⟨rfl, rfl⟩
  rw [HR2.out.1, HR2.out.2, HRR.out]
  go_wp2_with fail
  refine (newWriter_any _).mono ?_
  rintro e w1 ⟨g, K, rfl, hW, hnew, hbel⟩
  have HW := hide hW
  have HB1 := hide hbel
  have HN := hide hnew
  clear hW hbel hnew
  have HPO := hide (putE_ok (putOk_of (row := []) HYB.out hm32 (by simp; omega)))
  rw [List.nil_append] at HPO
  go_wp2_with fail
  refine (wput_any HW.out y m hy0 hy2).mono ?_
  rintro e w2 ⟨rfl, K2, hW2, hF2⟩
  rw [HPO.out.1]
  rw [HPO.out.2] at hW2
  have HW2 := hide hW2
  have HB2 : Hid (Below w'.heap.size w' w2) := HB1.out.trans (hF2.below HN.out HB1.out.size)
  have HBT := hide hW2.bit
  clear hW2 hF2
  go_wp2_with fail
  refine (wbytes_any HW2.out).mono ?_
  rintro e w3 ⟨a3, c3, rfl, ho3, hb3⟩
  have HB3 : Hid (Below w'.heap.size w' w3) := HB2.out.trans (hb3.mono HB2.out.size)
  have HO3 := hide ho3
  clear ho3 hb3
  obtain ⟨hup, hbp⟩ := unpack_pack HBT.out
  have HUP := hide hup
  have hlp := length_pack HBT.out
  rw [length_bts] at hlp
  have hlp2 : (pack (bts y m)).length ≤ 33554432 := by omega
  have HBP := hide hbp
  have HLP := hide hlp2
  clear hup hbp hlp hlp2
  go_wp2_with fail
  refine (newReader_any _ _ _ HO3.out.sb HBP.out HLP.out).mono ?_
  rintro e w4 ⟨g4, K4, rfl, hR, hn4, hb4⟩
  rw [HUP.out] at hR
  have HR := hide hR
  have HB4 : Hid (Below w'.heap.size w' w4) := HB3.out.trans (hb4.mono HB3.out.size)
  have HN4 : Hid (∀ k, K4 k ≠ 0 → w'.heap.size ≤ k) := fun k hk => by have := hn4 k hk; have := HB3.out.size; omega
  clear hR hb4 hn4
  have HROW : Hid (∀ i, i < m → ahead (pad (bts y m)) i 1 = x / 2 ^ (m - 1 - i) % 2) := fun i hi => by
    have e : bts y m = (bts x m).reverse := by
      have hb : Bit (bts x m).reverse := fun b hb => bit_bts x m b (List.mem_reverse.1 hb)
      have := bts_val hb
      rwa [List.length_reverse, length_bts, ← HY.out] at this
    unfold pad
    rw [e]
    exact rev_at hi _
  have HLEN : Hid (m ≤ (pad (bts y m)).length) := by show _ ≤ _; rw [length_pad, length_bts]; omega
  clear HO3 HW2 HW HB1 HB2 HB3
  go_wp2
  go_loopw [11] (fun i wr => ∃ j : Nat, j ≤ m ∧ i = .int .i64 ((j : Int) - 1) ∧ Hid (Rp wr K4 g4 (pad (bts y m)) (m - j)) ∧ Hid (Below w'.heap.size w' wr)) (fun i _ => (intOf i + 1).toNat)
  case atStart => exact ⟨m, Nat.le_refl _, rfl, by show Rp _ _ _ _ _; rw [Nat.sub_self]; exact HR.out, HB4.out⟩
  case round =>
    obtain ⟨j, hj, rfl, HR, HB⟩ := hrel
    cases j with
    | zero =>
      go_wp2
      go_ret
      exact ⟨rfl, HB.out⟩
    | succ j =>
      have ej : ((j + 1 : Nat) : Int) - 1 = (j : Int) := by omega
      rw [ej]
      have hj32 : j ≤ 32 := by omega
      obtain ⟨q, HQ⟩ : ∃ q, Hid (q = x / 2 ^ j) := ⟨_, rfl⟩
      have hq0 : 0 ≤ q := by rw [HQ.out]; exact Int.ediv_nonneg hx0 (Int.le_of_lt (pow_pos j))
      have hq1 : q < 4294967296 := by rw [HQ.out]; exact Int.lt_of_le_of_lt (Int.ediv_le_self _ hx0) hx2
      have hsh : x / 2 ^ j = q := HQ.out.symm
      have hand := u32_and1 hq0 hq1
      have HTK := hide (take_ok (takeOk_of (row := pad (bts y m)) (p := m - (j + 1)) (n := 1) (by omega) (by have := HLEN.out; omega)))
      have HV : Hid (ahead (pad (bts y m)) (m - (j + 1)) 1 = q % 2) := by
        show _ = _
        rw [HROW.out _ (by omega), show m - 1 - (m - (j + 1)) = j by omega, HQ.out]
      clear ej
      go_wp2_with fail
      refine (rdtake_any HR.out 1).mono ?_
      rintro e w5 ⟨rfl, hR5, hF5⟩
      have HTE : Hid (takeE (pad (bts y m)) (m - (j + 1)) 1 = 0 ∧ takeV (pad (bts y m)) (m - (j + 1)) 1 = q % 2 ∧ takeP (pad (bts y m)) (m - (j + 1)) 1 = m - j) := ⟨HTK.out.1, HTK.out.2.1.trans HV.out, HTK.out.2.2.trans (by omega)⟩
      rw [HTE.out.1, HTE.out.2.1]
      rw [HTE.out.2.2] at hR5
      have HR5 := hide hR5
      have HB5 : Hid (Below w'.heap.size w' w5) := HB.out.trans (hF5.below HN4.out HB.out.size)
      clear hR5 hF5
      go_wp2
      go_roundw
      case rel => exact ⟨j, by omega, by go_num, HR5.out, HB5.out⟩
      case measure => first | (simp [intOf]; done) | (simp [intOf]; omega)
end Go.Proofs.Ytklffkbcigehfaa
