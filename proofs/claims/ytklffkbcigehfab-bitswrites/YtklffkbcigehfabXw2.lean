import Derived.Test.YtklffkbcigehfabXw
namespace Go.Proofs.Ytklffkbcigehfab
open Go.RowKit Go.Maps
set_option maxRecDepth 20000

set_option maxHeartbeats 4000000 in
theorem xraw_any {w : World} {K : Nat → Nat} {g : Nat} {row : List Int} (h : Wx w K g row) (u : Value) (l : List Int) (hB : Byt l) (HS0 : ∀ wr K1, Fr K K1 w wr → SB wr u l) (hl63 : l.length ≤ 140737488351232) :
    Calls Try.prog 62 #[.pointer (some ⟨g, 0, none⟩), u] w fun e w' => e = .returned (.int .i64 (rawE row l)) ∧ ∃ K', Wx w' K' g (rawRow row l) ∧ Fr K K' w w' := by
  have H := hide h
  obtain ⟨uv, h1, h2, h3⟩ := h
  have c0 : w.cell? ⟨g, 0, none⟩ = some uv := h1.cell 0
  obtain ⟨a, c, rfl⟩ := h1.o.shape
  have HW := hide h1
  have HBT := hide h2
  have HS := hide HS0
  have HBy := hide hB
  obtain ⟨ua, uc, hu⟩ := (HS0 w K (Fr.refl _ _)).len
  subst hu
  obtain ⟨hucap1, hucap2⟩ := (HS0 w K (Fr.refl _ _)).cap
  clear h1 h2 HS0 hB
  by_cases hbig : 33554432 < l.length
  · have HE : Hid (rawE row l = 1 ∧ rawRow row l = row) := ⟨if_pos (by omega), if_pos (by omega)⟩
    have hbig' : (33554432 : Int) < l.length := by omega
    go_enter Try.func62, Try.ntmps62
    go_wp2
    go_ret
    rw [HE.out.1, HE.out.2]
    exact ⟨rfl, K, H.out, Fr.refl _ _⟩
  have hbig' : (l.length : Int) ≤ 33554432 := by omega
  by_cases hr : 268435456 < row.length + 8 * l.length
  · have HE : Hid (rawE row l = 1 ∧ rawRow row l = row) := ⟨if_pos hr, if_pos hr⟩
    have hr' : (268435456 : Int) < (row.length : Int) + 8 * l.length := by omega
    clear hr
    go_enter Try.func62, Try.ntmps62
    go_wp2
    go_ret
    rw [HE.out.1, HE.out.2]
    exact ⟨rfl, K, H.out, Fr.refl _ _⟩
  have hr' : (row.length : Int) + 8 * l.length ≤ 268435456 := by omega
  by_cases h8 : row.length % 8 ≠ 0
  · have HE : Hid (rawE row l = 31 ∧ rawRow row l = row) := by
      unfold rawE rawRow
      rw [if_neg hr, if_neg hr, if_pos h8, if_pos h8]
      exact ⟨rfl, rfl⟩
    have h8' : ((row.length : Int) % 8 != 0) = true := by simp; omega
    have h8b : ((row.length : Int) % 8 == 0) = false := by simp; omega
    clear hr
    go_enter Try.func62, Try.ntmps62
    go_wp2
    go_ret
    rw [HE.out.1, HE.out.2]
    exact ⟨rfl, K, H.out, Fr.refl _ _⟩
  have HE : Hid (rawE row l = 0 ∧ rawRow row l = row ++ unpack l) := by
    unfold rawE rawRow
    rw [if_neg hr, if_neg hr, if_neg h8, if_neg h8]
    exact ⟨rfl, rfl⟩
  have h8' : (row.length : Int) % 8 = 0 := by omega
  obtain ⟨U, HU⟩ : ∃ U, Hid (U = unpack l) := ⟨_, rfl⟩
  have HUl : Hid (U.length = 8 * l.length) := by show _ = _; rw [HU.out, length_unpack]
  rw [← HU.out] at HE
  clear hr h8
  go_enter Try.func62, Try.ntmps62
  go_wp2
  clear h8'
  go_loopw [5] (fun i wr => ∃ k : Nat, k ≤ l.length ∧ i = .int .i64 k ∧ Hid (Lay w K g (row ++ U.take (8 * k)) wr)) (fun i _ => l.length - (intOf i).toNat)
  case atStart => exact ⟨0, Nat.zero_le _, rfl, K, _, by simpa using HW.out, Fr.refl _ _⟩
  case round =>
    clear c0
    obtain ⟨k, hk, rfl, HQ⟩ := hrel
    by_cases hlt : k < l.length
    · have hlt' : (k : Int) < (l.length : Int) := by omega
      go_wp2
      go_loopw [6] (fun i wr => ∃ j : Nat, j ≤ 8 ∧ i = .int .i64 j ∧ Hid (Lay w K g (row ++ U.take (8 * k + j)) wr)) (fun i _ => 8 - (intOf i).toNat)
      case atStart => exact ⟨0, by omega, rfl, HQ.out⟩
      case round =>
        clear HQ
        obtain ⟨j, hj, rfl, HQ⟩ := hrel
        obtain ⟨K1, v1, hW, hF⟩ := HQ.out
        have HW1 := hide hW
        have HF1 := hide hF
        have hsb := HS.out wr K1 hF
        clear hW hF HQ
        by_cases hj8 : j < 8
        · have hj8' : (j : Int) < 8 := by omega
          obtain ⟨x, hx⟩ : ∃ x, l[k]? = some x := ⟨l[k], by simp [hlt]⟩
          have hbit := unpack_get hx hj8
          rw [← HU.out] at hbit
          obtain ⟨b, o, hao, hc⟩ := hsb.byte (Below.refl _ _) hlt
          have hxd : l.getD k 0 = x := by rw [List.getD, hx]; rfl
          rw [hxd] at hc
          obtain ⟨hx0, hx1⟩ := HBy.out.get hx
          subst hao
          have HTO := hide (take_one hbit)
          obtain ⟨q, HQ⟩ : ∃ q, Hid (q = x / 2 ^ j % 2) := ⟨_, rfl⟩
          rw [← HQ.out] at HTO
          obtain ⟨D, HD⟩ : ∃ D, Hid (D = row ++ U.take (8 * k + j)) := ⟨_, rfl⟩
          have hDl : D.length ≤ 268435456 := by rw [HD.out, List.length_append, List.length_take, HUl.out]; omega
          rw [← HD.out] at HW1
          clear hbit hxd hx hsb
          go_wp2_with fail
          refine (bit_any x j (by omega) hx0 (by omega) _).mono ?_
          rintro e wx ⟨rfl, hwx⟩
          subst hwx
          rw [← HQ.out]
          obtain ⟨a1, p1, hv⟩ := HW1.out.o.shape
          subst hv
          have c0 : wx.cell? ⟨g, 0, none⟩ = some (.slice a1 D.length p1) := HW1.out.cell 0
          obtain ⟨k1, r1, r2, r3⟩ := HW1.out.alloc1 q
          have HROW := hide r1
          have HSRC := hide r2
          have HG6 := hide r3
          have HLEN : Hid (D.length + ([q] : List Int).length ≤ 140737488355328) := by show _ ≤ _; simp; omega
          clear r1 r2 r3
          go_wp2_with (at_builtin; refine wpList_app rfl _ _ 25 rfl 0 _ _ D [q] rfl (HROW.out _ rfl) rfl (HSRC.out _ rfl) HLEN.out (Nat.zero_le _) ?_)
          intro v6 w6 ho6 hg6
          obtain ⟨t0, tf⟩ := HG6.out _ w6 _ rfl hg6
          have HNX : Hid (Lay w K g (row ++ U.take (8 * k + (j + 1))) (w6.setCell ⟨g, 0, none⟩ v6)) := by
            rw [show 8 * k + (j + 1) = 8 * k + j + 1 by omega, HTO.out, ← List.append_assoc, ← HD.out]
            exact Lay.snoc HW1.out HF1.out rfl rfl rfl rfl ho6 hg6
          obtain ⟨a6, p6, rfl⟩ := ho6.shape
          clear ho6 hg6 HROW HSRC HG6 k1
          go_wp2
          go_roundw
          case rel => exact ⟨j + 1, by omega, by go_num, by show Lay _ _ _ _ _; simpa using HNX.out⟩
          case measure => simp [intOf]; omega
        · obtain rfl : j = 8 := by omega
          clear hsb
          go_wp2
          go_roundw
          case rel => exact ⟨k + 1, by omega, by go_num, K1, v1, by rw [show 8 * (k + 1) = 8 * k + 8 by omega]; exact HW1.out, HF1.out⟩
          case measure => simp [intOf]; omega
    · obtain rfl : k = l.length := by omega
      have hlt' : ¬ (l.length : Int) < (l.length : Int) := by omega
      have HFIN : Hid (∃ K', Wx wr K' g (row ++ U) ∧ Fr K K' w wr) := by
        obtain ⟨K1, v1, hW, hF⟩ := HQ.out
        rw [List.take_of_length_le (by rw [HUl.out]; exact Nat.le_refl _)] at hW
        exact ⟨K1, ⟨v1, hW, HBT.out.append (by rw [HU.out]; exact bit_unpack _), by rw [List.length_append, HUl.out]; omega⟩, hF⟩
      clear HQ
      go_wp2
      go_ret
      rw [HE.out.1, HE.out.2]
      exact ⟨rfl, HFIN.out⟩
end Go.Proofs.Ytklffkbcigehfab
