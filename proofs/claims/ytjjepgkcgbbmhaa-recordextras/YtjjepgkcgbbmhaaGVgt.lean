import Derived.Test.YtjjepgkcgbbmhaaGCty
namespace Go.Proofs.Ytjjepgkcgbbmhaa
open Go.RowKit Go.Maps
set_option maxRecDepth 20000
set_option linter.unusedVariables false
set_option linter.unusedSimpArgs false

theorem le_drop {L : List Int} {m : Nat} (h : m < L.length) : le (L.drop m) = L.getD m 0 + 256 * le (L.drop (m + 1)) := by
  rw [List.drop_eq_getElem_cons h, le]
  simp [List.getD, h]

theorem sub_getD {d : List Int} {k n i : Nat} (hi : i < n) : (sub d k n).getD i 0 = d.getD (k + i) 0 := by
  unfold sub
  simp [List.getD, hi]

theorem le4 {L : List Int} (h : Byt L) (hl : L.length ≤ 4) : 0 ≤ le L ∧ le L ≤ 4294967295 := by
  have := le_bound h
  refine ⟨this.1, ?_⟩
  have h2 : (256 : Int) ^ L.length ≤ 256 ^ 4 := by exact_mod_cast Nat.pow_le_pow_right (show 0 < 256 by omega) hl
  omega

theorem le3 {L : List Int} (h : Byt L) (hl : L.length ≤ 3) : 0 ≤ le L ∧ le L ≤ 16777215 := by
  have := le_bound h
  refine ⟨this.1, ?_⟩
  have h2 : (256 : Int) ^ L.length ≤ 256 ^ 3 := by exact_mod_cast Nat.pow_le_pow_right (show 0 < 256 by omega) hl
  omega

set_option maxHeartbeats 2000000 in
theorem vnumber_any (v : Value) (d : List Int) (k n : Nat) (w : World) (h : SB w v d) (hB : Byt d) (hk : k + n ≤ d.length) (hn : n ≤ 4) (hn1 : 1 ≤ n) (hd : d.length ≤ 140737488355328) :
    Calls Try.prog 41 #[v, .int .i64 (k : Int), .int .i64 (n : Int)] w fun e w' => e = .returned (.int .i64 (fld d k n)) ∧ w' = w := by
  obtain ⟨ao, cap, rfl, q1, q2, q3⟩ := h.open11
  obtain ⟨b, o, rfl⟩ := q3 (by omega)
  have HG : Hid (∀ i, i < n → w.cell? ⟨b, o + (k + i), none⟩ = some (.int .u8 ((sub d k n).getD i 0))) := fun i hi => by
    obtain ⟨b', o', e, hc⟩ := h.byte (Below.refl _ _) (k := k + i) (by omega)
    cases e
    rw [hc, sub_getD hi]
  have HBy := hide (byt_sub hB k n)
  have HL := hide (sub_len hk)
  obtain ⟨L, hL⟩ : ∃ L, L = sub d k n := ⟨_, rfl⟩
  have HR : Hid (fld d k n = le L) := by rw [hL]; rfl
  rw [HR.out]
  rw [← hL] at HG HBy HL
  clear h q3 hB HR hL
  go_enter Try.func41, Try.ntmps41
  go_wp2
  go_loopw [7, 8] (fun x i wr => ∃ (j : Nat) (q : Int), j ≤ n ∧ i = .int .i64 ((j : Int) - 1) ∧ x = .int .i64 q ∧ wr = w ∧ 0 ≤ q ∧ q ≤ 4294967295 ∧ Hid (q = le (L.drop j))) (fun _ i _ => (intOf i + 1).toNat)
  case atStart => exact ⟨n, 0, Nat.le_refl _, by go_num, rfl, rfl, by omega, by omega, by show _ = _; rw [List.drop_of_length_le (by rw [HL.out]; omega)]; rfl⟩
  case round =>
    obtain ⟨j, q, hj, rfl, rfl, rfl, hq0, hq1, HQ⟩ := hrel
    by_cases hlt : 0 < j
    · obtain ⟨m, rfl⟩ : ∃ m, j = m + 1 := ⟨j - 1, by omega⟩
      have em : ((m + 1 : Nat) : Int) - 1 = (m : Int) := by omega
      rw [em]
      have hc := HG.out m (by omega)
      obtain ⟨y, HY⟩ : ∃ y, Hid (y = L.getD m 0) := ⟨_, rfl⟩
      rw [← HY.out] at hc
      have hy := HBy.out m
      rw [← HY.out] at hy
      obtain ⟨hy0, hy1⟩ := hy
      have hq2 := le3 (byt_drop HBy.out (m + 1)) (by rw [List.length_drop, HL.out]; omega)
      rw [← HQ.out] at hq2
      obtain ⟨-, hq3⟩ := hq2
      have HN : Hid (256 * q + y = le (L.drop m)) := by show _ = _; rw [le_drop (by rw [HL.out]; omega), HQ.out, HY.out]; omega
      have hw := le4 (byt_drop HBy.out m) (by rw [List.length_drop, HL.out]; omega)
      rw [← HN.out] at hw
      obtain ⟨hw0, hw1⟩ := hw
      obtain ⟨r, hr⟩ : ∃ r, r = k + m := ⟨_, rfl⟩
      have er : (k : Int) + (m : Int) = (r : Int) := by omega
      rw [← hr] at hc
      have erd : r < d.length := by omega
      have wy : IntKind.i64.wrap y = y := by rw [IntKind.wrap_i64]; omega
      clear hr em
      go_wp2
      go_roundw
      case rel => exact ⟨m, 256 * q + y, by omega, by go_num, rfl, by trivial, by omega, by omega, HN.out⟩
      case measure => simp [intOf]
    · obtain rfl : j = 0 := by omega
      have HF : Hid (q = le L) := by show _ = _; rw [HQ.out, List.drop_zero]
      go_wp2
      go_ret
      rw [← HF.out]
      exact ⟨rfl, rfl⟩

end Go.Proofs.Ytjjepgkcgbbmhaa

