import Derived.Test.YtjmjjjpanioifaaGCty
namespace Go.Proofs.Ytjmjjjpanioifaa
open Go.RowKit Go.Maps
set_option maxRecDepth 20000
set_option linter.unusedVariables false
set_option linter.unusedSimpArgs false

theorem le_drop {L : List Int} {m : Nat} (h : m < L.length) : le (L.drop m) = L.getD m 0 + 256 * le (L.drop (m + 1)) := by
  rw [List.drop_eq_getElem_cons h, le]
  simp [List.getD, h]

theorem sub_getD {d : List Int} {k n i : Nat} (hi : i < n) : (sub d k n).getD i 0 = d.getD (k + i) 0 := by
  unfold sub
  simp [List.getD, hi]

theorem le4 {L : List Int} (h : Byt L) (hl : L.length ≤ 4) : 0 ≤ le L ∧ le L ≤ 4294967295 := by
  have := le_bound h
  refine ⟨this.1, ?_⟩
  have h2 : (256 : Int) ^ L.length ≤ 256 ^ 4 := by exact_mod_cast Nat.pow_le_pow_right (show 0 < 256 by omega) hl
  omega

theorem le3 {L : List Int} (h : Byt L) (hl : L.length ≤ 3) : 0 ≤ le L ∧ le L ≤ 16777215 := by
  have := le_bound h
  refine ⟨this.1, ?_⟩
  have h2 : (256 : Int) ^ L.length ≤ 256 ^ 3 := by exact_mod_cast Nat.pow_le_pow_right (show 0 < 256 by omega) hl
  omega

set_option maxHeartbeats 2000000 in
theorem vnumber_any (v : Value) (d : List Int) (k n : Nat) (w : World) (h : SB w v d) (hB : Byt d) (hk : k + n ≤ d.length) (hn : n ≤ 4) (hn1 : 1 ≤ n) (hd : d.length ≤ 140737488355328) :
    Calls Try.prog 42 #[v, .int .i64 (k : Int), .int .i64 (n : Int)] w fun e w' => e = .returned (.int .i64 (fld d k n)) ∧ w' = w := by
  obtain ⟨ao, cap, rfl, q1, q2, q3⟩ := h.open11
  obtain ⟨b, o, rfl⟩ := q3 (by omega)
  have HG : Hid (∀ i, i < n → w.cell? ⟨b, o + (k + i), none⟩ = some (.int .u8 ((sub d k n).getD i 0))) := fun i hi => by
    obtain ⟨b', o', e, hc⟩ := h.byte (Below.refl _ _) (k := k + i) (by omega)
    cases e
    rw [hc, sub_getD hi]
  have HBy := hide (byt_sub hB k n)
  have HL := hide (sub_len hk)
  obtain ⟨L, hL⟩ : ∃ L, L = sub d k n := ⟨_, rfl⟩
  have HR : Hid (fld d k n = le L) := by rw [hL]; rfl
  rw [HR.out]
  rw [← hL] at HG HBy HL
  clear h q3 hB HR hL
  go_enter Try.func42, Try.ntmps42
  go_wp2
  go_loopw [7, 8] (fun x i wr => ∃ (j : Nat) (q : Int), j ≤ n ∧ i = .int .i64 ((j : Int) - 1) ∧ x = .int .i64 q ∧ wr = w ∧ 0 ≤ q ∧ q ≤ 4294967295 ∧ Hid (q = le (L.drop j))) (fun _ i _ => (intOf i + 1).toNat)
  case atStart => exact ⟨n, 0, Nat.le_refl _, by go_num, rfl, rfl, by omega, by omega, by show _ = _; rw [List.drop_of_length_le (by rw [HL.out]; omega)]; rfl⟩
  case round =>
    obtain ⟨j, q, hj, rfl, rfl, rfl, hq0, hq1, HQ⟩ := hrel
    by_cases hlt : 0 < j
    · obtain ⟨m, rfl⟩ : ∃ m, j = m + 1 := ⟨j - 1, by omega⟩
      have em : ((m + 1 : Nat) : Int) - 1 = (m : Int) := by omega
      rw [em]
      have hc := HG.out m (by omega)
      obtain ⟨y, HY⟩ : ∃ y, Hid (y = L.getD m 0) := ⟨_, rfl⟩
      rw [← HY.out] at hc
      have hy := HBy.out m
      rw [← HY.out] at hy
      obtain ⟨hy0, hy1⟩ := hy
      have hq2 := le3 (byt_drop HBy.out (m + 1)) (by rw [List.length_drop, HL.out]; omega)
      rw [← HQ.out] at hq2
      obtain ⟨-, hq3⟩ := hq2
      have HN : Hid (256 * q + y = le (L.drop m)) := by show _ = _; rw [le_drop (by rw [HL.out]; omega), HQ.out, HY.out]; omega
      have hw := le4 (byt_drop HBy.out m) (by rw [List.length_drop, HL.out]; omega)
      rw [← HN.out] at hw
      obtain ⟨hw0, hw1⟩ := hw
      obtain ⟨r, hr⟩ : ∃ r, r = k + m := ⟨_, rfl⟩
      have er : (k : Int) + (m : Int) = (r : Int) := by omega
      rw [← hr] at hc
      have erd : r < d.length := by omega
      have wy : IntKind.i64.wrap y = y := by rw [IntKind.wrap_i64]; omega
      clear hr em
      go_wp2
      go_roundw
      case rel => exact ⟨m, 256 * q + y, by omega, by go_num, rfl, by trivial, by omega, by omega, HN.out⟩
      case measure => simp [intOf]
    · obtain rfl : j = 0 := by omega
      have HF : Hid (q = le L) := by show _ = _; rw [HQ.out, List.drop_zero]
      go_wp2
      go_ret
      rw [← HF.out]
      exact ⟨rfl, rfl⟩

set_option maxHeartbeats 2000000 in
theorem vpiece_any (v : Value) (d : List Int) (k n : Nat) (w : World) (h : SB w v d) (hk : k + n ≤ d.length) (hd : d.length ≤ 140737488355328) :
    Calls Try.prog 43 #[v, .int .i64 (k : Int), .int .i64 (n : Int)] w fun e w' => e = .returned (.string (strOfNums (sub d k n))) ∧ w' = w := by
  obtain ⟨ao, cap, rfl, q1, q2, q3⟩ := h.open11
  obtain ⟨j, hj⟩ : ∃ j, j = k + n := ⟨_, rfl⟩
  have e2 : (k : Int) + (n : Int) = (j : Int) := by omega
  have e3 : j ≤ d.length := by omega
  have e4 : k ≤ j := by omega
  have e6 : j - k = n := by omega
  have e7 : j ≤ cap := by omega
  have e8 : k ≤ cap := by omega
  have HN0 : Hid (ao = none → cap = 0) := by
    obtain ⟨ao', cap', he, _, _, h3, _⟩ := h
    simp only [Value.slice.injEq] at he
    obtain ⟨rfl, -, rfl⟩ := he
    exact h3
  by_cases hkl : k < d.length
  · obtain ⟨b, o, rfl⟩ := q3 (by omega)
    have hcv := rs_convert (h.part12 hk (by omega)).rs12
    have e5 : ¬ cap = k := by omega
    obtain ⟨S, hS⟩ : ∃ S, S = strOfNums (sub d k n) := ⟨_, rfl⟩
    rw [← hS] at hcv ⊢
    clear h q3 hj hS
    go_enter Try.func43, Try.ntmps43
    go_wp2
    go_ret
    exact ⟨rfl, rfl⟩
  · obtain rfl : k = d.length := by omega
    obtain rfl : n = 0 := by omega
    obtain rfl : j = d.length := by omega
    have hz : sub d d.length 0 = [] := by unfold sub; simp
    rw [hz]
    have hcv : ∀ a c, c ≤ 9223372036854775807 → (convert 42 9 (.slice a 0 c)).run Try.prog w = .ok (.string (strOfNums [])) w := fun a c hc => rs_convert (l := []) ⟨a, c, rfl, by simp [maxLen], fun h => absurd rfl h⟩
    obtain ⟨S, hS⟩ : ∃ S, S = strOfNums [] := ⟨_, rfl⟩
    rw [← hS] at hcv ⊢
    by_cases hc : cap = d.length
    · have h1 := hcv ao 0 (by omega)
      clear h q3 hj hz hcv e2 hk hd e6 hkl hS
      go_enter Try.func43, Try.ntmps43
      go_wp2
      go_ret
      exact ⟨rfl, rfl⟩
    · cases ao with
      | none => have := HN0.out rfl; omega
      | some x =>
      have h1 := hcv (some (x.add d.length)) (cap - d.length) (by omega)
      clear h q3 hj hz hcv HN0 e2 hk hd e6 hkl hS
      go_enter Try.func43, Try.ntmps43
      go_wp2
      go_ret
      exact ⟨rfl, rfl⟩

set_option maxHeartbeats 2000000 in
theorem vbegins_any (v : Value) (d : List Int) (at' : Int) (n : Nat) (sig : Int) (w : World) (h : SB w v d) (hB : Byt d) (h64 : Ok64 at') (hd : d.length ≤ 140737488355328) (hn0 : 4 ≤ n) (hn1 : n ≤ 46) :
    Calls Try.prog 41 #[v, .int .i64 at', .int .i64 (n : Int), .int .i64 sig] w fun e w' => e = .returned (.int .i64 (beE d at' n sig)) ∧ w' = w := by
  obtain ⟨ao, cap, rfl, q1, q2, q3⟩ := h.open11
  have HS := hide h
  obtain ⟨u0, u1⟩ := h64
  by_cases h0 : at' < 0
  · have HE : Hid (beE d at' n sig = 1) := by show _ = _; unfold beE; rw [if_pos (.inl h0)]
    clear h q3
    go_enter Try.func41, Try.ntmps41
    go_wp2
    go_ret
    rw [HE.out]
    exact ⟨rfl, rfl⟩
  by_cases h1 : (d.length : Int) < at'
  · have HE : Hid (beE d at' n sig = 1) := by show _ = _; unfold beE; rw [if_pos (.inr h1)]
    clear h q3
    go_enter Try.func41, Try.ntmps41
    go_wp2
    go_ret
    rw [HE.out]
    exact ⟨rfl, rfl⟩
  obtain ⟨k, rfl⟩ : ∃ k : Nat, at' = k := ⟨at'.toNat, by omega⟩
  have hx : ¬ ((k : Int) < 0 ∨ (d.length : Int) < (k : Int)) := by omega
  by_cases h2 : (d.length : Int) - k < n
  · have HE : Hid (beE d k n sig = 122) := by show _ = _; unfold beE; rw [if_neg hx, if_pos h2]
    clear h q3 hx
    go_enter Try.func41, Try.ntmps41
    go_wp2
    go_ret
    rw [HE.out]
    exact ⟨rfl, rfl⟩
  have HNM := hide (vnumber_any _ d k 4 w h hB (by omega) (by omega) (by omega) hd)
  have HX := hide hx
  clear h q3 hx HS
  by_cases h3 : fld d k 4 = sig
  · have HE : Hid (beE d k n sig = 0) := by show _ = _; unfold beE; rw [if_neg HX.out, if_neg h2, if_neg (by simpa using h3)]
    have g3 : (fld d k 4 != sig) = false := by simpa using h3
    clear h3
    go_enter Try.func41, Try.ntmps41
    go_wp2_with fail
    refine HNM.out.mono ?_
    rintro e w1 ⟨rfl, rfl⟩
    go_wp2
    go_ret
    rw [HE.out]
    exact ⟨rfl, rfl⟩
  · have HE : Hid (beE d k n sig = 123) := by show _ = _; unfold beE; rw [if_neg HX.out, if_neg h2, if_pos (by simpa using h3)]
    have g3 : (fld d k 4 != sig) = true := by simpa using h3
    clear h3
    go_enter Try.func41, Try.ntmps41
    go_wp2_with fail
    refine HNM.out.mono ?_
    rintro e w1 ⟨rfl, rfl⟩
    go_wp2
    go_ret
    rw [HE.out]
    exact ⟨rfl, rfl⟩
end Go.Proofs.Ytjmjjjpanioifaa

