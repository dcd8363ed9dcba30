import Derived.Test.YthlbmpmbbdaboaaLst
import Derived.Test.YthlbmpmbbdaboaaChk
import Derived.Test.YthlbmpmbbdaboaaXck
namespace Go.Proofs.Ythlbmpmbbdaboaa
open Go.RowKit Go.Maps
set_option maxRecDepth 20000

theorem begins_any (a l b m : Nat) (hlm : l ≤ m) (hm : m ≤ 15) (hb : b < 32768) (w : World) : Calls Try.prog 38 #[.int .i64 a, .int .i64 l, .int .i64 b, .int .i64 m] w fun e w' => e = .returned (.bool (decide (a = b / 2 ^ (m - l)))) ∧ w' = w := by
  go_enter Try.func38, Try.ntmps38
  go_wp2
  go_loopw [2, 9] (fun x i wr => ∃ k : Nat, l ≤ k ∧ k ≤ m ∧ i = .int .i64 k ∧ x = .int .i64 ((b / 2 ^ (k - l) : Nat) : Int) ∧ wr = w) (fun _ i _ => m - (intOf i).toNat)
  case atStart => exact ⟨l, Nat.le_refl _, hlm, rfl, by simp, rfl⟩
  case round =>
    obtain ⟨k, hlk, hk, rfl, rfl, rfl⟩ := hrel
    by_cases hlt : k < m
    · have hlt' : (k : Int) < (m : Int) := by omega
      have HS : Hid (b / 2 ^ (k + 1 - l) = b / 2 ^ (k - l) / 2) := by show _ = _; rw [show k + 1 - l = (k - l) + 1 by omega, Nat.pow_succ, Nat.div_div_eq_div_mul]
      obtain ⟨y, HY⟩ : ∃ y : Nat, Hid (y = b / 2 ^ (k - l)) := ⟨_, rfl⟩
      rw [← HY.out] at HS ⊢
      have hy : y < 32768 := by rw [HY.out]; exact Nat.lt_of_le_of_lt (Nat.div_le_self _ _) hb
      have td : (y : Int).tdiv 2 = ((y / 2 : Nat) : Int) := by rw [Int.tdiv_eq_ediv_of_nonneg (by omega)]; omega
      go_wp2
      go_roundw
      case rel => exact ⟨k + 1, by omega, by omega, by go_num, by rw [HS.out]; first | rfl | (push_cast; rfl), by trivial⟩
      case measure => simp [intOf]; omega
    · obtain rfl : k = m := by omega
      have hlt' : ¬ (k : Int) < (k : Int) := by omega
      obtain ⟨y, HY⟩ : ∃ y : Nat, Hid (y = b / 2 ^ (k - l)) := ⟨_, rfl⟩
      rw [← HY.out]
      go_wp2
      go_ret
      refine ⟨?_, rfl⟩
      show Ending.returned (Value.bool ((a : Int) == (y : Int))) = _
      congr 2
      rw [Bool.eq_iff_iff, beq_iff_eq, decide_eq_true_iff, ← HY.out]
      omega

theorem row_div {l : List Int} {s t : Nat} (hl : Lens l) (hlm : ln l s ≤ ln l t) : pl l t / 2 ^ (15 - ln l s) = wd l t / 2 ^ (ln l t - ln l s) := by
  have h15 := (hl.ln t).2
  unfold pl
  rw [show 15 - ln l s = (ln l t - ln l s) + (15 - ln l t) by omega, Nat.pow_add]
  exact Nat.mul_div_mul_right _ _ (npow_pos _)

theorem begins_no {l : List Int} {s t : Nat} (hl : Lens l) (hs : Has l s) (ht : Has l t) (hne : s ≠ t) (hlm : ln l s ≤ ln l t) : ¬ wd l s = wd l t / 2 ^ (ln l t - ln l s) := by
  intro h
  rw [← row_div hl hlm] at h
  have h2 := (div_between (R := pl l t) (w := wd l s) (npow_pos (15 - ln l s))).1 h.symm
  have e : pl l s = wd l s * 2 ^ (15 - ln l s) := rfl
  rcases ahd_or (l := l) hne with a | a
  · have := rows_apart hl hs ht a
    omega
  · have := rows_apart hl ht hs a
    have hp := npow_pos (15 - ln l t)
    omega

theorem lesser_is {l : List Int} {s t : Nat} (hl : Lens l) (hs : Has l s) (ht : Has l t) (hne : s ≠ t) (hlm : ln l s ≤ ln l t) : decide (pl l s < pl l t) = (decide (ln l s < ln l t) || decide (s < t)) := by
  by_cases a : Ahd l s t
  · have h := rows_apart hl hs ht a
    have hp := npow_pos (15 - ln l s)
    rw [decide_eq_true (by omega)]
    unfold Ahd at a
    symm
    rw [Bool.or_eq_true, decide_eq_true_iff, decide_eq_true_iff]
    omega
  · have b : Ahd l t s := by rcases ahd_or (l := l) hne with h | h; exact absurd h a; exact h
    have h := rows_apart hl ht hs b
    have hp := npow_pos (15 - ln l t)
    rw [decide_eq_false (by omega)]
    unfold Ahd at a b
    symm
    rw [Bool.or_eq_false_iff, decide_eq_false_iff_not, decide_eq_false_iff_not]
    omega

set_option maxHeartbeats 1000000 in
theorem apart_any {l : List Int} (hl : Lens l) (hu : us l 16 ≤ 32768) (s t : Nat) (hsl : s < l.length) (htl : t < l.length) (hne : s ≠ t) (w : World) :
    Calls Try.prog 19 #[.int .i64 (ln l s), .int .i64 (wd l s), .int .i64 (ln l t), .int .i64 (wd l t), .bool (decide (s < t))] w fun e w' => e = .returned (.bool true) ∧ w' = w := by
  have h1 := (hl.ln s).2
  have h2 := (hl.ln t).2
  have w1 := word_lt hl hu (s := s)
  have w2 := word_lt hl hu (s := t)
  have p1 : 2 ^ ln l s ≤ 2 ^ 15 := Nat.pow_le_pow_right (by decide) h1
  have p2 : 2 ^ ln l t ≤ 2 ^ 15 := Nat.pow_le_pow_right (by decide) h2
  have HBG : Hid (0 < ln l s → 0 < ln l t → ln l s ≤ ln l t → ¬ wd l s = wd l t / 2 ^ (ln l t - ln l s)) := fun a b c => begins_no hl ⟨hsl, a⟩ ⟨htl, b⟩ hne c
  have HLS : Hid (0 < ln l s → 0 < ln l t → ln l s ≤ ln l t → decide (pl l s < pl l t) = (decide (ln l s < ln l t) || decide (s < t))) := fun a b c => lesser_is hl ⟨hsl, a⟩ ⟨htl, b⟩ hne c
  have HPL : Hid (pl l s = wd l s * 2 ^ (15 - ln l s) ∧ pl l t = wd l t * 2 ^ (15 - ln l t)) := ⟨rfl, rfl⟩
  obtain ⟨A, HA⟩ : ∃ A, Hid (A = ln l s) := ⟨_, rfl⟩
  obtain ⟨B, HB⟩ : ∃ B, Hid (B = ln l t) := ⟨_, rfl⟩
  obtain ⟨x, HX⟩ : ∃ x, Hid (x = wd l s) := ⟨_, rfl⟩
  obtain ⟨y, HY⟩ : ∃ y, Hid (y = wd l t) := ⟨_, rfl⟩
  obtain ⟨e, HE⟩ : ∃ e, Hid (e = decide (s < t)) := ⟨_, rfl⟩
  rw [← HA.out] at h1 w1 p1 HBG HLS HPL ⊢
  rw [← HB.out] at h2 w2 p2 HBG HLS HPL ⊢
  rw [← HX.out] at w1 HBG HPL ⊢
  rw [← HY.out] at w2 HBG HPL ⊢
  rw [← HE.out] at HLS ⊢
  have hx : x < 32768 := by omega
  have hy : y < 32768 := by omega
  clear w1 w2 p1 p2
  by_cases a0 : A = 0
  · subst a0
    go_enter Try.func19, Try.ntmps19
    go_wp2
    go_ret
    exact ⟨rfl, rfl⟩
  by_cases b0 : B = 0
  · subst b0
    have a0' : ((A : Int) == 0) = false := by simp; omega
    go_enter Try.func19, Try.ntmps19
    go_wp2
    go_ret
    exact ⟨rfl, rfl⟩
  have a0' : ((A : Int) == 0) = false := by simp; omega
  have b0' : ((B : Int) == 0) = false := by simp; omega
  by_cases hab : B < A
  · have hab' : (B : Int) < (A : Int) := by omega
    go_enter Try.func19, Try.ntmps19
    go_wp2
    go_ret
    exact ⟨rfl, rfl⟩
  have hab' : ¬ (B : Int) < (A : Int) := by omega
  have hbg := HBG.out (by omega) (by omega) (by omega)
  have hls := HLS.out (by omega) (by omega) (by omega)
  have HD : Hid (decide (x = y / 2 ^ (B - A)) = false) := decide_eq_false hbg
  rw [HPL.out.1, HPL.out.2] at hls
  have e1 : (15 : Int) - A = ((15 - A : Nat) : Int) := by omega
  have e2 : (15 : Int) - B = ((15 - B : Nat) : Int) := by omega
  have q1 : x * 2 ^ (15 - A) ≤ 32768 * 32768 := Nat.mul_le_mul (by omega) (Nat.pow_le_pow_right (n := 2) (by decide) (show 15 - A ≤ 15 by omega))
  have q2 : y * 2 ^ (15 - B) ≤ 32768 * 32768 := Nat.mul_le_mul (by omega) (Nat.pow_le_pow_right (n := 2) (by decide) (show 15 - B ≤ 15 by omega))
  obtain ⟨X, HXX⟩ : ∃ X : Nat, Hid (X = x * 2 ^ (15 - A)) := ⟨_, rfl⟩
  obtain ⟨Y, HYY⟩ : ∃ Y : Nat, Hid (Y = y * 2 ^ (15 - B)) := ⟨_, rfl⟩
  have m1 : (x : Int) * 2 ^ (15 - A) = (X : Int) := by rw [HXX.out]; push_cast; rfl
  have m2 : (y : Int) * 2 ^ (15 - B) = (Y : Int) := by rw [HYY.out]; push_cast; rfl
  rw [← HXX.out] at q1 hls
  rw [← HYY.out] at q2 hls
  have HLL := hide hls
  have w1 : IntKind.i64.wrap (X : Int) = X := by rw [IntKind.wrap_i64]; omega
  have w2 : IntKind.i64.wrap (Y : Int) = Y := by rw [IntKind.wrap_i64]; omega
  obtain ⟨a, HAA⟩ : ∃ a : Nat, Hid (a = 15 - A) := ⟨_, rfl⟩
  obtain ⟨b, HBB⟩ : ∃ b : Nat, Hid (b = 15 - B) := ⟨_, rfl⟩
  rw [← HAA.out] at e1 m1
  rw [← HBB.out] at e2 m2
  have ha15 : a ≤ 15 := by rw [HAA.out]; omega
  have hb15 : b ≤ 15 := by rw [HBB.out]; omega
  clear hbg hls
  go_enter Try.func19, Try.ntmps19
  go_wp2_with fail
  refine (begins_any x A y B (by omega) h2 hy _).mono ?_
  rintro e' w' ⟨rfl, rfl⟩
  rw [HD.out]
  by_cases hlt : A < B
  · have hlt' : (A : Int) < (B : Int) := by omega
    have hXY : X < Y := by
      have := HLL.out
      rw [decide_eq_true hlt] at this
      simpa using this
    have hXY' : (X : Int) < (Y : Int) := by omega
    go_wp2
    go_ret
    exact ⟨by first | rfl | (simp; done) | (simp; omega), rfl⟩
  · have hlt' : ¬ (A : Int) < (B : Int) := by omega
    have hee : decide (X < Y) = e := by
      have := HLL.out
      rw [decide_eq_false hlt, Bool.false_or] at this
      exact this
    have hee' : decide ((X : Int) < (Y : Int)) = e := by rw [← hee]; simp
    cases e with
    | true =>
      have hXY' : (X : Int) < (Y : Int) := of_decide_eq_true hee'
      clear hee hee'
      go_wp2
      go_ret
      exact ⟨by first | rfl | (simp; done) | (simp; omega), rfl⟩
    | false =>
      have hXY' : ¬ (X : Int) < (Y : Int) := of_decide_eq_false hee'
      clear hee hee'
      go_wp2
      go_ret
      exact ⟨by first | rfl | (simp; done) | (simp; omega), rfl⟩

/-- A word beside itself. -/
theorem apart_self (A x : Nat) (hA : A ≤ 15) (hx : x < 32768) (w : World) :
    Calls Try.prog 19 #[.int .i64 A, .int .i64 x, .int .i64 A, .int .i64 x, .bool false] w fun e w' => e = .returned (.bool (decide (A = 0))) ∧ w' = w := by
  by_cases a0 : A = 0
  · subst a0
    go_enter Try.func19, Try.ntmps19
    go_wp2
    go_ret
    exact ⟨rfl, rfl⟩
  · have a0' : ((A : Int) == 0) = false := by simp; omega
    have HD : Hid (decide (A = 0) = false) := decide_eq_false a0
    have HE : Hid (decide (x = x / 2 ^ (A - A)) = true) := by show _ = _; simp
    rw [HD.out]
    have hab' : ¬ (A : Int) < (A : Int) := by omega
    go_enter Try.func19, Try.ntmps19
    go_wp2_with fail
    refine (begins_any x A x A (by omega) hA hx _).mono ?_
    rintro e' w' ⟨rfl, rfl⟩
    rw [HE.out]
    go_wp2
    go_ret
    exact ⟨rfl, rfl⟩
end Go.Proofs.Ythlbmpmbbdaboaa
