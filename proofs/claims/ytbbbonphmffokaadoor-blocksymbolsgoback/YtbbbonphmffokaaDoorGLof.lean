import Derived.Test.YtbbbonphmffokaaDoorGSpn
namespace Go.Proofs.YtbbbonphmffokaaDoor
open Go.RowKit
set_option maxRecDepth 20000
set_option linter.unusedVariables false

theorem wrap_pow {F : Nat} (hF : F ≤ 13) : wrap64 ((2 : Int) ^ F) = ((2 ^ F : Nat) : Int) ∧ 1 ≤ 2 ^ F ∧ 2 ^ F ≤ 8192 := by
  have h1 : (2 : Nat) ^ F ≤ 2 ^ 13 := Nat.pow_le_pow_right (by omega) hF
  have h2 : 1 ≤ 2 ^ F := Nat.one_le_two_pow
  have h3 : (2 : Int) ^ F = ((2 ^ F : Nat) : Int) := by simp
  rw [h3]
  obtain ⟨q, hq⟩ : ∃ q, 2 ^ F = q := ⟨_, rfl⟩
  rw [hq] at h1 h2 ⊢
  refine ⟨?_, h2, by omega⟩
  unfold wrap64
  omega

/-- What a symbol and its further bits say: the number and the error. -/
def ofV (B F : Nat) (x : Int) : Int := if 0 ≤ x ∧ x < ((2 ^ F : Nat) : Int) then (B : Int) + x else 0
def ofE (F : Nat) (x : Int) : Int := if 0 ≤ x ∧ x < ((2 ^ F : Nat) : Int) then 0 else 1

theorem of_in {B F : Nat} {x : Int} (h : 0 ≤ x ∧ x < ((2 ^ F : Nat) : Int)) : ofV B F x = (B : Int) + x ∧ ofE F x = 0 := by unfold ofV ofE; rw [if_pos h, if_pos h]; exact ⟨rfl, rfl⟩
theorem of_out {B F : Nat} {x : Int} (h : ¬ (0 ≤ x ∧ x < ((2 ^ F : Nat) : Int))) : ofV B F x = 0 ∧ ofE F x = 1 := by unfold ofV ofE; rw [if_neg h, if_neg h]; exact ⟨rfl, rfl⟩

theorem with_any (B F : Nat) (x : Int) (w : World) (hB : B ≤ 32768) (hF : F ≤ 13) :
    Calls Tryd.prog 24 #[.agg #[.int .i64 (B : Int), .int .i64 (F : Int)], .int .i64 x] w fun e w' => e = .returned (.tuple #[.int .i64 (ofV B F x), .int .i64 (ofE F x)]) ∧ Below w.heap.size w w' := by
  have HB : Hid (Below w.heap.size w (w.alloc (.cells #[.int .i64 (B : Int), .int .i64 (F : Int)] 37))) := (Below.refl _ _).alloc (Nat.le_refl _) _
  obtain ⟨hw, hp1, hp2⟩ := wrap_pow hF
  have HI := hide (of_in (B := B) (F := F) (x := x))
  have HO := hide (of_out (B := B) (F := F) (x := x))
  obtain ⟨q, hq⟩ : ∃ q, 2 ^ F = q := ⟨_, rfl⟩
  rw [hq] at hw hp1 hp2 HI HO
  clear hq
  by_cases h0 : x < 0
  · have HV := hide (HO.out (by omega))
    rw [HV.out.1, HV.out.2]
    go_enter Tryd.func24, Tryd.ntmps24
    go_wp2
    refine bodyPost_ret (results_tmp2 rfl _ _ _) rfl ?_
    exact ⟨rfl, HB.out⟩
  · by_cases h1 : (q : Int) ≤ x
    · have HV := hide (HO.out (by omega))
      rw [HV.out.1, HV.out.2]
      go_enter Tryd.func24, Tryd.ntmps24
      go_wp2
      refine bodyPost_ret (results_tmp2 rfl _ _ _) rfl ?_
      exact ⟨rfl, HB.out⟩
    · have HV := hide (HI.out (by omega))
      rw [HV.out.1, HV.out.2]
      have hwx : wrap64 ((B : Int) + x) = (B : Int) + x := by unfold wrap64; omega
      go_enter Tryd.func24, Tryd.ntmps24
      go_wp2
      refine bodyPost_ret (results_tmp2 rfl _ _ _) rfl ?_
      exact ⟨rfl, HB.out⟩

/-- The program's LengthOf and DistOf, in numbers. -/
def lV (s x : Int) : Int := if 257 ≤ s ∧ s ≤ 285 then ofV (LB (s.toNat - 257)) (LF (s.toNat - 257)) x else 0
def lE (s x : Int) : Int := if 257 ≤ s ∧ s ≤ 285 then ofE (LF (s.toNat - 257)) x else 1
def dV (s x : Int) : Int := if 0 ≤ s ∧ s ≤ 29 then ofV (DB s.toNat) (DF s.toNat) x else 0
def dE (s x : Int) : Int := if 0 ≤ s ∧ s ≤ 29 then ofE (DF s.toNat) x else 1

theorem lengthOf_any (s x : Int) (w : World) (T : Ltab w) : Calls Tryd.prog 13 #[.int .i64 s, .int .i64 x] w fun e w' => e = .returned (.tuple #[.int .i64 (lV s x), .int .i64 (lE s x)]) ∧ Below w.heap.size w w' := by
  have HB0 : Hid (Below w.heap.size w w) := Below.refl _ _
  by_cases h : 257 ≤ s ∧ s ≤ 285
  · obtain ⟨n, rfl⟩ := Int.eq_ofNat_of_zero_le (show 0 ≤ s by omega)
    obtain ⟨i, rfl⟩ : ∃ i, n = 257 + i := ⟨n - 257, by omega⟩
    have hi : i < 29 := by omega
    have HV : Hid (lV ((257 + i : Nat) : Int) x = ofV (LB i) (LF i) x ∧ lE ((257 + i : Nat) : Int) x = ofE (LF i) x) := by
      unfold lV lE
      rw [if_pos h, if_pos h, Int.toNat_natCast, show 257 + i - 257 = i by omega]
      exact ⟨rfl, rfl⟩
    have c0 := T.base i hi
    have c1 := T.more i hi
    have hle := lfLe i hi
    have HWI := hide (with_any (LB i) (LF i) x w (by omega) (by omega))
    rw [HV.out.1, HV.out.2]
    obtain ⟨V, HVV⟩ : ∃ V, Hid (V = ofV (LB i) (LF i) x) := ⟨_, hide rfl⟩
    obtain ⟨E, HEE⟩ : ∃ V, Hid (V = ofE (LF i) x) := ⟨_, hide rfl⟩
    rw [← HVV.out, ← HEE.out] at HWI ⊢
    have hs1 : ((257 + i : Nat) : Int) - 257 = (i : Int) := by omega
    have hs2 : ¬ ((257 + i : Nat) : Int) < 257 := by omega
    have hs3 : ¬ (286 : Int) ≤ ((257 + i : Nat) : Int) := by omega
    obtain ⟨sI, hsI⟩ : ∃ z : Int, ((257 + i : Nat) : Int) = z := ⟨_, rfl⟩
    rw [hsI] at hs1 hs2 hs3 ⊢
    clear hsI h hle
    go_enter Tryd.func13, Tryd.ntmps13
    go_wp2_with fail
    refine HWI.out.mono ?_
    rintro e w2 ⟨rfl, b2⟩
    have HB2 := hide b2
    clear b2
    go_wp2
    refine bodyPost_ret (results_tmp2 rfl _ _ _) rfl ?_
    exact ⟨rfl, HB2.out⟩
  · have HV : Hid (lV s x = 0 ∧ lE s x = 1) := by unfold lV lE; rw [if_neg h, if_neg h]; exact ⟨rfl, rfl⟩
    rw [HV.out.1, HV.out.2]
    by_cases h1 : s < 257
    · go_enter Tryd.func13, Tryd.ntmps13
      go_wp2
      refine bodyPost_ret (results_tmp2 rfl _ _ _) rfl ?_
      exact ⟨rfl, HB0.out⟩
    · have h2 : (286 : Int) ≤ s := by omega
      go_enter Tryd.func13, Tryd.ntmps13
      go_wp2
      refine bodyPost_ret (results_tmp2 rfl _ _ _) rfl ?_
      exact ⟨rfl, HB0.out⟩

theorem distOf_any (s x : Int) (w : World) (T : Dtab w) : Calls Tryd.prog 15 #[.int .i64 s, .int .i64 x] w fun e w' => e = .returned (.tuple #[.int .i64 (dV s x), .int .i64 (dE s x)]) ∧ Below w.heap.size w w' := by
  have HB0 : Hid (Below w.heap.size w w) := Below.refl _ _
  by_cases h : 0 ≤ s ∧ s ≤ 29
  · obtain ⟨i, rfl⟩ := Int.eq_ofNat_of_zero_le (show 0 ≤ s by omega)
    have hi : i < 30 := by omega
    have HV : Hid (dV (i : Int) x = ofV (DB i) (DF i) x ∧ dE (i : Int) x = ofE (DF i) x) := by
      unfold dV dE
      rw [if_pos h, if_pos h, Int.toNat_natCast]
      exact ⟨rfl, rfl⟩
    have c0 := T.base i hi
    have c1 := T.more i hi
    have hle := dfLe i hi
    have HWI := hide (with_any (DB i) (DF i) x w (by omega) (by omega))
    rw [HV.out.1, HV.out.2]
    obtain ⟨V, HVV⟩ : ∃ V, Hid (V = ofV (DB i) (DF i) x) := ⟨_, hide rfl⟩
    obtain ⟨E, HEE⟩ : ∃ V, Hid (V = ofE (DF i) x) := ⟨_, hide rfl⟩
    rw [← HVV.out, ← HEE.out] at HWI ⊢
    have hs2 : ¬ (i : Int) < 0 := by omega
    have hs3 : ¬ (30 : Int) ≤ (i : Int) := by omega
    clear h hle
    go_enter Tryd.func15, Tryd.ntmps15
    go_wp2_with fail
    refine HWI.out.mono ?_
    rintro e w2 ⟨rfl, b2⟩
    have HB2 := hide b2
    clear b2
    go_wp2
    refine bodyPost_ret (results_tmp2 rfl _ _ _) rfl ?_
    exact ⟨rfl, HB2.out⟩
  · have HV : Hid (dV s x = 0 ∧ dE s x = 1) := by unfold dV dE; rw [if_neg h, if_neg h]; exact ⟨rfl, rfl⟩
    rw [HV.out.1, HV.out.2]
    by_cases h1 : s < 0
    · go_enter Tryd.func15, Tryd.ntmps15
      go_wp2
      refine bodyPost_ret (results_tmp2 rfl _ _ _) rfl ?_
      exact ⟨rfl, HB0.out⟩
    · have h2 : (30 : Int) ≤ s := by omega
      go_enter Tryd.func15, Tryd.ntmps15
      go_wp2
      refine bodyPost_ret (results_tmp2 rfl _ _ _) rfl ?_
      exact ⟨rfl, HB0.out⟩
end Go.Proofs.YtbbbonphmffokaaDoor

