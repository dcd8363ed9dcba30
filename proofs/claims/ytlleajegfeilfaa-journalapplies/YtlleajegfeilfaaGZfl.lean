import Derived.Test.YtlleajegfeilfaaGFrm
namespace Go.Proofs.Ytlleajegfeilfaa
open Go.RowKit Go.Maps
set_option maxRecDepth 20000
set_option linter.unusedVariables false
set_option linter.unusedSimpArgs false

theorem zinSize_any (n : Int) (w : World) : Calls Try.prog 26 #[.int .i64 n] w fun e w' => e = .returned (.bool (decide (domN n))) ∧ w' = w := by
  by_cases h1 : 0 ≤ n
  · by_cases h2 : n ≤ 16777216
    · have hd : decide (domN n) = true := decide_eq_true ⟨h1, h2⟩
      rw [hd]
      go_enter Try.func26, Try.ntmps26
      go_wp2
      go_ret
      exact ⟨rfl, rfl⟩
    · have hd : decide (domN n) = false := decide_eq_false (fun h => h2 h.2)
      rw [hd]
      go_enter Try.func26, Try.ntmps26
      go_wp2
      go_ret
      exact ⟨rfl, rfl⟩
  · have hd : decide (domN n) = false := decide_eq_false (fun h => h1 h.1)
    rw [hd]
    go_enter Try.func26, Try.ntmps26
    go_wp2
    go_ret
    exact ⟨rfl, rfl⟩

theorem zseal_any (n : Int) (w : World) (h0 : 0 ≤ n) (h1 : n ≤ 562949953421312) : Calls Try.prog 35 #[.int .i64 n] w fun e w' => e = .returned (.int .i64 (seN n)) ∧ w' = w := by
  go_enter Try.func35, Try.ntmps35
  go_wp2
  go_ret
  exact ⟨rfl, rfl⟩

theorem zup_any (n : Int) (w : World) (h0 : 0 ≤ n) (h1 : n ≤ 562949953421312) : Calls Try.prog 34 #[.int .i64 n] w fun e w' => e = .returned (.int .i64 (upN n)) ∧ w' = w := by
  obtain ⟨U, hU⟩ : ∃ U, U = upN n := ⟨_, rfl⟩
  rw [← hU]
  have hU1 : n ≤ U ∧ U < n + 512 ∧ U % 512 = 0 := by rw [hU]; unfold upN; omega
  clear hU
  go_enter Try.func34, Try.ntmps34
  go_wp2
  go_loopw [0] (fun x wr => ∃ X : Int, x = .int .i64 X ∧ n ≤ X ∧ X ≤ U ∧ wr = w) (fun x _ => (U - intOf x).toNat)
  case atStart => exact ⟨n, rfl, Int.le_refl _, hU1.1, rfl⟩
  case round =>
    obtain ⟨X, rfl, hX1, hX2, rfl⟩ := hrel
    by_cases hx : X = U
    · subst hx
      have hm : (X % 512 != 0) = false := by simp; omega
      go_wp2
      go_ret
      exact ⟨rfl, rfl⟩
    · have hm : (X % 512 != 0) = true := by simp; omega
      go_wp2
      go_roundw
      case rel => exact ⟨X + 1, by go_num, by omega, by omega, trivial⟩
      case measure => simp [intOf]; omega

theorem zbody_any (a b : Int) (w : World) (ha : domN a) (hb : domN b) : Calls Try.prog 33 #[.int .i64 a, .int .i64 b] w fun e w' => e = .returned (.int .i64 (upN (max a b))) ∧ w' = w := by
  have HU := hide (fun w' => zup_any (max a b) w' (by unfold domN at ha hb; omega) (by unfold domN at ha hb; omega))
  obtain ⟨M, hM⟩ : ∃ M, M = max a b := ⟨_, rfl⟩
  rw [← hM] at HU ⊢
  obtain ⟨U, hU⟩ : ∃ U, U = upN M := ⟨_, rfl⟩
  rw [← hU] at HU ⊢
  clear hU
  by_cases hl : a < b
  · obtain rfl : b = M := by omega
    clear hM
    go_enter Try.func33, Try.ntmps33
    go_wp2_with (go_at_call 34; refine (HU.out _).mono ?_; rintro e w2 ⟨rfl, h2⟩; subst h2)
    go_ret
    exact ⟨rfl, rfl⟩
  · obtain rfl : a = M := by omega
    clear hM
    go_enter Try.func33, Try.ntmps33
    go_wp2_with (go_at_call 34; refine (HU.out _).mono ?_; rintro e w2 ⟨rfl, h2⟩; subst h2)
    go_ret
    exact ⟨rfl, rfl⟩

/-- The file is the least that has room. -/
theorem fil_least {old size len X : Int} (ho : domN old) (hs : domN size) (hl : 0 ≤ len) (k : Nat) (hX : X = old + 1024 + 1024 * (k : Int)) (hle : X ≤ filN old size len) :
    (seN X < upN (max old size) + upN len → X + 1024 ≤ filN old size len) ∧ (upN (max old size) + upN len ≤ seN X → X = filN old size len) := by
  unfold domN at ho hs
  obtain ⟨U, hU⟩ : ∃ U, U = upN (max old size) := ⟨_, rfl⟩
  obtain ⟨L, hL⟩ : ∃ L, L = upN len := ⟨_, rfl⟩
  unfold filN at hle ⊢
  rw [← hU, ← hL] at hle ⊢
  unfold seN at hle ⊢
  clear hU hL
  subst hX
  split at hle <;> rename_i hc
  · rw [if_pos hc]
    constructor <;> intro h <;> omega
  · rw [if_neg hc]
    constructor <;> intro h <;> omega

set_option maxHeartbeats 4000000 in
theorem zFile_any (old size len : Int) (w : World) (ho : domN old) (hs : domN size) (h0 : 0 ≤ len) (h1 : len ≤ 281475110928384) :
    Calls Try.prog 30 #[.int .i64 old, .int .i64 size, .int .i64 len] w fun e w' => e = .returned (.int .i64 (filN old size len)) ∧ w' = w := by
  have HB := hide (fun w' => zbody_any old size w' ho hs)
  have HU := hide (fun w' => zup_any len w' h0 (by omega))
  have HFI := hide (fil_in ho hs h0 h1)
  have HFL := hide (fun X k => fil_least (X := X) ho hs h0 k)
  have HST : Hid (old + 1024 ≤ filN old size len) := by show _ ≤ _; unfold filN; split <;> omega
  have hU := And.intro (show upN (max old size) ≤ 16777216 + 512 by unfold domN at ho hs; unfold upN; omega) (show 0 ≤ upN (max old size) by unfold domN at ho hs; unfold upN; omega)
  have hL := And.intro (show upN len ≤ len + 512 by unfold upN; omega) (show 0 ≤ upN len by unfold upN; omega)
  obtain ⟨F, hF⟩ : ∃ F, F = filN old size len := ⟨_, rfl⟩
  rw [← hF] at HFI HFL HST ⊢
  obtain ⟨U, hUe⟩ : ∃ U, U = upN (max old size) := ⟨_, rfl⟩
  rw [← hUe] at HB HFL hU
  obtain ⟨L, hLe⟩ : ∃ L, L = upN len := ⟨_, rfl⟩
  rw [← hLe] at HU HFL hL
  clear hF hUe hLe
  obtain ⟨hF0, hF1⟩ := HFI.out
  obtain ⟨ho0, ho1⟩ := ho
  obtain ⟨hs0, hs1⟩ := hs
  have hst := HST.out
  go_enter Try.func30, Try.ntmps30
  go_wp2_with fail
  refine (HB.out _).mono ?_
  rintro e w2 ⟨rfl, h2⟩
  rw [h2]
  clear h2 w2
  go_wp2_with fail
  refine (HU.out _).mono ?_
  rintro e w2 ⟨rfl, h2⟩
  rw [h2]
  clear h2 w2
  go_wp2
  go_loopw [8] (fun x wr => ∃ (X : Int) (k : Nat), x = .int .i64 X ∧ Hid (X = old + 1024 + 1024 * (k : Int)) ∧ (0 ≤ X ∧ X ≤ F) ∧ wr = w) (fun x _ => (F - intOf x).toNat)
  case atStart => exact ⟨old + 1024, 0, rfl, by show _ = _; omega, by omega, rfl⟩
  case round =>
    obtain ⟨X, k, rfl, HX, ⟨hX0, hX1⟩, rfl⟩ := hrel
    have HSL := hide (fun w' => zseal_any X w' hX0 (by omega))
    have HFX := hide (HFL.out X k HX.out hX1)
    obtain ⟨P, hP⟩ : ∃ P, P = seN X := ⟨_, rfl⟩
    have hPb : -1000 ≤ P ∧ P ≤ X := by rw [hP]; unfold seN; omega
    rw [← hP] at HSL HFX
    clear hP
    by_cases hlt : P < U + L
    · have hnx := HFX.out.1 hlt
      go_wp2_with fail
      refine (HSL.out _).mono ?_
      rintro e w2 ⟨rfl, h2⟩
      rw [h2]
      clear h2 w2
      go_wp2
      go_roundw
      case rel => exact ⟨X + 1024, k + 1, by go_num, by show _ = _; rw [HX.out]; omega, by omega, trivial⟩
      case measure => simp [intOf]; omega
    · have HE : Hid (X = F) := HFX.out.2 (by omega)
      go_wp2_with fail
      refine (HSL.out _).mono ?_
      rintro e w2 ⟨rfl, h2⟩
      rw [h2]
      clear h2 w2
      go_wp2
      go_ret
      rw [← HE.out]
      exact ⟨rfl, rfl⟩
end Go.Proofs.Ytlleajegfeilfaa

