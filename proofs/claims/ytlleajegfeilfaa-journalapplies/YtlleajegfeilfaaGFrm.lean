import Derived.Test.YtlleajegfeilfaaGRgt
namespace Go.Proofs.Ytlleajegfeilfaa
open Go.RowKit Go.Maps
set_option maxRecDepth 20000
set_option linter.unusedVariables false
set_option linter.unusedSimpArgs false

theorem below_drewN {B : Nat} {a w : World} (h : Below B a w) (n : Nat) : Below B a (w.drewN n) := ⟨h.1, h.2, h.3, h.4, h.5⟩

theorem up_any (n : Int) (w : World) (h0 : 0 ≤ n) (h1 : n ≤ 562949953421312) : Calls Try.prog 31 #[.int .i64 n] w fun e w' => e = .returned (.int .i64 (upN n)) ∧ w' = w := by
  go_enter Try.func31, Try.ntmps31
  go_wp2
  go_ret
  exact ⟨congrArg (fun x => Ending.returned (Value.int .i64 x)) (show (n + 512 - 1) / 512 * 512 = upN n by unfold upN; omega), rfl⟩

theorem seal_any (n : Int) (w : World) (h0 : 0 ≤ n) (h1 : n ≤ 562949953421312) : Calls Try.prog 32 #[.int .i64 n] w fun e w' => e = .returned (.int .i64 (seN n)) ∧ w' = w := by
  go_enter Try.func32, Try.ntmps32
  go_wp2
  go_ret
  exact ⟨rfl, rfl⟩

theorem isSize_any (n : Int) (w : World) : Calls Try.prog 19 #[.int .i64 n] w fun e w' => e = .returned (.bool (decide (domN n))) ∧ w' = w := by
  by_cases h1 : 0 ≤ n
  · by_cases h2 : n ≤ 16777216
    · have hd : decide (domN n) = true := decide_eq_true ⟨h1, h2⟩
      rw [hd]
      go_enter Try.func19, Try.ntmps19
      go_wp2
      go_ret
      exact ⟨rfl, rfl⟩
    · have hd : decide (domN n) = false := decide_eq_false (fun h => h2 h.2)
      rw [hd]
      go_enter Try.func19, Try.ntmps19
      go_wp2
      go_ret
      exact ⟨rfl, rfl⟩
  · have hd : decide (domN n) = false := decide_eq_false (fun h => h1 h.1)
    rw [hd]
    go_enter Try.func19, Try.ntmps19
    go_wp2
    go_ret
    exact ⟨rfl, rfl⟩

set_option maxHeartbeats 8000000 in
theorem frameOf_any (old size len : Int) (w : World) (ho : domN old) (hs : domN size) (h0 : 0 ≤ len) (h1 : len ≤ 281475110928384) :
    Calls Try.prog 21 #[.int .i64 old, .int .i64 size, .int .i64 len] w fun e w' => e = .returned (.agg #[.int .i64 (upN (max old size)), .int .i64 (seN (filN old size len)), .int .i64 (filN old size len)]) ∧ Below w.heap.size w w' := by
  have HFI := hide (fil_in ho hs h0 h1)
  have HU1 := hide (fun w' => up_any (max old size) w' (by unfold domN at ho hs; omega) (by unfold domN at ho hs; omega))
  have HU2 := hide (fun w' => up_any len w' h0 (by omega))
  have HP1 := hide (fun w' => seal_any (old + 1024) w' (by unfold domN at ho hs; omega) (by unfold domN at ho hs; omega))
  have HP2 := hide (fun w' => seal_any (filN old size len) w' (by have := HFI.out; omega) (by have := HFI.out; omega))
  obtain ⟨F, hF⟩ : ∃ F, F = filN old size len := ⟨_, rfl⟩
  have HF := hide hF
  rw [← hF] at HP2 HFI ⊢
  obtain ⟨ho0, ho1⟩ := ho
  obtain ⟨hs0, hs1⟩ := hs
  obtain ⟨hF0, hF1⟩ := HFI.out
  have hU := And.intro (show upN (max old size) ≤ 16777216 + 512 by unfold upN; omega) (show 0 ≤ upN (max old size) by unfold upN; omega)
  have hL := And.intro (show upN len ≤ len + 512 by unfold upN; omega) (show 0 ≤ upN len by unfold upN; omega)
  have hP := And.intro (show seN (old + 1024) ≤ 16777216 + 1024 by unfold seN; omega) (show 0 ≤ seN (old + 1024) by unfold seN; omega)
  have HFV : Hid (F = if 0 < upN (max old size) + upN len - seN (old + 1024) then old + 1024 + (upN (max old size) + upN len - seN (old + 1024) + 1023) / 1024 * 1024 else old + 1024) := by show _ = _; rw [hF]; rfl
  clear hF HF
  obtain ⟨M, hM⟩ : ∃ M, M = max old size := ⟨_, rfl⟩
  rw [← hM] at HU1 hU HFV ⊢
  obtain ⟨U, hUe⟩ : ∃ U, U = upN M := ⟨_, rfl⟩
  rw [← hUe] at HU1 hU HFV ⊢
  obtain ⟨L, hLe⟩ : ∃ L, L = upN len := ⟨_, rfl⟩
  rw [← hLe] at HU2 hL HFV
  obtain ⟨p1, hp1⟩ : ∃ p, p = seN (old + 1024) := ⟨_, rfl⟩
  rw [← hp1] at HP1 hP HFV
  obtain ⟨p2, hp2⟩ : ∃ p, p = seN F := ⟨_, rfl⟩
  rw [← hp2] at HP2 ⊢
  have hP2 := And.intro (show p2 ≤ F by rw [hp2]; unfold seN; omega) (show -1000 ≤ p2 by rw [hp2]; unfold seN; omega)
  clear hUe hLe hp1 hp2
  by_cases hmx : old < size
  · obtain rfl : size = M := by omega
    clear hM
    go_enter Try.func21, Try.ntmps21
    go_wp2_with (go_at_call 31; refine (HU1.out _).mono ?_; rintro e w2 ⟨rfl, h2⟩; subst h2)
    go_quiet (first | (go_at_call 31; refine Calls.quiet_of_same (HU2.out _)) | (go_at_call 32; refine Calls.quiet_of_same (HP1.out _)))
    by_cases hlk : 0 < U + L - p1
    · have hFe : F = old + 1024 + (U + L - p1 + 1023) / 1024 * 1024 := by have := HFV.out; rwa [if_pos hlk] at this
      have HFf : Hid (old + 1024 + (U + L - p1 + 1024 - 1) / 1024 * 1024 = F) := by show _ = _; omega
      clear hFe
      go_wp2_with (go_at_call 32; rw [HFf.out]; refine (HP2.out _).mono ?_; rintro e w3 ⟨rfl, h3⟩; subst h3)
      refine bodyPost_ret (v := .agg #[.int .i64 U, .int .i64 p2, .int .i64 F]) (by simp [results, Try.results21, go_sem]) rfl ?_
      refine ⟨rfl, ?_⟩
      repeat (first | (refine Below.setCell ?_ (by simp) _) | (refine below_drewN ?_ _) | (refine Below.alloc ?_ (by simp) _) | exact Below.refl _ _)
    · have hFe : F = old + 1024 := by have := HFV.out; rwa [if_neg hlk] at this
      have HFf : Hid (old + 1024 = F) := hFe.symm
      clear hFe
      go_wp2_with (go_at_call 32; rw [HFf.out]; refine (HP2.out _).mono ?_; rintro e w3 ⟨rfl, h3⟩; subst h3)
      refine bodyPost_ret (v := .agg #[.int .i64 U, .int .i64 p2, .int .i64 F]) (by simp [results, Try.results21, go_sem]) rfl ?_
      refine ⟨rfl, ?_⟩
      repeat (first | (refine Below.setCell ?_ (by simp) _) | (refine below_drewN ?_ _) | (refine Below.alloc ?_ (by simp) _) | exact Below.refl _ _)
  · obtain rfl : old = M := by omega
    clear hM
    go_enter Try.func21, Try.ntmps21
    go_wp2_with (go_at_call 31; refine (HU1.out _).mono ?_; rintro e w2 ⟨rfl, h2⟩; subst h2)
    go_quiet (first | (go_at_call 31; refine Calls.quiet_of_same (HU2.out _)) | (go_at_call 32; refine Calls.quiet_of_same (HP1.out _)))
    by_cases hlk : 0 < U + L - p1
    · have hFe : F = old + 1024 + (U + L - p1 + 1023) / 1024 * 1024 := by have := HFV.out; rwa [if_pos hlk] at this
      have HFf : Hid (old + 1024 + (U + L - p1 + 1024 - 1) / 1024 * 1024 = F) := by show _ = _; omega
      clear hFe
      go_wp2_with (go_at_call 32; rw [HFf.out]; refine (HP2.out _).mono ?_; rintro e w3 ⟨rfl, h3⟩; subst h3)
      refine bodyPost_ret (v := .agg #[.int .i64 U, .int .i64 p2, .int .i64 F]) (by simp [results, Try.results21, go_sem]) rfl ?_
      refine ⟨rfl, ?_⟩
      repeat (first | (refine Below.setCell ?_ (by simp) _) | (refine below_drewN ?_ _) | (refine Below.alloc ?_ (by simp) _) | exact Below.refl _ _)
    · have hFe : F = old + 1024 := by have := HFV.out; rwa [if_neg hlk] at this
      have HFf : Hid (old + 1024 = F) := hFe.symm
      clear hFe
      go_wp2_with (go_at_call 32; rw [HFf.out]; refine (HP2.out _).mono ?_; rintro e w3 ⟨rfl, h3⟩; subst h3)
      refine bodyPost_ret (v := .agg #[.int .i64 U, .int .i64 p2, .int .i64 F]) (by simp [results, Try.results21, go_sem]) rfl ?_
      refine ⟨rfl, ?_⟩
      repeat (first | (refine Below.setCell ?_ (by simp) _) | (refine below_drewN ?_ _) | (refine Below.alloc ?_ (by simp) _) | exact Below.refl _ _)
end Go.Proofs.Ytlleajegfeilfaa

