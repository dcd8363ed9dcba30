import Derived.Test.YtjjepgkcgbbmhacDoorGNpd
namespace Go.Proofs.YtjjepgkcgbbmhacDoor
open Go.RowKit
set_option maxRecDepth 1000000
set_option linter.unusedVariables false

set_option maxHeartbeats 8000000 in
theorem vcheck_any (s : ByteArray) (w : World) (hs : s.size ≤ 9223372036854775807) :
    Calls Tryd.prog 9 #[.string s] w fun e w' => e = .returned (.int .i64 (dnE s)) ∧ w' = w := by
  by_cases hz : 1 ≤ s.size ∧ s.size ≤ 65535
  case neg =>
    have HE : dnE s = 120 := if_neg (fun h => hz ⟨h.1, h.2.1⟩)
    rw [HE]
    by_cases h1 : s.size = 0
    · have h1' : (s.size : Int) < 1 := by omega
      go_enter Tryd.func9, Tryd.ntmps9
      go_wp2_with (fail)
      go_ret
      exact ⟨rfl, rfl⟩
    · have h1' : ¬ (s.size : Int) < 1 := by omega
      have h2' : (65535 : Int) < (s.size : Int) := by omega
      go_enter Tryd.func9, Tryd.ntmps9
      go_wp2_with (fail)
      go_ret
      exact ⟨rfl, rfl⟩
  obtain ⟨hz1, hz2⟩ := hz
  have h1' : ¬ (s.size : Int) < 1 := by omega
  have h2' : ¬ (65535 : Int) < (s.size : Int) := by omega
  have cf := formed_any s w hz2
  have HE0 : fmd s s.size 0 = false → Hid (dnE s = 120) := fun h => if_neg (fun q => by rw [h] at q; exact absurd q.2.2.1 (by simp))
  have HE1 : ∀ i, i < s.size → ¬ gdb s i → Hid (dnE s = 120) := fun i hi h => if_neg (fun q => h (q.2.2.2.1 i hi))
  have HE2 : dps (rst s) ((rst s).size + 1) 0 0 = false → Hid (dnE s = 120) := fun h => if_neg (fun q => by rw [h] at q; exact absurd q.2.2.2.2 (by simp))
  have HE3 : fmd s s.size 0 = true → (∀ i, i < s.size → gdb s i) → dps (rst s) ((rst s).size + 1) 0 0 = true → Hid (dnE s = 0) := fun h1 h2 h3 => if_pos ⟨hz1, hz2, h1, h2, h3⟩
  generalize fmd s s.size 0 = A at *
  go_enter Tryd.func9, Tryd.ntmps9
  cases A
  · go_wp2_with (go_at_call 12; refine cf.mono ?_; rintro e w1 ⟨rfl, h1⟩; rw [h1]; clear h1 w1)
    go_ret
    refine ⟨?_, rfl⟩
    rw [(HE0 (by first | rfl | trivial)).out]
    rfl
  go_wp2_with (go_at_call 12; refine cf.mono ?_; rintro e w1 ⟨rfl, h1⟩; rw [h1]; clear h1 w1)
  go_loopw [4] (fun i wr => ∃ k : Nat, k ≤ s.size ∧ i = .int .i64 (k : Int) ∧ wr = w ∧ Hid (∀ i, i < k → gdb s i)) (fun i _ => s.size - (Lib.intOf i).toNat)
  case atStart => exact ⟨0, Nat.zero_le _, rfl, rfl, fun i hi => absurd hi (by omega)⟩
  case round =>
    obtain ⟨k, hk, rfl, rfl, HG⟩ := hrel
    by_cases hlt : k < s.size
    case pos =>
      have hb := bt_at s k hlt
      have HB1 : (s[k]'hlt).toNat < 32 ∨ (s[k]'hlt).toNat = 127 ∨ (s[k]'hlt).toNat = 92 → Hid (dnE s = 120) := fun h => HE1 k hlt (by unfold gdb; rw [hb]; omega)
      have HB2 : 32 ≤ (s[k]'hlt).toNat → (s[k]'hlt).toNat ≠ 127 → (s[k]'hlt).toNat ≠ 92 → Hid (∀ i, i < k + 1 → gdb s i) := fun a1 a2 a3 i hi => by
        by_cases e : i = k
        · rw [e]; unfold gdb; rw [hb]; exact ⟨a1, a2, a3⟩
        · exact HG.out i (by omega)
      clear HE0 HE1 HE2 HE3 cf hb HG
      go_wp2
      all_goals first
        | (go_ret
           refine ⟨?_, rfl⟩
           rw [(HB1 (by simp_all <;> omega)).out]
           rfl)
        | (refine ⟨⟨k + 1, by omega, by simp, trivial, HB2 (by simp_all <;> omega) (by simp_all <;> omega) (by simp_all <;> omega)⟩, ?_⟩
           simp only [Lib.intOf]
           omega)
    case neg =>
      have hke : k = s.size := by omega
      subst hke
      obtain ⟨t, ht⟩ : ∃ t, t = rst s := ⟨_, rfl⟩
      rw [← ht] at HE2 HE3
      have hlast := bt_at s (s.size - 1) (by omega)
      have hsub : (s.size : Int) - 1 = ((s.size - 1 : Nat) : Int) := by omega
      have htl : t.size ≤ 65535 := by
        rw [ht]
        unfold rst
        split
        · simp [ByteArray.size_extract]; omega
        · exact hz2
      by_cases h47 : bt s (s.size - 1) = 47
      · have ht2 : s.extract 0 (s.size - 1) = t := by rw [ht]; unfold rst; rw [if_pos h47]
        rw [h47] at hlast
        have hl2 := hlast.symm
        clear hlast h47 ht
        go_wp2
        try rw [ht2]
        clear ht2 hl2
        have HE4 : dps t (t.size + 1) 0 0 = true → Hid (dnE s = 0) := fun h => HE3 (by first | rfl | trivial) HG.out h
        clear HE0 HE1 HE3 HG cf
        go_loopw [6, 7, 8] (fun f i _ wr' => ∃ F I N : Nat, I + N = t.size + 1 ∧ F ≤ I ∧ f = .int .i64 (F : Int) ∧ i = .int .i64 (I : Int) ∧ wr' = wr ∧ Hid (dps t N F I = dps t (t.size + 1) 0 0)) (fun _ i _ _ => t.size + 1 - (Lib.intOf i).toNat)
        case atStart => exact ⟨0, 0, t.size + 1, by omega, by omega, rfl, rfl, rfl, rfl⟩
        case round =>
          obtain ⟨F, I, N, hN, hFI, rfl, rfl, rfl, HS⟩ := hrel
          by_cases hI : I ≤ t.size
          case neg =>
            have hI' : (t.size : Int) < (I : Int) := by omega
            obtain rfl : N = 0 := by omega
            have HF := HE4 HS.out.symm
            go_wp2
            go_ret
            refine ⟨?_, rfl⟩
            rw [HF.out]
            rfl
          case pos =>
            obtain ⟨N, rfl⟩ : ∃ m, N = m + 1 := ⟨N - 1, by omega⟩
            have cp := fun w0 => part_any (t.extract F I) w0
            have HP1 : (I = t.size ∨ bt t I = 47) → prt (t.extract F I) = false → Hid (dnE s = 120) := fun h1 h2 => HE2 (by rw [← HS.out]; simp only [dps, if_pos h1, h2, Bool.false_and])
            have HP2 : (I = t.size ∨ bt t I = 47) → prt (t.extract F I) = true → Hid (dps t N (I + 1) (I + 1) = dps t (t.size + 1) 0 0) := fun h1 h2 => by
              show _ = _
              rw [← HS.out]
              simp only [dps, if_pos h1, h2, Bool.true_and]
            have HP3 : ¬ (I = t.size ∨ bt t I = 47) → Hid (dps t N F (I + 1) = dps t (t.size + 1) 0 0) := fun h1 => by
              show _ = _
              rw [← HS.out]
              simp only [dps, if_neg h1]
            clear HS HE2 HE4
            generalize prt (t.extract F I) = P at *
            by_cases hIt : I = t.size
            · subst hIt
              cases P
              · go_wp2_with (go_at_call 13; refine (cp _).mono ?_; rintro e w1 ⟨rfl, h1⟩; rw [h1]; clear h1 w1)
                go_ret
                refine ⟨?_, rfl⟩
                rw [(HP1 (.inl (by first | rfl | trivial)) (by first | rfl | trivial)).out]
                rfl
              · go_wp2_with (go_at_call 13; refine (cp _).mono ?_; rintro e w1 ⟨rfl, h1⟩; rw [h1]; clear h1 w1)
                refine ⟨⟨t.size + 1, t.size + 1, N, by omega, by omega, by simp, by simp, trivial, HP2 (.inl (by first | rfl | trivial)) (by first | rfl | trivial)⟩, ?_⟩
                simp only [Lib.intOf]
                omega
            · have hIl : I < t.size := by omega
              have hbI := bt_at t I hIl
              have hne : ((I : Int) == (t.size : Int)) = false := by simp; omega
              by_cases h7 : bt t I = 47
              · have h8 : (t[I]'hIl).toNat = 47 := by rw [← hbI]; exact h7
                have HP1' := HP1 (.inr h7)
                have HP2' := HP2 (.inr h7)
                clear hbI h7 HP1 HP2 HP3
                cases P
                · go_wp2_with (go_at_call 13; refine (cp _).mono ?_; rintro e w1 ⟨rfl, h1⟩; rw [h1]; clear h1 w1)
                  go_ret
                  refine ⟨?_, rfl⟩
                  rw [(HP1' (by first | rfl | trivial)).out]
                  rfl
                · go_wp2_with (go_at_call 13; refine (cp _).mono ?_; rintro e w1 ⟨rfl, h1⟩; rw [h1]; clear h1 w1)
                  refine ⟨⟨I + 1, I + 1, N, by omega, by omega, by simp, by simp, trivial, HP2' (by first | rfl | trivial)⟩, ?_⟩
                  simp only [Lib.intOf]
                  omega
              · have h8 : (((t[I]'hIl).toNat : Int) == 47) = false := by rw [← hbI]; simp; omega
                have h9 : ¬ (t[I]'hIl).toNat = 47 := by rw [← hbI]; exact h7
                have HP3' := HP3 (by omega)
                clear hbI h7 HP1 HP2 HP3
                go_wp2_with (fail)
                refine ⟨⟨F, I + 1, N, by omega, by omega, rfl, by simp, trivial, HP3'⟩, ?_⟩
                simp only [Lib.intOf]
                omega
      · have ht2 : s = t := by rw [ht]; unfold rst; rw [if_neg h47]
        rw [hlast] at h47
        have h48 : (((s[s.size - 1]'(by omega)).toNat : Int) == 47) = false := by simp; omega
        clear hlast ht
        subst ht2
        go_wp2
        clear h47 h48
        have HE4 : dps s (s.size + 1) 0 0 = true → Hid (dnE s = 0) := fun h => HE3 (by first | rfl | trivial) HG.out h
        clear HE0 HE1 HE3 HG cf
        go_loopw [6, 7, 8] (fun f i _ wr' => ∃ F I N : Nat, I + N = s.size + 1 ∧ F ≤ I ∧ f = .int .i64 (F : Int) ∧ i = .int .i64 (I : Int) ∧ wr' = wr ∧ Hid (dps s N F I = dps s (s.size + 1) 0 0)) (fun _ i _ _ => s.size + 1 - (Lib.intOf i).toNat)
        case atStart => exact ⟨0, 0, s.size + 1, by omega, by omega, rfl, rfl, rfl, rfl⟩
        case round =>
          obtain ⟨F, I, N, hN, hFI, rfl, rfl, rfl, HS⟩ := hrel
          by_cases hI : I ≤ s.size
          case neg =>
            have hI' : (s.size : Int) < (I : Int) := by omega
            obtain rfl : N = 0 := by omega
            have HF := HE4 HS.out.symm
            go_wp2
            go_ret
            refine ⟨?_, rfl⟩
            rw [HF.out]
            rfl
          case pos =>
            obtain ⟨N, rfl⟩ : ∃ m, N = m + 1 := ⟨N - 1, by omega⟩
            have cp := fun w0 => part_any (s.extract F I) w0
            have HP1 : (I = s.size ∨ bt s I = 47) → prt (s.extract F I) = false → Hid (dnE s = 120) := fun h1 h2 => HE2 (by rw [← HS.out]; simp only [dps, if_pos h1, h2, Bool.false_and])
            have HP2 : (I = s.size ∨ bt s I = 47) → prt (s.extract F I) = true → Hid (dps s N (I + 1) (I + 1) = dps s (s.size + 1) 0 0) := fun h1 h2 => by
              show _ = _
              rw [← HS.out]
              simp only [dps, if_pos h1, h2, Bool.true_and]
            have HP3 : ¬ (I = s.size ∨ bt s I = 47) → Hid (dps s N F (I + 1) = dps s (s.size + 1) 0 0) := fun h1 => by
              show _ = _
              rw [← HS.out]
              simp only [dps, if_neg h1]
            clear HS HE2 HE4
            generalize prt (s.extract F I) = P at *
            by_cases hIt : I = s.size
            · subst hIt
              cases P
              · go_wp2_with (go_at_call 13; refine (cp _).mono ?_; rintro e w1 ⟨rfl, h1⟩; rw [h1]; clear h1 w1)
                go_ret
                refine ⟨?_, rfl⟩
                rw [(HP1 (.inl (by first | rfl | trivial)) (by first | rfl | trivial)).out]
                rfl
              · go_wp2_with (go_at_call 13; refine (cp _).mono ?_; rintro e w1 ⟨rfl, h1⟩; rw [h1]; clear h1 w1)
                refine ⟨⟨s.size + 1, s.size + 1, N, by omega, by omega, by simp, by simp, trivial, HP2 (.inl (by first | rfl | trivial)) (by first | rfl | trivial)⟩, ?_⟩
                simp only [Lib.intOf]
                omega
            · have hIl : I < s.size := by omega
              have hbI := bt_at s I hIl
              have hne : ((I : Int) == (s.size : Int)) = false := by simp; omega
              by_cases h7 : bt s I = 47
              · have h8 : (s[I]'hIl).toNat = 47 := by rw [← hbI]; exact h7
                have HP1' := HP1 (.inr h7)
                have HP2' := HP2 (.inr h7)
                clear hbI h7 HP1 HP2 HP3
                cases P
                · go_wp2_with (go_at_call 13; refine (cp _).mono ?_; rintro e w1 ⟨rfl, h1⟩; rw [h1]; clear h1 w1)
                  go_ret
                  refine ⟨?_, rfl⟩
                  rw [(HP1' (by first | rfl | trivial)).out]
                  rfl
                · go_wp2_with (go_at_call 13; refine (cp _).mono ?_; rintro e w1 ⟨rfl, h1⟩; rw [h1]; clear h1 w1)
                  refine ⟨⟨I + 1, I + 1, N, by omega, by omega, by simp, by simp, trivial, HP2' (by first | rfl | trivial)⟩, ?_⟩
                  simp only [Lib.intOf]
                  omega
              · have h8 : (((s[I]'hIl).toNat : Int) == 47) = false := by rw [← hbI]; simp; omega
                have h9 : ¬ (s[I]'hIl).toNat = 47 := by rw [← hbI]; exact h7
                have HP3' := HP3 (by omega)
                clear hbI h7 HP1 HP2 HP3
                go_wp2_with (fail)
                refine ⟨⟨F, I + 1, N, by omega, by omega, rfl, by simp, trivial, HP3'⟩, ?_⟩
                simp only [Lib.intOf]
                omega
end Go.Proofs.YtjjepgkcgbbmhacDoor

