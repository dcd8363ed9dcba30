import Derived.Test.YtbbbonphmffokabDoorGLof
namespace Go.Proofs.YtbbbonphmffokabDoor
open Go.RowKit
set_option maxRecDepth 20000
set_option linter.unusedVariables false

theorem xlbits_any (i : Nat) (s : Int) (hi : i < 29) (hs : s = ((257 + i : Nat) : Int)) (w : World) : Calls Tryd.prog 54 #[.int .i64 s] w fun e w' => e = .returned (.int .i64 (LF i : Int)) ∧ w' = w := by
  have HL := hide (lfIs i hi)
  obtain ⟨F, HF⟩ : ∃ F, Hid (F = LF i) := ⟨_, hide rfl⟩
  rw [← HF.out] at HL ⊢
  by_cases h1 : i < 8
  · have hF : F = 0 := by rw [HL.out, if_pos (.inl h1)]
    subst hF
    have g1 : s < 265 := by omega
    clear hs
    go_enter Tryd.func54, Tryd.ntmps54
    go_wp2
    go_ret
    exact ⟨rfl, rfl⟩
  · have g1 : ¬ s < 265 := by omega
    by_cases h2 : i = 28
    · have hF : F = 0 := by rw [HL.out, if_pos (.inr h2)]
      subst hF
      have g2 : s = 285 := by omega
      subst g2
      clear hs h2 g1
      go_enter Tryd.func54, Tryd.ntmps54
      go_wp2
      go_ret
      exact ⟨rfl, rfl⟩
    · have hF : F = (i - 4) / 4 := by rw [HL.out, if_neg (by omega)]
      have g2 : ¬ s = 285 := by omega
      have g3 : wrap64 (s - 261) = ((i - 4 : Nat) : Int) := by unfold wrap64; omega
      have g4 : ((i - 4 : Nat) : Int).tdiv 4 = (F : Int) := by rw [Int.tdiv_eq_ediv_of_nonneg (by omega)]; omega
      obtain ⟨p, hp⟩ : ∃ p : Int, s - 261 = p := ⟨_, rfl⟩
      have hp2 : p = ((i - 4 : Nat) : Int) := by omega
      rw [← hp2] at g4
      have g5 : wrap64 (F : Int) = (F : Int) := by unfold wrap64; omega
      have g6 : wrap64 p = p := by unfold wrap64; omega
      clear hp2 hF hs g3
      go_enter Tryd.func54, Tryd.ntmps54
      go_wp2
      go_ret
      exact ⟨rfl, rfl⟩

theorem xlbase_any (i : Nat) (s : Int) (hi : i < 29) (hs : s = ((257 + i : Nat) : Int)) (w : World) : Calls Tryd.prog 53 #[.int .i64 s] w fun e w' => e = .returned (.int .i64 (LB i : Int)) ∧ w' = w := by
  by_cases h2 : i = 28
  · have HL : Hid (LB i = 258) := by show _ = _; rw [h2]; rfl
    rw [HL.out]
    have g2 : s = 285 := by omega
    subst g2
    clear hs h2
    go_enter Tryd.func53, Tryd.ntmps53
    go_wp2
    go_ret
    exact ⟨rfl, rfl⟩
  · have g2 : (s == 285) = false := by simp; omega
    have HLN : Hid (∀ j, j < 27 → LB (j + 1) = LB j + 2 ^ LF j) := lbNext
    have HLE := hide lfLe
    have HL0 : Hid (LB 0 = 3) := rfl
    have HS := hide hs
    clear hs
    go_enter Tryd.func53, Tryd.ntmps53
    go_wp2
    go_loopw [3, 4] (fun b t wr => ∃ j : Nat, j ≤ i ∧ b = .int .i64 (LB j : Int) ∧ t = .int .i64 ((257 + j : Nat) : Int) ∧ wr = w) (fun _ t _ => 257 + i - (intOf t).toNat)
    case atStart => exact ⟨0, Nat.zero_le _, by rw [HL0.out]; rfl, rfl, rfl⟩
    case round =>
      obtain ⟨j, hj, rfl, rfl, rfl⟩ := hrel
      by_cases hlt : j < i
      · obtain ⟨t, ht⟩ : ∃ t : Int, ((257 + j : Nat) : Int) = t := ⟨_, rfl⟩
        rw [ht]
        have hlt' : t < s := by have := HS.out; omega
        have HBI := hide (xlbits_any j t (by omega) ht.symm wr)
        obtain ⟨e1, e2, e3⟩ := HLE.out j (by omega)
        have hnx := HLN.out j (by omega)
        have hle := HLE.out (j + 1) (by omega)
        obtain ⟨F, hF⟩ : ∃ F, LF j = F := ⟨_, rfl⟩
        rw [hF] at HBI e1 e3 hnx
        obtain ⟨w1, w2, w3⟩ := wrap_pow (F := F) (by omega)
        obtain ⟨q, hq⟩ : ∃ q, 2 ^ F = q := ⟨_, rfl⟩
        rw [hq] at w1 hnx e3
        obtain ⟨B, hB⟩ : ∃ B, LB j = B := ⟨_, rfl⟩
        obtain ⟨B', hB'⟩ : ∃ B, LB (j + 1) = B := ⟨_, rfl⟩
        rw [hB, hB'] at hnx
        rw [hB'] at hle
        have hmin : min F 64 = F := by omega
        have hcv : IntKind.u64.wrap (F : Int) = (F : Int) := by rw [IntKind.wrap_u64]; omega
        have had : wrap64 ((B : Int) + (q : Int)) = (B' : Int) := by unfold wrap64; omega
        have ht1 : wrap64 (t + 1) = ((257 + (j + 1) : Nat) : Int) := by unfold wrap64; omega
        rw [hB]
        have HT := hide ht
        have HT1 := hide ht1
        have HBB := hide hB'
        clear hq hF w2 w3 ht ht1 hB hB' hnx hle e1 e2 e3
        go_wp2_with fail
        refine HBI.out.mono ?_
        rintro e w8 ⟨rfl, hw8⟩
        subst hw8
        go_wp2
        go_roundw
        case rel => exact ⟨j + 1, by omega, by rw [HBB.out, had], by rw [HT1.out], by first | rfl | trivial⟩
        case measure => have h1 := HT1.out; have h2 := HT.out; rw [h1]; simp [intOf]; omega
      · obtain rfl : j = i := by omega
        obtain ⟨t, ht⟩ : ∃ t : Int, ((257 + j : Nat) : Int) = t := ⟨_, rfl⟩
        rw [ht]
        have hlt' : ¬ t < s := by have := HS.out; omega
        obtain ⟨B, hB⟩ : ∃ B, LB j = B := ⟨_, rfl⟩
        rw [hB]
        have HBH := hide hB
        clear hB ht
        go_wp2
        go_ret
        exact ⟨by rw [HBH.out]; rfl, rfl⟩
end Go.Proofs.YtbbbonphmffokabDoor

