import Derived.Test.YtbbbonphmffokabDoorGXof
namespace Go.Proofs.YtbbbonphmffokabDoor
open Go.RowKit
set_option maxRecDepth 20000
set_option linter.unusedVariables false

theorem xdbits_any (i : Nat) (hi : i < 30) (w : World) : Calls Tryd.prog 56 #[.int .i64 (i : Int)] w fun e w' => e = .returned (.int .i64 (DF i : Int)) ∧ w' = w := by
  have HL := hide (dfIs i hi)
  obtain ⟨F, HF⟩ : ∃ F, Hid (F = DF i) := ⟨_, hide rfl⟩
  rw [← HF.out] at HL ⊢
  by_cases h1 : i < 4
  · have hF : F = 0 := by rw [HL.out, if_pos h1]
    subst hF
    have g1 : (i : Int) < 4 := by omega
    go_enter Tryd.func56, Tryd.ntmps56
    go_wp2
    go_ret
    exact ⟨rfl, rfl⟩
  · have g1 : ¬ (i : Int) < 4 := by omega
    have hF : F = (i - 2) / 2 := by rw [HL.out, if_neg h1]
    obtain ⟨p, hp⟩ : ∃ p : Int, (i : Int) - 2 = p := ⟨_, rfl⟩
    have g4 : p.tdiv 2 = (F : Int) := by rw [Int.tdiv_eq_ediv_of_nonneg (by omega)]; omega
    have g5 : wrap64 (F : Int) = (F : Int) := by unfold wrap64; omega
    have g6 : wrap64 p = p := by unfold wrap64; omega
    clear hF
    go_enter Tryd.func56, Tryd.ntmps56
    go_wp2
    go_ret
    exact ⟨rfl, rfl⟩

theorem xdbase_any (i : Nat) (hi : i ≤ 30) (w : World) : Calls Tryd.prog 55 #[.int .i64 (i : Int)] w fun e w' => e = .returned (.int .i64 (DB i : Int)) ∧ w' = w := by
  have HLN : Hid (∀ j, j < 30 → DB (j + 1) = DB j + 2 ^ DF j) := dbNext
  have HLE := hide dfLe
  have HL0 : Hid (DB 0 = 1) := rfl
  have HL3 : Hid (DB 30 = 32769) := rfl
  go_enter Tryd.func55, Tryd.ntmps55
  go_wp2
  go_loopw [3, 4] (fun b t wr => ∃ j : Nat, j ≤ i ∧ b = .int .i64 (DB j : Int) ∧ t = .int .i64 (j : Int) ∧ wr = w) (fun _ t _ => i - (intOf t).toNat)
  case atStart => exact ⟨0, Nat.zero_le _, by rw [HL0.out]; rfl, rfl, rfl⟩
  case round =>
    obtain ⟨j, hj, rfl, rfl, rfl⟩ := hrel
    by_cases hlt : j < i
    · have hlt' : (j : Int) < (i : Int) := by omega
      have HBI := hide (xdbits_any j (by omega) wr)
      obtain ⟨e1, e2, e3⟩ := HLE.out j (by omega)
      have hnx := HLN.out j (by omega)
      obtain ⟨F, hF⟩ : ∃ F, DF j = F := ⟨_, rfl⟩
      rw [hF] at HBI e1 e3 hnx
      obtain ⟨w1, w2, w3⟩ := wrap_pow (F := F) (by omega)
      obtain ⟨q, hq⟩ : ∃ q, 2 ^ F = q := ⟨_, rfl⟩
      rw [hq] at w1 hnx e3
      obtain ⟨B, hB⟩ : ∃ B, DB j = B := ⟨_, rfl⟩
      obtain ⟨B', hB'⟩ : ∃ B, DB (j + 1) = B := ⟨_, rfl⟩
      rw [hB, hB'] at hnx
      rw [hB] at e2
      have hmin : min F 64 = F := by omega
      have hcv : IntKind.u64.wrap (F : Int) = (F : Int) := by rw [IntKind.wrap_u64]; omega
      have had : wrap64 ((B : Int) + (q : Int)) = (B' : Int) := by unfold wrap64; omega
      rw [hB]
      have HBB := hide hB'
      clear hq hF w2 w3 hB hB' hnx e1 e2 e3
      go_wp2_with fail
      refine HBI.out.mono ?_
      rintro e w8 ⟨rfl, hw8⟩
      subst hw8
      go_wp2
      go_roundw
      case rel => exact ⟨j + 1, by omega, by rw [HBB.out, had], by go_num, by first | rfl | trivial⟩
      case measure => simp [intOf]; omega
    · obtain rfl : j = i := by omega
      have hlt' : ¬ (j : Int) < (j : Int) := by omega
      obtain ⟨B, hB⟩ : ∃ B, DB j = B := ⟨_, rfl⟩
      rw [hB]
      have HBH := hide hB
      clear hB
      go_wp2
      go_ret
      exact ⟨by rw [HBH.out]; rfl, rfl⟩

theorem bnum_any (w : World) (x : Int) : Calls Tryd.prog 12 #[.int .i64 x] w fun e w' => e = .returned (.int .i64 x) ∧ w' = w := by
  go_enter Tryd.func12, Tryd.ntmps12
  go_wp2
  go_ret
  exact ⟨rfl, rfl⟩

end Go.Proofs.YtbbbonphmffokabDoor

