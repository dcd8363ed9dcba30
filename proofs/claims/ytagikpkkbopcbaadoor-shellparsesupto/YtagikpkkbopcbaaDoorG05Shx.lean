import Derived.Test.YtagikpkkbopcbaaDoorG04Shw
namespace Go.Proofs.YtagikpkkbopcbaaDoor
open Go.RowKit Go.Maps
set_option maxRecDepth 20000
set_option linter.unusedVariables false
set_option linter.unusedSimpArgs false

set_option maxHeartbeats 4000000 in
theorem bareWord_any (t : ByteArray) (w : World) (hs : t.size ≤ 1048576) : Calls Tryd.prog 11 #[.string t] w fun e w' => (∃ k, Bare t 0 k ∧ ((alone t k ∧ e = .returned (.tuple #[.string (t.extract 0 k), .int .i64 (k : Int)])) ∨ (¬ alone t k ∧ e = .returned (.tuple #[.string ⟨#[]⟩, .int .i64 0])))) ∧ w' = w := by
  go_enter Tryd.func11, Tryd.ntmps11
  go_wp2
  go_loopw [4] (fun i wr => ∃ k : Nat, k ≤ t.size ∧ i = .int .i64 (k : Int) ∧ Hid (∀ j, j < k → okb (bI t j)) ∧ wr = w) (fun i _ => t.size - (intOf i).toNat)
  case atStart => exact ⟨0, by omega, rfl, (fun j hj => by omega), rfl⟩
  case round =>
    obtain ⟨k, hk, rfl, HO, hwr⟩ := hrel
    have HW := hide hwr
    clear hwr
    by_cases c : k < t.size
    · have x := fun wx => run_ix t k c _ rfl wx
      obtain ⟨h0, h1⟩ := bI_in t k
      obtain ⟨b, HB⟩ : ∃ b, Hid (bI t k = b) := ⟨_, rfl⟩
      rw [HB.out] at x h0 h1
      by_cases d : b = 32
      · have HF : Hid (Bare t 0 k ∧ alone t k) := ⟨⟨Nat.zero_le _, hk, fun j _ hj => HO.out j hj, fun _ q => by rw [HB.out, d] at q; exact absurd q.1 (by decide)⟩, fun q => q.2 (by rw [HB.out, d])⟩
        clear HB
        subst d
        go_wp2
        go_ret2
        exact ⟨⟨k, HF.out.1, .inl ⟨HF.out.2, rfl⟩⟩, HW.out⟩
      · have d' : (b != 32) = true := by simpa using d
        by_cases q : okb b
        · have HO2 : Hid (∀ j, j < k + 1 → okb (bI t j)) := fun j hj => by
            by_cases e : j = k
            · rw [e, HB.out]; exact q
            · exact HO.out j (by omega)
          obtain ⟨q1, q2, q3⟩ := q
          have q1' : ¬ b < 32 := by omega
          have q2' : ¬ 126 < b := by omega
          have q3' : (b == 34) = false := by simpa using q3
          clear HO HB
          go_wp2
          go_roundw
          case rel => exact ⟨k + 1, by omega, by go_num, HO2, HW.out⟩
          case measure => simp [intOf]; omega
        · have HF : Hid (Bare t 0 k ∧ ¬ alone t k) := ⟨⟨Nat.zero_le _, hk, fun j _ hj => HO.out j hj, fun _ z => q (by rw [HB.out] at z; exact z)⟩, fun z => z ⟨c, by rw [HB.out]; exact d⟩⟩
          have q' : b < 32 ∨ 126 < b ∨ b = 34 := by unfold okb at q; omega
          clear HB HO q
          rcases q' with q' | q' | q'
          · go_wp2
            go_ret2
            exact ⟨⟨k, HF.out.1, .inr ⟨HF.out.2, rfl⟩⟩, HW.out⟩
          · have q1' : ¬ b < 32 := by omega
            go_wp2
            go_ret2
            exact ⟨⟨k, HF.out.1, .inr ⟨HF.out.2, rfl⟩⟩, HW.out⟩
          · subst q'
            go_wp2
            go_ret2
            exact ⟨⟨k, HF.out.1, .inr ⟨HF.out.2, rfl⟩⟩, HW.out⟩
    · have c' : ¬ (k : Int) < (t.size : Int) := by omega
      have HF : Hid (Bare t 0 k ∧ alone t k) := ⟨⟨Nat.zero_le _, hk, fun j _ hj => HO.out j hj, fun q => absurd q c⟩, fun q => c q.1⟩
      clear HO
      go_wp2
      go_ret2
      exact ⟨⟨k, HF.out.1, .inl ⟨HF.out.2, rfl⟩⟩, HW.out⟩

set_option maxHeartbeats 4000000 in
theorem vbare_any (s : ByteArray) (i : Nat) (w : World) (hi : i ≤ s.size) (hs : s.size ≤ 1048576) : Calls Tryd.prog 9 #[.string s, .int .i64 (i : Int)] w fun e w' => (∃ k, Bare s i k ∧ e = .returned (.tuple #[.string (s.extract i k), .int .i64 (k : Int)])) ∧ w' = w := by
  go_enter Tryd.func9, Tryd.ntmps9
  go_wp2
  go_loopw [6] (fun v wr => ∃ k : Nat, i ≤ k ∧ k ≤ s.size ∧ v = .int .i64 (k : Int) ∧ Hid (∀ j, i ≤ j → j < k → okb (bI s j)) ∧ wr = w) (fun v _ => s.size - (intOf v).toNat)
  case atStart => exact ⟨i, Nat.le_refl _, hi, rfl, (fun j h1 h2 => by omega), rfl⟩
  case round =>
    obtain ⟨k, hk, hk2, rfl, HO, hwr⟩ := hrel
    have HW := hide hwr
    clear hwr
    have hik : (i : Int) ≤ (k : Int) := by omega
    by_cases c : k < s.size
    · have x := fun wx => run_ix s k c _ rfl wx
      obtain ⟨h0, h1⟩ := bI_in s k
      obtain ⟨b, HB⟩ : ∃ b, Hid (bI s k = b) := ⟨_, rfl⟩
      rw [HB.out] at x h0 h1
      by_cases q : okb b
      · have HO2 : Hid (∀ j, i ≤ j → j < k + 1 → okb (bI s j)) := fun j hj0 hj => by
          by_cases e : j = k
          · rw [e, HB.out]; exact q
          · exact HO.out j hj0 (by omega)
        obtain ⟨q1, q2, q3⟩ := q
        have q3' : (b != 34) = true := by simpa using q3
        clear HO HB
        go_wp2
        go_roundw
        case rel => exact ⟨k + 1, by omega, by omega, by go_num, HO2, HW.out⟩
        case measure => simp [intOf]; omega
      · have HF : Hid (Bare s i k) := ⟨hk, hk2, HO.out, fun _ z => q (by rw [HB.out] at z; exact z)⟩
        have q' : b ≤ 32 ∨ 127 ≤ b ∨ b = 34 := by unfold okb at q; omega
        clear HB HO q
        rcases q' with q' | q' | q'
        · have q1' : ¬ 32 < b := by omega
          go_wp2
          go_ret2
          exact ⟨⟨k, HF.out, rfl⟩, HW.out⟩
        · have q1' : 32 < b := by omega
          have q2' : ¬ b < 127 := by omega
          go_wp2
          go_ret2
          exact ⟨⟨k, HF.out, rfl⟩, HW.out⟩
        · subst q'
          go_wp2
          go_ret2
          exact ⟨⟨k, HF.out, rfl⟩, HW.out⟩
    · have c' : ¬ (k : Int) < (s.size : Int) := by omega
      have HF : Hid (Bare s i k) := ⟨hk, hk2, HO.out, fun q => absurd q c⟩
      clear HO
      go_wp2
      go_ret2
      exact ⟨⟨k, HF.out, rfl⟩, HW.out⟩
end Go.Proofs.YtagikpkkbopcbaaDoor

