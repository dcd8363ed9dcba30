import Derived.Test.YtjjepgkcgbbmhacDoorGNvf
namespace Go.Proofs.YtjjepgkcgbbmhacDoor
set_option linter.unusedVariables false

theorem bt_list (s : ByteArray) (k : Nat) (h : k < s.size) : ∃ x : UInt8, s.data.toList[k]? = some x ∧ x.toNat = bt s k := by
  have hk : k < s.data.toList.length := by rw [← Lib.size_eq]; exact h
  refine ⟨s.data.toList[k], List.getElem?_eq_getElem hk, ?_⟩
  rw [bt_at s k h]
  rfl

theorem pre_spelt (s : ByteArray) (p : Nat) : Lib.hasPrefix (s.extract p s.size).data.toList [239, 191, 189] = true ↔ spelt s p := by
  rw [Lib.extract_to_end]
  unfold Lib.hasPrefix spelt
  rw [List.isPrefixOf_iff_prefix, List.prefix_iff_getElem?]
  have key : ∀ k (v : UInt8), (s.data.toList.drop p)[k]? = some v ↔ p + k < s.size ∧ bt s (p + k) = v.toNat := by
    intro k v
    rw [List.getElem?_drop]
    by_cases h : p + k < s.size
    · obtain ⟨x, h1, h2⟩ := bt_list s (p + k) h
      rw [h1, ← h2]
      constructor
      · intro e; cases e; exact ⟨h, rfl⟩
      · rintro ⟨_, e⟩; rw [UInt8.toNat_inj.1 e]
    · rw [List.getElem?_eq_none (by rw [← Lib.size_eq]; omega)]
      constructor
      · intro e; cases e
      · rintro ⟨e, _⟩; exact absurd e h
  constructor
  · intro h
    have h0 := (key 0 239).1 (h 0 (by decide))
    have h1 := (key 1 191).1 (h 1 (by decide))
    have h2 := (key 2 189).1 (h 2 (by decide))
    exact ⟨h2.1, h0.2, h1.2, h2.2⟩
  · rintro ⟨h, h0, h1, h2⟩ i hi
    rcases i with _ | _ | _ | i
    · exact (key 0 239).2 ⟨by omega, h0⟩
    · exact (key 1 191).2 ⟨by omega, h1⟩
    · exact (key 2 189).2 ⟨by omega, h2⟩
    · simp at hi; omega

def gdb (s : ByteArray) (i : Nat) : Prop := 32 ≤ bt s i ∧ bt s i ≠ 127 ∧ bt s i ≠ 92

theorem lets_iff (s : ByteArray) : ∀ n p, s.size ≤ p + n → (lets s n p = true ↔ fmd s n p = true ∧ ∀ i, p ≤ i → i < s.size → gdb s i)
  | 0, p, h => by
    simp only [lets, fmd, true_and, true_iff]
    intro i h1 h2
    omega
  | n + 1, p, h => by
    by_cases hp : p < s.size
    · have ih := fun q hq => lets_iff s n q hq
      simp only [lets, fmd, if_pos hp]
      rcases dec_cases s p hp with ⟨a1, a2, a3, a4, a5⟩ | ⟨a1, a2, a3⟩ | ⟨a1, a2, a3, a4, a5, a6⟩
      · have hr : rok s p = false := by
          have : ¬ Lib.hasPrefix (s.extract p s.size).data.toList [239, 191, 189] = true := fun e => a4 ((pre_spelt s p).1 e)
          unfold rok
          rw [a2, (Bool.not_eq_true _).mp this]
          rfl
        rw [hr, if_pos a1]
        simp
      · have hr : rok s p = true ↔ gdb s p := by
          have h1 : decide (bt s p = 65533) = false := decide_eq_false (by omega)
          unfold rok gdb
          rw [a2]
          simp only [h1, Bool.false_and, Bool.or_false, Bool.not_eq_true', Bool.or_eq_false_iff, decide_eq_false_iff_not]
          omega
        rw [a1, a2, if_neg (by omega), Bool.and_eq_true, hr, ih (p + 1) (by omega)]
        constructor
        · rintro ⟨g, f, r⟩
          refine ⟨f, fun i h1 h2 => ?_⟩
          by_cases e : i = p
          · rw [e]; exact g
          · exact r i (by omega) h2
        · rintro ⟨f, r⟩
          exact ⟨r p (by omega) hp, f, fun i h1 h2 => r i (by omega) h2⟩
      · have hr : rok s p = true := by
          have h1 : ¬ (Utf8.decode s p).1 < 32 := by omega
          have h2 : ¬ (Utf8.decode s p).1 = 127 := by omega
          have h3 : ¬ (Utf8.decode s p).1 = 92 := by omega
          by_cases e : (Utf8.decode s p).1 = 65533
          · have := (pre_spelt s p).2 (a4 e)
            unfold rok
            rw [e, this]
            rfl
          · simp [rok, h1, h2, h3, e]
        rw [hr, a2, if_neg (by omega), Bool.true_and, ih (p + ltn s p) (by omega)]
        constructor
        · rintro ⟨f, r⟩
          refine ⟨f, fun i h1 h2 => ?_⟩
          by_cases e : i < p + ltn s p
          · have := a6 (i - p) (by omega)
            rw [show p + (i - p) = i by omega] at this
            exact ⟨by omega, by omega, by omega⟩
          · exact r i (by omega) h2
        · rintro ⟨f, r⟩
          exact ⟨f, fun i h1 h2 => r i (by omega) h2⟩
    · simp only [lets, fmd, if_neg hp, true_and, true_iff]
      intro i h1 h2
      omega
end Go.Proofs.YtjjepgkcgbbmhacDoor

