import Derived.Test.YtjjepgkcgbbmhacDoorGNvd
namespace Go.Proofs.YtjjepgkcgbbmhacDoor
open Go.RowKit
set_option maxRecDepth 1000000
set_option linter.unusedVariables false

set_option maxHeartbeats 16000000 in
theorem letter_a (s : ByteArray) (p : Nat) (w : World) (hp : p < s.size) (hs : s.size ≤ 65535) (q : p + 1 < s.size) (hcls : ((s[p]'hp).toNat ≤ 127) ∨ (128 ≤ (s[p]'hp).toNat ∧ (s[p]'hp).toNat ≤ 193) ∨ (194 ≤ (s[p]'hp).toNat ∧ (s[p]'hp).toNat ≤ 223) ∨ ((s[p]'hp).toNat = 224)) :
    Calls Tryd.prog 17 #[.string s, .int .i64 (p : Int)] w fun e w' => e = .returned (.int .i64 ((ltn s p : Nat) : Int)) ∧ w' = w := by
  have HTI : ∀ x y : Int, 0 ≤ x → 0 ≤ y → x + y ≤ 9223372036854775800 → Calls Tryd.prog 21 #[.string s, .int .i64 x, .int .i64 y] w fun e w' => e = .returned (.bool (tls s x.toNat y.toNat)) ∧ w' = w := by
    intro x y hx hy hxy
    have c := tails_any s x.toNat y.toNat w (by omega) (by omega)
    rwa [Int.toNat_of_nonneg hx, Int.toNat_of_nonneg hy] at c
  obtain ⟨o1, h1⟩ : ∃ o, o = tls s (p + 2) 1 := ⟨_, rfl⟩
  obtain ⟨o2, h2⟩ : ∃ o, o = tls s (p + 2) 2 := ⟨_, rfl⟩
  obtain ⟨m2, h3⟩ : ∃ o, o = tls s (p + 1) 2 := ⟨_, rfl⟩
  obtain ⟨m3, h4⟩ : ∃ o, o = tls s (p + 1) 3 := ⟨_, rfl⟩
  have e1 : tls s ((p : Int) + 2).toNat (1 : Int).toNat = o1 := by rw [h1]; congr 1
  have e2 : tls s ((p : Int) + 2).toNat (2 : Int).toNat = o2 := by rw [h2]; congr 1
  have e3 : tls s ((p : Int) + 1).toNat (2 : Int).toNat = m2 := by rw [h3]; congr 1
  have e4 : tls s ((p : Int) + 1).toNat (3 : Int).toNat = m3 := by rw [h4]; congr 1
  have hb := bt_at s p hp
  have hl := bt_lt s p
  obtain ⟨D, hD⟩ : ∃ D, D = scd s p := ⟨_, rfl⟩
  have hDl : D < 256 := by
    rw [hD]
    unfold scd
    split
    · exact bt_lt _ _
    · omega
  have HL : Hid (ltn s p = if (s[p]'hp).toNat ≤ 127 then 1
    else if 194 ≤ (s[p]'hp).toNat ∧ (s[p]'hp).toNat ≤ 223 ∧ 128 ≤ D ∧ D ≤ 191 then 2
    else if (s[p]'hp).toNat = 224 ∧ 160 ≤ D ∧ D ≤ 191 ∧ o1 = true then 3
    else if ((225 ≤ (s[p]'hp).toNat ∧ (s[p]'hp).toNat ≤ 236) ∨ (s[p]'hp).toNat = 238 ∨ (s[p]'hp).toNat = 239) ∧ m2 = true then 3
    else if (s[p]'hp).toNat = 237 ∧ 128 ≤ D ∧ D ≤ 159 ∧ o1 = true then 3
    else if (s[p]'hp).toNat = 240 ∧ 144 ≤ D ∧ D ≤ 191 ∧ o2 = true then 4
    else if (241 ≤ (s[p]'hp).toNat ∧ (s[p]'hp).toNat ≤ 243) ∧ m3 = true then 4
    else if (s[p]'hp).toNat = 244 ∧ 128 ≤ D ∧ D ≤ 143 ∧ o2 = true then 4
    else 0) := by
    show _ = _
    rw [h1, h2, h3, h4, hD, ← hb]
    rfl
  rw [hb] at hl
  clear h1 h2 h3 h4 hb
  have hDq : D = (s[p + 1]'q).toNat := by rw [hD]; exact (if_pos q).trans (bt_at s (p + 1) q)
  have q' : (p : Int) + 1 < (s.size : Int) := by omega
  have hix : ((p : Int) + 1).toNat = p + 1 := by omega
  clear hD
  rcases hcls with k | k | k | k
  all_goals (
    go_enter Tryd.func17, Tryd.ntmps17
    go_wp2_with (go_at_call 21; refine (HTI _ _ (by omega) (by omega) (by omega)).mono ?_; rintro e w1 ⟨rfl, h1⟩; rw [h1]; clear h1 w1; first | rw [e1] | rw [e2] | rw [e3] | rw [e4])
    all_goals (
      go_ret
      refine ⟨?_, rfl⟩
      rw [HL.out]
      clear HL HTI e1 e2 e3 e4
      repeat' split
      all_goals first
        | rfl
        | (exfalso; omega)
        | (exfalso; simp_all <;> omega)))
end Go.Proofs.YtjjepgkcgbbmhacDoor

