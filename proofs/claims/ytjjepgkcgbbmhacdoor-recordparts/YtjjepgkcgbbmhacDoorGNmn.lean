import Derived.Laws.RangeAny
namespace Go.Proofs.YtjjepgkcgbbmhacDoor
set_option linter.unusedVariables false

/-! Letters of a name in numbers: what the document's letter tells, and what ranging over a text decodes. -/
def bt (s : ByteArray) (k : Nat) : Nat := (s.get! k).toNat
theorem bt_lt (s : ByteArray) (k : Nat) : bt s k < 256 := (s.get! k).toNat_lt
def amg (s : ByteArray) (k lo hi : Nat) : Bool := decide (k < s.size ∧ lo ≤ bt s k ∧ bt s k ≤ hi)
def tls (s : ByteArray) (p : Nat) : Nat → Bool
  | 0 => true
  | n + 1 => amg s p 128 191 && tls s (p + 1) n
def scd (s : ByteArray) (p : Nat) : Nat := if p + 1 < s.size then bt s (p + 1) else 0
/-- How many bytes the letter at p has; 0: none is there. -/
def ltn (s : ByteArray) (p : Nat) : Nat :=
  if bt s p ≤ 127 then 1
  else if 194 ≤ bt s p ∧ bt s p ≤ 223 ∧ 128 ≤ scd s p ∧ scd s p ≤ 191 then 2
  else if bt s p = 224 ∧ 160 ≤ scd s p ∧ scd s p ≤ 191 ∧ tls s (p + 2) 1 = true then 3
  else if ((225 ≤ bt s p ∧ bt s p ≤ 236) ∨ bt s p = 238 ∨ bt s p = 239) ∧ tls s (p + 1) 2 = true then 3
  else if bt s p = 237 ∧ 128 ≤ scd s p ∧ scd s p ≤ 159 ∧ tls s (p + 2) 1 = true then 3
  else if bt s p = 240 ∧ 144 ≤ scd s p ∧ scd s p ≤ 191 ∧ tls s (p + 2) 2 = true then 4
  else if (241 ≤ bt s p ∧ bt s p ≤ 243) ∧ tls s (p + 1) 3 = true then 4
  else if bt s p = 244 ∧ 128 ≤ scd s p ∧ scd s p ≤ 143 ∧ tls s (p + 2) 2 = true then 4
  else 0

/-- The three bytes of the letter FFFD stand at p. -/
def spelt (s : ByteArray) (p : Nat) : Prop := p + 2 < s.size ∧ bt s p = 239 ∧ bt s (p + 1) = 191 ∧ bt s (p + 2) = 189

set_option maxHeartbeats 8000000 in
theorem dec_cases (s : ByteArray) (p : Nat) (h : p < s.size) :
    (ltn s p = 0 ∧ (Utf8.decode s p).1 = 65533 ∧ (Utf8.decode s p).2 = 1 ∧ ¬ spelt s p ∧ 128 ≤ bt s p) ∨
    (ltn s p = 1 ∧ Utf8.decode s p = (bt s p, 1) ∧ bt s p < 128) ∨
    (2 ≤ ltn s p ∧ (Utf8.decode s p).2 = ltn s p ∧ 128 ≤ (Utf8.decode s p).1 ∧ ((Utf8.decode s p).1 = 65533 → spelt s p) ∧ p + ltn s p ≤ s.size ∧ ∀ k, k < ltn s p → 128 ≤ bt s (p + k)) := by
  have e0 : (s.get! (p + 0)).toNat = bt s p := rfl
  have e1 : (s.get! (p + 1)).toNat = bt s (p + 1) := rfl
  have e2 : (s.get! (p + 2)).toNat = bt s (p + 2) := rfl
  have e3 : (s.get! (p + 3)).toNat = bt s (p + 3) := rfl
  have l0 := bt_lt s p
  have l1 := bt_lt s (p + 1)
  have l2 := bt_lt s (p + 2)
  have l3 := bt_lt s (p + 3)
  obtain ⟨D, hD⟩ : ∃ D, D = Utf8.decode s p := ⟨_, rfl⟩
  obtain ⟨n, hn⟩ : ∃ n, n = ltn s p := ⟨_, rfl⟩
  rw [← hD, ← hn]
  have hK : ∀ k, k < 4 → bt s (p + k) = if k = 0 then bt s p else if k = 1 then bt s (p + 1) else if k = 2 then bt s (p + 2) else bt s (p + 3) := by
    intro k hk
    rcases k with _ | _ | _ | _ | k
    · rfl
    · rfl
    · rfl
    · rfl
    · omega
  simp only [Utf8.decode, e0, e1, e2, e3, Utf8.runeError, Utf8.valid, beq_iff_eq, Bool.and_eq_true, Bool.or_eq_true, decide_eq_true_eq] at hD
  simp only [ltn, tls, amg, Nat.add_assoc, Bool.and_true, Bool.and_eq_true, decide_eq_true_eq, Nat.reduceAdd] at hn
  unfold spelt
  have hc : (p + 1 < s.size ∧ scd s p = bt s (p + 1)) ∨ (s.size ≤ p + 1 ∧ scd s p = 0) := by
    unfold scd
    by_cases q : p + 1 < s.size
    · exact .inl ⟨q, if_pos q⟩
    · exact .inr ⟨by omega, if_neg q⟩
  generalize scd s p = c1 at *
  generalize bt s p = b0 at *
  generalize bt s (p + 1) = b1 at *
  generalize bt s (p + 2) = b2 at *
  generalize bt s (p + 3) = b3 at *
  have key : ∀ m, 2 ≤ m → m ≤ 4 → 128 ≤ b0 → 128 ≤ b1 → (3 ≤ m → 128 ≤ b2) → (4 ≤ m → 128 ≤ b3) → ∀ k, k < m → 128 ≤ bt s (p + k) := by
    intro m h2 h4 x0 x1 x2 x3 k hk
    rw [hK k (by omega)]
    repeat' split
    all_goals omega
  clear hK e0 e1 e2 e3
  split at hn
  · rename_i h0
    rw [if_pos (by omega)] at hD
    exact .inr (.inl ⟨hn, hD, by omega⟩)
  rw [if_neg (by omega)] at hD
  split at hn
  · rename_i h1
    rw [if_pos (by omega), if_pos (by omega)] at hD
    subst hn hD
    exact .inr (.inr ⟨by omega, rfl, by simp only; omega, fun e => by simp only at e; omega, by omega, key _ (by omega) (by omega) (by omega) (by omega) (by omega) (by omega)⟩)
  rename_i n2
  split at hn
  · rename_i h1
    clear n2
    rw [if_neg (by omega), if_pos (by omega), if_pos (by omega)] at hD
    subst hn hD
    exact .inr (.inr ⟨by omega, rfl, by simp only; omega, fun e => by simp only at e; omega, by omega, key _ (by omega) (by omega) (by omega) (by omega) (by omega) (by omega)⟩)
  rename_i m1
  split at hn
  · rename_i h1
    clear n2 m1
    rw [if_neg (by omega), if_pos (by omega), if_pos (by omega)] at hD
    subst hn hD
    exact .inr (.inr ⟨by omega, rfl, by simp only; omega, fun e => by simp only at e; omega, by omega, key _ (by omega) (by omega) (by omega) (by omega) (by omega) (by omega)⟩)
  rename_i m2
  split at hn
  · rename_i h1
    clear n2 m1 m2
    rw [if_neg (by omega), if_pos (by omega), if_pos (by omega)] at hD
    subst hn hD
    exact .inr (.inr ⟨by omega, rfl, by simp only; omega, fun e => by simp only at e; omega, by omega, key _ (by omega) (by omega) (by omega) (by omega) (by omega) (by omega)⟩)
  rename_i m3
  split at hn
  · rename_i h1
    clear n2 m1 m2 m3
    rw [if_neg (by omega), if_neg (by omega), if_pos (by omega), if_pos (by omega)] at hD
    subst hn hD
    exact .inr (.inr ⟨by omega, rfl, by simp only; omega, fun e => by simp only at e; omega, by omega, key _ (by omega) (by omega) (by omega) (by omega) (by omega) (by omega)⟩)
  rename_i k1
  split at hn
  · rename_i h1
    clear n2 m1 m2 m3 k1
    rw [if_neg (by omega), if_neg (by omega), if_pos (by omega), if_pos (by omega)] at hD
    subst hn hD
    exact .inr (.inr ⟨by omega, rfl, by simp only; omega, fun e => by simp only at e; omega, by omega, key _ (by omega) (by omega) (by omega) (by omega) (by omega) (by omega)⟩)
  rename_i k2
  split at hn
  · rename_i h1
    clear n2 m1 m2 m3 k1 k2
    rw [if_neg (by omega), if_neg (by omega), if_pos (by omega), if_pos (by omega)] at hD
    subst hn hD
    exact .inr (.inr ⟨by omega, rfl, by simp only; omega, fun e => by simp only at e; omega, by omega, key _ (by omega) (by omega) (by omega) (by omega) (by omega) (by omega)⟩)
  rename_i k3
  refine .inl ⟨hn, ?_⟩
  clear hn key
  have hE : D = (65533, 1) := by
    split at hD
    · split at hD
      · exfalso; clear m1 m2 m3 k1 k2 k3 hD; omega
      · exact hD
    split at hD
    · split at hD
      · exfalso; clear n2 k1 k2 k3 hD; omega
      · exact hD
    split at hD
    · split at hD
      · exfalso; clear n2 m1 m2 m3 hD; omega
      · exact hD
    exact hD
  subst hE
  exact ⟨rfl, rfl, by clear n2 m1 m3 k1 k2 k3 hD; omega, by clear n2 m1 m2 m3 k1 k2 k3 hD; omega⟩
end Go.Proofs.YtjjepgkcgbbmhacDoor

