import Derived.Test.YthjgabncifghaaaRows
namespace Go.Proofs.Ythjgabncifghaaa

def mv (r : Nat) : Nat := if r % 2 = 1 then (r / 2) ^^^ 3988292384 else r / 2

def mvs : Nat → Nat → Nat
  | 0, r => r
  | n + 1, r => mvs n (mv r)

def prodK : Nat → Nat → Nat → Nat
  | 0, _, _ => 0
  | n + 1, a, b => (if 2147483648 ≤ a then b else 0) ^^^ prodK n (a * 2 % 4294967296) (mv b)

def prod (a b : Nat) : Nat := prodK 32 a b

theorem xor_lt {a b : Nat} (n : Nat) (ha : a < 2 ^ n) (hb : b < 2 ^ n) : a ^^^ b < 2 ^ n := Nat.xor_lt_two_pow ha hb

theorem mv_lt {r : Nat} (h : r < 4294967296) : mv r < 4294967296 := by
  unfold mv
  split
  · exact xor_lt 32 (by omega) (by omega)
  · omega

theorem mvs_lt {n r : Nat} (h : r < 4294967296) : mvs n r < 4294967296 := by
  induction n generalizing r with
  | zero => exact h
  | succ n ih => exact ih (mv_lt h)

theorem xor_half (a b : Nat) : (a ^^^ b) / 2 = (a / 2) ^^^ (b / 2) := by
  apply Nat.eq_of_testBit_eq
  intro i
  simp [Nat.testBit_div_two]

theorem xor_odd (a b : Nat) : (a ^^^ b) % 2 = (a % 2 + b % 2) % 2 := by
  have h := Nat.testBit_xor a b 0
  simp only [Nat.testBit_zero] at h
  have h1 : a % 2 = 0 ∨ a % 2 = 1 := by omega
  have h2 : b % 2 = 0 ∨ b % 2 = 1 := by omega
  have h3 : (a ^^^ b) % 2 = 0 ∨ (a ^^^ b) % 2 = 1 := by omega
  rcases h1 with h1 | h1 <;> rcases h2 with h2 | h2 <;> rcases h3 with h3 | h3 <;> simp [h1, h2, h3] at h ⊢

theorem mv_xor (a b : Nat) : mv (a ^^^ b) = mv a ^^^ mv b := by
  unfold mv
  rw [xor_odd, xor_half]
  have h1 : a % 2 = 0 ∨ a % 2 = 1 := by omega
  have h2 : b % 2 = 0 ∨ b % 2 = 1 := by omega
  rcases h1 with h1 | h1 <;> rcases h2 with h2 | h2 <;> simp [h1, h2]
  · rw [Nat.xor_assoc]
  · rw [Nat.xor_assoc, Nat.xor_comm (b / 2), ← Nat.xor_assoc]
  · rw [Nat.xor_assoc, Nat.xor_comm 3988292384, Nat.xor_assoc, Nat.xor_self, Nat.xor_zero]

theorem mvs_xor (n a b : Nat) : mvs n (a ^^^ b) = mvs n a ^^^ mvs n b := by
  induction n generalizing a b with
  | zero => rfl
  | succ n ih => show mvs n (mv (a ^^^ b)) = _; rw [mv_xor, ih]; rfl

theorem mvs_add (n m a : Nat) : mvs (n + m) a = mvs m (mvs n a) := by
  induction n generalizing a with
  | zero => rw [Nat.zero_add]; rfl
  | succ n ih => rw [Nat.succ_add]; show mvs (n + m) (mv a) = _; rw [ih]; rfl

theorem mvs_one (n a : Nat) : mvs n (mv a) = mv (mvs n a) := by
  have h := mvs_add 1 n a
  rw [Nat.add_comm, mvs_add] at h
  exact h.symm

theorem mvs_zero (n : Nat) : mvs n 0 = 0 := by
  induction n with
  | zero => rfl
  | succ n ih => exact ih

theorem top_xor {a b : Nat} (ha : a < 4294967296) (hb : b < 4294967296) : (2147483648 ≤ a ^^^ b) ↔ ((2147483648 ≤ a) ↔ ¬ (2147483648 ≤ b)) := by
  have e : ∀ x, x < 4294967296 → (2147483648 ≤ x ↔ x.testBit 31 = true) := by
    intro x hx
    rw [Nat.testBit_eq_decide_div_mod_eq, decide_eq_true_iff]
    omega
  rw [e _ (xor_lt 32 ha hb), e _ ha, e _ hb, Nat.testBit_xor]
  cases a.testBit 31 <;> cases b.testBit 31 <;> simp

theorem twice_xor {a b : Nat} : (a ^^^ b) * 2 % 4294967296 = (a * 2 % 4294967296) ^^^ (b * 2 % 4294967296) := by
  apply Nat.eq_of_testBit_eq
  intro i
  have e : ∀ x : Nat, (x * 2 % 4294967296).testBit i = (decide (i < 32) && (decide (1 ≤ i) && x.testBit (i - 1))) := by
    intro x
    rw [show (4294967296 : Nat) = 2 ^ 32 from rfl, Nat.testBit_mod_two_pow, show x * 2 = 2 ^ 1 * x by omega, Nat.testBit_two_pow_mul]
  rw [Nat.testBit_xor, e, e, e, Nat.testBit_xor]
  cases decide (i < 32) <;> cases decide (1 ≤ i) <;> simp

theorem xor4 (a b c d : Nat) : (a ^^^ b) ^^^ (c ^^^ d) = (a ^^^ c) ^^^ (b ^^^ d) := by
  rw [Nat.xor_assoc, Nat.xor_assoc, ← Nat.xor_assoc b, Nat.xor_comm b c, Nat.xor_assoc]

theorem prodK_xor_right (n a b c : Nat) : prodK n a (b ^^^ c) = prodK n a b ^^^ prodK n a c := by
  induction n generalizing a b c with
  | zero => simp [prodK]
  | succ n ih =>
    simp only [prodK, mv_xor, ih]
    split
    · exact xor4 _ _ _ _
    · simp only [Nat.zero_xor]

theorem prodK_xor_left (n : Nat) {a b c : Nat} (ha : a < 4294967296) (hb : b < 4294967296) : prodK n (a ^^^ b) c = prodK n a c ^^^ prodK n b c := by
  induction n generalizing a b c with
  | zero => simp [prodK]
  | succ n ih =>
    simp only [prodK, twice_xor, top_xor ha hb]
    rw [ih (Nat.mod_lt _ (by decide)) (Nat.mod_lt _ (by decide)), xor4]
    congr 1
    by_cases h1 : 2147483648 ≤ a <;> by_cases h2 : 2147483648 ≤ b <;> simp [h1, h2]

theorem prodK_lt (n : Nat) {a b : Nat} (hb : b < 4294967296) : prodK n a b < 4294967296 := by
  induction n generalizing a b with
  | zero => show 0 < _; decide
  | succ n ih =>
    refine xor_lt 32 ?_ (ih (mv_lt hb))
    split
    · exact hb
    · decide

theorem prodK_zero_left (n b : Nat) : prodK n 0 b = 0 := by
  induction n generalizing b with
  | zero => rfl
  | succ n ih => simp [prodK, ih]

theorem prodK_zero_right (n a : Nat) : prodK n a 0 = 0 := by
  induction n generalizing a with
  | zero => rfl
  | succ n ih => simp only [prodK, show mv 0 = 0 from rfl, ih]; simp

theorem split_top {n b : Nat} (h : b < 2 ^ (n + 1)) (h2 : ¬ b < 2 ^ n) : 2 ^ n ^^^ (b - 2 ^ n) = b ∧ b - 2 ^ n < 2 ^ n := by
  have h3 : b - 2 ^ n < 2 ^ n := by rw [Nat.pow_succ] at h; omega
  refine ⟨?_, h3⟩
  have e : b = 2 ^ n + (b - 2 ^ n) := by omega
  generalize b - 2 ^ n = c at *
  subst e
  apply Nat.eq_of_testBit_eq
  intro i
  rw [Nat.testBit_xor, Nat.testBit_two_pow]
  by_cases hi : i = n
  · subst hi
    rw [Nat.testBit_two_pow_add_eq, Nat.testBit_lt_two_pow h3]; simp
  · by_cases hl : i < n
    · rw [Nat.testBit_two_pow_add_gt hl]; simp [show ¬ n = i by omega]
    · have hg : 2 ^ n + c < 2 ^ i := Nat.lt_of_lt_of_le h (Nat.pow_le_pow_right (by decide) (by omega))
      rw [Nat.testBit_lt_two_pow hg, Nat.testBit_lt_two_pow (Nat.lt_of_le_of_lt (by omega) hg)]; simp [show ¬ n = i by omega]

/-- Two functions that go over xor and agree on the single bits agree. -/
theorem by_bits (f g : Nat → Nat) (n : Nat) (h0 : f 0 = g 0) (hf : ∀ a b, a < 2 ^ n → b < 2 ^ n → f (a ^^^ b) = f a ^^^ f b) (hg : ∀ a b, a < 2 ^ n → b < 2 ^ n → g (a ^^^ b) = g a ^^^ g b)
    (hb : ∀ i, i < n → f (2 ^ i) = g (2 ^ i)) : ∀ b, b < 2 ^ n → f b = g b := by
  have key : ∀ m, m ≤ n → ∀ b, b < 2 ^ m → f b = g b := by
    intro m
    induction m with
    | zero => intro _ b hb; obtain rfl : b = 0 := by simpa using hb
              exact h0
    | succ m ih =>
      intro hm b hlt
      by_cases h : b < 2 ^ m
      · exact ih (by omega) b h
      · obtain ⟨e, h3⟩ := split_top hlt h
        have p1 : 2 ^ m < 2 ^ n := Nat.pow_lt_pow_right (by decide) (by omega)
        have p2 : b - 2 ^ m < 2 ^ n := Nat.lt_trans h3 p1
        rw [← e, hf _ _ p1 p2, hg _ _ p1 p2, hb m (by omega), ih (by omega) _ h3]
  exact key n (Nat.le_refl _)

set_option maxRecDepth 100000 in
theorem prod_mv_bits : ∀ i, i < 32 → ∀ j, j < 32 → prodK 32 (mv (2 ^ i)) (2 ^ j) = mv (prodK 32 (2 ^ i) (2 ^ j)) := by decide +kernel

set_option maxRecDepth 100000 in
theorem prod_comm_bits : ∀ i, i < 32 → ∀ j, j < 32 → prodK 32 (2 ^ i) (2 ^ j) = prodK 32 (2 ^ j) (2 ^ i) := by decide +kernel

theorem prod_mv {a b : Nat} (ha : a < 4294967296) (hb : b < 4294967296) : prod (mv a) b = mv (prod a b) := by
  unfold prod
  refine by_bits (fun a => prodK 32 (mv a) b) (fun a => mv (prodK 32 a b)) 32 ?_ ?_ ?_ ?_ a ha
  · show prodK 32 (mv 0) b = mv (prodK 32 0 b); rw [prodK_zero_left, show mv 0 = 0 from rfl, prodK_zero_left]
  · intro x y hx hy; show prodK 32 (mv (x ^^^ y)) b = _; rw [mv_xor, prodK_xor_left _ (mv_lt hx) (mv_lt hy)]
  · intro x y hx hy; show mv (prodK 32 (x ^^^ y) b) = _; rw [prodK_xor_left _ hx hy, mv_xor]
  · intro i hi
    refine by_bits (fun b => prodK 32 (mv (2 ^ i)) b) (fun b => mv (prodK 32 (2 ^ i) b)) 32 ?_ ?_ ?_ (fun j hj => prod_mv_bits i hi j hj) b hb
    · show prodK 32 _ 0 = mv (prodK 32 _ 0); rw [prodK_zero_right, prodK_zero_right]; rfl
    · intro x y _ _; exact prodK_xor_right _ _ _ _
    · intro x y _ _; show mv (prodK 32 _ (x ^^^ y)) = _; rw [prodK_xor_right, mv_xor]

theorem prod_comm {a b : Nat} (ha : a < 4294967296) (hb : b < 4294967296) : prod a b = prod b a := by
  unfold prod
  refine by_bits (fun a => prodK 32 a b) (fun a => prodK 32 b a) 32 ?_ ?_ ?_ ?_ a ha
  · show prodK 32 0 b = prodK 32 b 0; rw [prodK_zero_left, prodK_zero_right]
  · intro x y hx hy; exact prodK_xor_left _ hx hy
  · intro x y hx hy; exact prodK_xor_right _ _ _ _
  · intro i hi
    refine by_bits (fun b => prodK 32 (2 ^ i) b) (fun b => prodK 32 b (2 ^ i)) 32 ?_ ?_ ?_ (fun j hj => prod_comm_bits i hi j hj) b hb
    · show prodK 32 _ 0 = prodK 32 0 _; rw [prodK_zero_left, prodK_zero_right]
    · intro x y _ _; exact prodK_xor_right _ _ _ _
    · intro x y hx hy; exact prodK_xor_left _ hx hy

theorem prod_lt {a b : Nat} (hb : b < 4294967296) : prod a b < 4294967296 := prodK_lt _ hb

theorem prod_mvs (n : Nat) {a b : Nat} (ha : a < 4294967296) (hb : b < 4294967296) : prod (mvs n a) b = mvs n (prod a b) := by
  induction n generalizing a with
  | zero => rfl
  | succ n ih => show prod (mvs n (mv a)) b = _; rw [ih (mv_lt ha), prod_mv ha hb]; rfl

/-- A register that, as a factor, is k moves. -/
def Acts (m k : Nat) : Prop := m < 4294967296 ∧ ∀ b, b < 4294967296 → prod m b = mvs k b

theorem Acts.mul {m k m' k' : Nat} (h : Acts m k) (h' : Acts m' k') : Acts (prod m m') (k + k') := by
  refine ⟨prod_lt h'.1, fun b hb => ?_⟩
  rw [h.2 _ h'.1, prod_mvs _ h'.1 hb, h'.2 _ hb, ← mvs_add, Nat.add_comm]

theorem acts_one : Acts 2147483648 0 := by
  refine ⟨by decide, fun b hb => ?_⟩
  refine by_bits (fun b => prod 2147483648 b) (fun b => mvs 0 b) 32 (by decide +kernel) ?_ ?_ ?_ b hb
  · intro x y _ _; exact prodK_xor_right _ _ _ _
  · intro x y _ _; exact mvs_xor _ _ _
  · show ∀ i, i < 32 → prod 2147483648 (2 ^ i) = mvs 0 (2 ^ i); decide +kernel

theorem acts_byte : Acts 8388608 8 := by
  refine ⟨by decide, fun b hb => ?_⟩
  refine by_bits (fun b => prod 8388608 b) (fun b => mvs 8 b) 32 (by decide +kernel) ?_ ?_ ?_ b hb
  · intro x y _ _; exact prodK_xor_right _ _ _ _
  · intro x y _ _; exact mvs_xor _ _ _
  · show ∀ i, i < 32 → prod 8388608 (2 ^ i) = mvs 8 (2 ^ i); decide +kernel

/-- Join: the document's words. -/
def joinN (a b n : Nat) : Nat := mvs (8 * n) a ^^^ b

theorem joinN_chain (a b c n m : Nat) : joinN (joinN a b n) c m = joinN a (joinN b c m) (n + m) := by
  unfold joinN
  rw [mvs_xor, ← mvs_add, Nat.mul_add, Nat.xor_assoc]
end Go.Proofs.Ythjgabncifghaaa
