import Derived.Test.YtdpfjfkknimlfaaDoorGTk
namespace Go.Proofs.YtdpfjfkknimlfaaDoor
set_option maxRecDepth 20000
set_option linter.unusedVariables false

/-- A token's class, how many bytes it says. -/
def kls (t : Tk) : Nat := if t.1 = 0 then t.2.2.toNat / 64 else 4 + (if 8 < t.1 then 2 else 0) + (if 256 < t.2.1 then 1 else 0)
def say (t : Tk) : Int := if t.1 = 0 then 1 else t.1

def sayS (R : List Tk) : Int := (R.map say).sum
def kn (R : List Tk) (k : Nat) : Int := ((R.countP fun t => kls t = k : Nat) : Int)

theorem sayS_app (A B : List Tk) : sayS (A ++ B) = sayS A + sayS B := by simp [sayS]
theorem kn_app (A B : List Tk) (k : Nat) : kn (A ++ B) k = kn A k + kn B k := by simp [kn, List.countP_append]

theorem kn_in (A : List Tk) (k : Nat) : 0 ≤ kn A k ∧ kn A k ≤ (A.length : Int) := by
  unfold kn
  have := List.countP_le_length (p := fun t => decide (kls t = k)) (l := A)
  omega

/-- A number without its sign. -/
def mg (d : Int) : Int := max d (-d)

/-- How far two tables of shares are apart. -/
def apt (B U : List Tk) (k : Nat) : Int := ((List.range k).map fun i => mg (128 * kn B i - (B.length : Int) * kn U i)).sum

theorem apt_succ (B U : List Tk) (k : Nat) : apt B U (k + 1) = apt B U k + mg (128 * kn B k - (B.length : Int) * kn U k) := by
  simp [apt, List.range_succ]

/-- Is the block closed ahead of the unit? -/
def clo (B U : List Tk) : Bool := decide (8192 ≤ B.length) || decide (65535 < sayS B + sayS U) || (decide (U.length = 128) && decide (128 * (B.length : Int) ≤ 2 * apt B U 8))

def seg (R : List Tk) (f a : Nat) : List Tk := (R.drop f).take (a - f)

theorem seg_len {R : List Tk} {f a : Nat} (h : f ≤ a) (ha : a ≤ R.length) : (seg R f a).length = a - f := by simp [seg]; omega

theorem seg_app {R : List Tk} {f a b : Nat} (h : f ≤ a) (h2 : a ≤ b) : seg R f b = seg R f a ++ seg R a b := by
  unfold seg
  have e : b - f = (a - f) + (b - a) := by omega
  rw [e, List.take_add, List.drop_drop]
  have : f + (a - f) = a := by omega
  rw [this]

/-- The blocks that are closed, and where the last one begins, behind k units. -/
def spF (R : List Tk) : Nat → List Nat × Nat
  | 0 => ([], 0)
  | k + 1 => if clo (seg R (spF R k).2 (128 * (k + 1))) (seg R (128 * (k + 1)) (min (128 * (k + 1) + 128) R.length)) then ((spF R k).1 ++ [128 * (k + 1) - (spF R k).2], 128 * (k + 1)) else spF R k

/-- How many units there are behind the first. -/
def spK (R : List Tk) : Nat := (R.length - 1) / 128

def spl (R : List Tk) : List Nat := (spF R (spK R)).1 ++ [R.length - (spF R (spK R)).2]

theorem say_le {t : Tk} (h : Snd t) : 1 ≤ say t ∧ say t ≤ 258 := by
  unfold Snd at h
  unfold say
  by_cases e : t.1 = 0
  · rw [if_pos e]; omega
  · rw [if_neg e] at h ⊢; omega

theorem sayS_le : ∀ A : List Tk, (∀ t ∈ A, Snd t) → 0 ≤ sayS A ∧ sayS A ≤ 258 * (A.length : Int)
  | [], _ => by simp [sayS]
  | t :: A, h => by
    have h1 := say_le (h t (by simp))
    have h2 := sayS_le A fun u hu => h u (by simp [hu])
    have e : sayS (t :: A) = say t + sayS A := by simp [sayS]
    rw [e]
    simp only [List.length_cons]
    omega

theorem seg_mem {R : List Tk} {f a : Nat} {t : Tk} (h : t ∈ seg R f a) : t ∈ R := List.mem_of_mem_drop (List.mem_of_mem_take h)

/-- What is to be known of the blocks. -/
def Fine (R : List Tk) (l : List Nat) (i : Nat) : Prop := 0 < l.getD i 0 ∧ l.getD i 0 ≤ 8192 ∧ (l.take i).sum + l.getD i 0 ≤ R.length ∧ sayS (seg R (l.take i).sum ((l.take i).sum + l.getD i 0)) ≤ 65535

structure Spi (R : List Tk) (l : List Nat) (f k : Nat) : Prop where
  even : f % 128 = 0
  le : f ≤ 128 * k
  few : min (128 * (k + 1)) R.length - f ≤ 8192
  say : sayS (seg R f (min (128 * (k + 1)) R.length)) ≤ 65535
  sum : l.sum = f
  fine : ∀ i, i < l.length → Fine R l i ∧ l.getD i 0 % 128 = 0

theorem fine_snoc {R : List Tk} {l : List Nat} {n i : Nat} (hi : i < l.length) (h : Fine R l i) : Fine R (l ++ [n]) i ∧ (l ++ [n]).getD i 0 = l.getD i 0 := by
  have e1 : (l ++ [n]).getD i 0 = l.getD i 0 := by simp [List.getD_eq_getElem?_getD, List.getElem?_append_left hi]
  have e2 : (l ++ [n]).take i = l.take i := List.take_append_of_le_length (by omega)
  refine ⟨?_, e1⟩
  unfold Fine
  rw [e1, e2]
  exact h

theorem fine_last {R : List Tk} {l : List Nat} {n : Nat} (h0 : 0 < n) (h1 : n ≤ 8192) (h2 : l.sum + n ≤ R.length) (h3 : sayS (seg R l.sum (l.sum + n)) ≤ 65535) : Fine R (l ++ [n]) l.length ∧ (l ++ [n]).getD l.length 0 = n := by
  have e1 : (l ++ [n]).getD l.length 0 = n := by simp [List.getD_eq_getElem?_getD]
  have e2 : (l ++ [n]).take l.length = l := by simp
  refine ⟨?_, e1⟩
  unfold Fine
  rw [e1, e2]
  exact ⟨h0, h1, h2, h3⟩

theorem spi_all (R : List Tk) (hs : ∀ t ∈ R, Snd t) (hR : 0 < R.length) : ∀ k, 128 * k < R.length → Spi R (spF R k).1 (spF R k).2 k := by
  intro k
  induction k with
  | zero =>
    intro _
    have hl : (seg R 0 (min (128 * (0 + 1)) R.length)).length ≤ 128 := by rw [seg_len (Nat.zero_le _) (Nat.min_le_right _ _)]; omega
    have := sayS_le (seg R 0 (min (128 * (0 + 1)) R.length)) fun t ht => hs t (seg_mem ht)
    exact ⟨rfl, Nat.le_refl _, by show _ - 0 ≤ _; omega, by show sayS (seg R 0 _) ≤ _; omega, rfl, fun i hi => absurd hi (Nat.not_lt_zero _)⟩
  | succ k ih =>
    intro hk
    obtain ⟨e0, e1, e2, e3, e4, e5⟩ := ih (by omega)
    have hmin : min (128 * (k + 1)) R.length = 128 * (k + 1) := by omega
    rw [hmin] at e2 e3
    have hto : min (128 * (k + 1 + 1)) R.length = min (128 * (k + 1) + 128) R.length := by congr 1
    obtain ⟨to, hto2⟩ : ∃ to, min (128 * (k + 1) + 128) R.length = to := ⟨_, rfl⟩
    have hU : (seg R (128 * (k + 1)) to).length = to - 128 * (k + 1) := seg_len (by omega) (by omega)
    have hUs := sayS_le (seg R (128 * (k + 1)) to) fun t ht => hs t (seg_mem ht)
    obtain ⟨l, f, hp⟩ : ∃ l f, spF R k = (l, f) := ⟨_, _, rfl⟩
    rw [hp] at e0 e1 e2 e3 e4 e5
    simp only at e0 e1 e2 e3 e4 e5
    have hB : (seg R f (128 * (k + 1))).length = 128 * (k + 1) - f := seg_len (by omega) (by omega)
    unfold spF
    rw [hp, hto2]
    simp only
    by_cases hc : clo (seg R f (128 * (k + 1))) (seg R (128 * (k + 1)) to) = true
    · rw [if_pos hc]
      refine ⟨by omega, Nat.le_refl _, by rw [hto, hto2]; show to - 128 * (k + 1) ≤ _; omega, by rw [hto, hto2]; show sayS (seg R (128 * (k + 1)) to) ≤ _; omega, ?_, fun i hi => ?_⟩
      · show (l ++ [128 * (k + 1) - f]).sum = _
        simp only [List.sum_append, List.sum_cons, List.sum_nil]
        omega
      · simp only [List.length_append, List.length_cons, List.length_nil] at hi
        by_cases h : i < l.length
        · have := fine_snoc (n := 128 * (k + 1) - f) h (e5 i h).1
          exact ⟨this.1, by show (l ++ [128 * (k + 1) - f]).getD i 0 % 128 = 0; rw [this.2]; exact (e5 i h).2⟩
        · obtain rfl : i = l.length := by omega
          have := fine_last (R := R) (l := l) (n := 128 * (k + 1) - f) (by omega) e2 (by omega) (by rw [e4, show f + (128 * (k + 1) - f) = 128 * (k + 1) by omega]; exact e3)
          exact ⟨this.1, by show (l ++ [128 * (k + 1) - f]).getD l.length 0 % 128 = 0; rw [this.2]; omega⟩
    · rw [if_neg hc]
      have hc' : ¬ 8192 ≤ 128 * (k + 1) - f ∧ ¬ 65535 < sayS (seg R f (128 * (k + 1))) + sayS (seg R (128 * (k + 1)) to) := by
        unfold clo at hc
        rw [hB] at hc
        simp at hc
        exact ⟨by have := hc.1.1; omega, by have := hc.1.2; omega⟩
      refine ⟨e0, by show f ≤ _; omega, by rw [hto, hto2]; show to - f ≤ _; omega, ?_, e4, e5⟩
      rw [hto, hto2]
      show sayS (seg R f to) ≤ _
      rw [seg_app (a := 128 * (k + 1)) (by omega) (by omega), sayS_app]
      omega

theorem spl_fine (R : List Tk) (hs : ∀ t ∈ R, Snd t) (hR : 0 < R.length) : (spl R).sum = R.length ∧ ∀ i, i < (spl R).length → Fine R (spl R) i ∧ (i + 1 < (spl R).length → (spl R).getD i 0 % 128 = 0) := by
  have hk : 128 * spK R < R.length := by unfold spK; omega
  have hn : min (128 * (spK R + 1)) R.length = R.length := by unfold spK; omega
  have hp := spi_all R hs hR (spK R) hk
  unfold spl
  obtain ⟨l, hl⟩ : ∃ l, (spF R (spK R)).1 = l := ⟨_, rfl⟩
  obtain ⟨f, hf⟩ : ∃ f, (spF R (spK R)).2 = f := ⟨_, rfl⟩
  rw [hl, hf] at hp ⊢
  obtain ⟨e0, e1, e2, e3, e4, e5⟩ := hp
  rw [hn] at e2 e3
  refine ⟨by simp only [List.sum_append, List.sum_cons, List.sum_nil]; omega, fun i hi => ?_⟩
  simp only [List.length_append, List.length_cons, List.length_nil] at hi ⊢
  by_cases h : i < l.length
  · have := fine_snoc (n := R.length - f) h (e5 i h).1
    exact ⟨this.1, fun _ => by rw [this.2]; exact (e5 i h).2⟩
  · obtain rfl : i = l.length := by omega
    have := fine_last (R := R) (l := l) (n := R.length - f) (by omega) e2 (by omega) (by rw [e4, show f + (R.length - f) = R.length by omega]; exact e3)
    exact ⟨this.1, fun h => by omega⟩
end Go.Proofs.YtdpfjfkknimlfaaDoor

