import Init
namespace Go.Proofs.Ytgengoffkoonfab

/-! Huffman's theorem, in numbers: rows of pairs (weight, length); Kraft's sum in parts of 2^-N. -/

def prc (P : List (Nat × Nat)) : Nat := (P.map fun x => x.1 * x.2).sum
def krf (N : Nat) (P : List (Nat × Nat)) : Nat := (P.map fun x => 2 ^ (N - x.2)).sum

theorem prc_cons (x : Nat × Nat) (P : List (Nat × Nat)) : prc (x :: P) = x.1 * x.2 + prc P := by simp [prc]
theorem krf_cons (N : Nat) (x : Nat × Nat) (P : List (Nat × Nat)) : krf N (x :: P) = 2 ^ (N - x.2) + krf N P := by simp [krf]

theorem perm_sum {α : Type} (f : α → Nat) {P Q : List α} (h : P.Perm Q) : (P.map f).sum = (Q.map f).sum := by
  induction h with
  | nil => rfl
  | cons _ _ ih => simp [ih]
  | swap _ _ _ => simp; omega
  | trans _ _ i1 i2 => rw [i1, i2]

theorem prc_perm {P Q : List (Nat × Nat)} (h : P.Perm Q) : prc P = prc Q := perm_sum _ h
theorem krf_perm (N : Nat) {P Q : List (Nat × Nat)} (h : P.Perm Q) : krf N P = krf N Q := perm_sum _ h

theorem swap_le {a b x y : Nat} (h1 : a ≤ b) (h2 : x ≤ y) : a * y + b * x ≤ a * x + b * y := by
  obtain ⟨d, rfl⟩ := Nat.exists_eq_add_of_le h1
  obtain ⟨e, rfl⟩ := Nat.exists_eq_add_of_le h2
  simp only [Nat.add_mul, Nat.mul_add]
  omega

/-- The lightest may have the longest length. -/
theorem longest (N a : Nat) (la : Nat) (R : List (Nat × Nat)) (h : ∀ x ∈ R, a ≤ x.1) :
    ∃ l R', R'.map (·.1) = R.map (·.1) ∧ krf N ((a, l) :: R') = krf N ((a, la) :: R) ∧ prc ((a, l) :: R') ≤ prc ((a, la) :: R) ∧ (∀ x ∈ R', x.2 ≤ l) ∧ (∀ M, la ≤ M → (∀ x ∈ R, x.2 ≤ M) → l ≤ M) := by
  induction R with
  | nil => exact ⟨la, [], rfl, rfl, Nat.le_refl _, by simp, fun M h _ => h⟩
  | cons x R ih =>
    obtain ⟨l, R', h1, h2, h3, h4, h5⟩ := ih fun y hy => h y (List.mem_cons_of_mem _ hy)
    simp only [krf_cons, prc_cons] at h2 h3
    by_cases c : x.2 ≤ l
    · refine ⟨l, x :: R', by simp [h1], ?_, ?_, ?_, fun M hM hR => h5 M hM fun y hy => hR y (List.mem_cons_of_mem _ hy)⟩
      · simp only [krf_cons]; omega
      · simp only [prc_cons]; omega
      · intro y hy
        rcases List.mem_cons.1 hy with rfl | hy
        · exact c
        · exact h4 y hy
    · have hx := h x List.mem_cons_self
      have hs := swap_le hx (show l ≤ x.2 by omega)
      refine ⟨x.2, (x.1, l) :: R', by simp [h1], ?_, ?_, ?_, fun M hM hR => hR x List.mem_cons_self⟩
      · simp only [krf_cons]; omega
      · simp only [prc_cons]; omega
      · intro y hy
        rcases List.mem_cons.1 hy with rfl | hy
        · show l ≤ x.2; omega
        · have := h4 y hy; omega

/-- Where no length is above m, Kraft's sum is a multiple of 2^(N-m). -/
theorem krf_dvd (N m : Nat) (P : List (Nat × Nat)) (h : ∀ x ∈ P, x.2 ≤ m) : 2 ^ (N - m) ∣ krf N P := by
  induction P with
  | nil => exact ⟨0, rfl⟩
  | cons x P ih =>
    rw [krf_cons]
    exact Nat.dvd_add (Nat.pow_dvd_pow 2 (by have := h x List.mem_cons_self; omega)) (ih fun y hy => h y (List.mem_cons_of_mem _ hy))

theorem krf_pos (N : Nat) (x : Nat × Nat) (P : List (Nat × Nat)) : 0 < krf N (x :: P) := by
  rw [krf_cons]
  have := Nat.two_pow_pos (N - x.2)
  omega

/-- The two lightest joined: no dearer than any list that keeps Kraft's rule. -/
theorem join_step (N a b la lb : Nat) (R : List (Nat × Nat)) (hab : a ≤ b) (hb : ∀ x ∈ R, b ≤ x.1) (hN : la ≤ N ∧ lb ≤ N ∧ ∀ x ∈ R, x.2 ≤ N) (hk : krf N ((a, la) :: (b, lb) :: R) ≤ 2 ^ N) :
    ∃ l R', R'.map (·.1) = R.map (·.1) ∧ krf N ((a + b, l) :: R') ≤ 2 ^ N ∧ prc ((a + b, l) :: R') + (a + b) ≤ prc ((a, la) :: (b, lb) :: R) ∧ l ≤ N ∧ ∀ x ∈ R', x.2 ≤ N := by
  obtain ⟨l1, R1, h1, h2, h3, h4, h5⟩ := longest N a la ((b, lb) :: R) (by
    intro x hx
    rcases List.mem_cons.1 hx with rfl | hx
    · exact hab
    · exact Nat.le_trans hab (hb x hx))
  have hl1 : l1 ≤ N := h5 N hN.1 (by
    intro x hx
    rcases List.mem_cons.1 hx with rfl | hx
    · exact hN.2.1
    · exact hN.2.2 x hx)
  cases R1 with
  | nil => simp at h1
  | cons y R2 =>
    simp only [List.map_cons, List.cons.injEq] at h1
    obtain ⟨hy, hR2⟩ := h1
    have hR2' : ∀ x ∈ R2, b ≤ x.1 := fun x hx => by
      have : x.1 ∈ R.map (·.1) := by rw [← hR2]; exact List.mem_map_of_mem hx
      obtain ⟨z, hz, e⟩ := List.mem_map.1 this
      rw [← e]; exact hb z hz
    obtain ⟨l2, R3, g1, g2, g3, g4, g5⟩ := longest N b y.2 R2 hR2'
    have hl2 : l2 ≤ l1 := g5 l1 (h4 y List.mem_cons_self) fun x hx => h4 x (List.mem_cons_of_mem _ hx)
    have hyb : y = (b, y.2) := by rw [← hy]
    rw [hyb] at h2 h3
    simp only [krf_cons, prc_cons] at h2 h3 g2 g3 hk ⊢
    have hdv : 2 ^ (N - l2) ∣ (2 ^ (N - l2) + krf N R3) := Nat.dvd_add (Nat.dvd_refl _) (krf_dvd N l2 R3 g4)
    have hdn : 2 ^ (N - l2) ∣ 2 ^ N := Nat.pow_dvd_pow 2 (by omega)
    have hp1 := Nat.two_pow_pos (N - l1)
    have hp2 := Nat.two_pow_pos (N - l2)
    have hlt : 2 ^ (N - l2) + krf N R3 < 2 ^ N := by omega
    have hroom : 2 ^ (N - l2) + (2 ^ (N - l2) + krf N R3) ≤ 2 ^ N := by
      obtain ⟨p, hp⟩ := hdv
      obtain ⟨q, hq⟩ := hdn
      rw [hp, hq] at hlt ⊢
      have : p < q := Nat.lt_of_mul_lt_mul_left hlt
      calc 2 ^ (N - l2) + 2 ^ (N - l2) * p = 2 ^ (N - l2) * (p + 1) := by rw [Nat.mul_add]; omega
        _ ≤ 2 ^ (N - l2) * q := Nat.mul_le_mul_left _ this
    have hl20 : 0 < l2 := by
      rcases Nat.eq_zero_or_pos l2 with e | e
      · subst e; simp at hlt; omega
      · exact e
    refine ⟨l2 - 1, R3, by rw [g1, hR2], ?_, ?_, by omega, fun x hx => by have := g4 x hx; omega⟩
    · have e : 2 ^ (N - (l2 - 1)) = 2 * 2 ^ (N - l2) := by rw [show N - (l2 - 1) = (N - l2) + 1 by omega, Nat.pow_succ, Nat.mul_comm]
      simp only [e]
      omega
    · have e1 : (a + b) * (l2 - 1) + (a + b) = (a + b) * l2 := by
        obtain ⟨k, rfl⟩ : ∃ k, l2 = k + 1 := ⟨l2 - 1, by omega⟩
        simp [Nat.mul_add]
      have e2 : a * l2 ≤ a * l1 := Nat.mul_le_mul_left _ hl2
      have e3 : (a + b) * l2 = a * l2 + b * l2 := Nat.add_mul ..
      omega

/-- A row's price by joining the two lightest again and again. -/
inductive Huff : List Nat → Nat → Prop
  | one (w : Nat) : Huff [w] 0
  | join {ws : List Nat} (a b : Nat) (rest : List Nat) (c : Nat) : ws.Perm (a :: b :: rest) → a ≤ b → (∀ x ∈ rest, b ≤ x) → Huff ((a + b) :: rest) c → Huff ws (c + (a + b))

theorem perm_pick {α : Type} (f : α → Nat) {P : List α} {a : Nat} {r : List Nat} (h : (P.map f).Perm (a :: r)) : ∃ x Q, P.Perm (x :: Q) ∧ f x = a ∧ (Q.map f).Perm r := by
  have hm : a ∈ P.map f := h.symm.subset List.mem_cons_self
  obtain ⟨x, hx, rfl⟩ := List.mem_map.1 hm
  obtain ⟨s, t, rfl⟩ := List.append_of_mem hx
  refine ⟨x, s ++ t, List.perm_middle, rfl, ?_⟩
  have : ((s ++ x :: t).map f).Perm (f x :: (s ++ t).map f) := by simp
  exact (List.perm_cons _).1 (this.symm.trans h)

/-- HUFFMAN'S THEOREM: no list that keeps Kraft's rule costs less. -/
theorem huffman {ws : List Nat} {c : Nat} (h : Huff ws c) (N : Nat) : ∀ P : List (Nat × Nat), (P.map (·.1)).Perm ws → (∀ x ∈ P, x.2 ≤ N) → krf N P ≤ 2 ^ N → c ≤ prc P := by
  induction h with
  | one w => intro P _ _ _; exact Nat.zero_le _
  | join a b rest c hp hab hr _ ih =>
    intro P hP hN hk
    obtain ⟨x, Q, q1, q2, q3⟩ := perm_pick (fun x : Nat × Nat => x.1) (hP.trans hp)
    obtain ⟨y, Q2, p1, p2, p3⟩ := perm_pick (fun x : Nat × Nat => x.1) q3
    have hperm : P.Perm (x :: y :: Q2) := q1.trans ((List.perm_cons x).2 p1)
    rw [krf_perm N hperm] at hk
    rw [prc_perm hperm]
    have hx : x = (a, x.2) := by rw [← q2]
    have hy : y = (b, y.2) := by rw [← p2]
    have hN' : ∀ z ∈ x :: y :: Q2, z.2 ≤ N := fun z hz => hN z (hperm.symm.subset hz)
    rw [hx, hy] at hk ⊢
    obtain ⟨l, R', r1, r2, r3, r4, r5⟩ := join_step N a b x.2 y.2 Q2 hab (fun z hz => hr z.1 (p3.subset (List.mem_map_of_mem hz))) ⟨hN' x (by simp), hN' y (by simp), fun z hz => hN' z (by simp [hz])⟩ hk
    have := ih ((a + b, l) :: R') (by simp only [List.map_cons]; rw [r1]; exact (List.perm_cons _).2 p3) (by
      intro z hz
      rcases List.mem_cons.1 hz with rfl | hz
      · exact r4
      · exact r5 z hz) r2
    omega
end Go.Proofs.Ytgengoffkoonfab
