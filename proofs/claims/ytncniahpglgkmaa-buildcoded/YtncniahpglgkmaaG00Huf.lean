import Init
namespace Go.Proofs.Ytncniahpglgkmaa

/-! The coin collector's theorem (package-merge), in numbers: leaves w by rising weight; a row is leaves and packages merged. -/

def Rise (l : List Nat) : Prop := l.Pairwise (· ≤ ·)

/-- First and second, third and fourth ... -/
def pks : List Nat → List Nat
  | a :: b :: r => (a + b) :: pks r
  | _ => []

/-- Leaves and packages by rising weight, leaves first. -/
def mrg : List Nat → List Nat → List Nat
  | [], p => p
  | a :: w, [] => a :: w
  | a :: w, b :: p => if a ≤ b then a :: mrg w (b :: p) else b :: mrg (a :: w) p
termination_by w p => w.length + p.length

/-- How many leaves are among the first m. -/
def cnt : List Nat → List Nat → Nat → Nat
  | _, _, 0 => 0
  | [], _, _ => 0
  | _ :: w, [], m + 1 => cnt w [] m + 1
  | a :: w, b :: p, m + 1 => if a ≤ b then cnt w (b :: p) m + 1 else cnt (a :: w) p m
termination_by w p _ => w.length + p.length

theorem mrg_nil (w : List Nat) : mrg w [] = w := by cases w <;> simp [mrg]

theorem mrg_len (w p : List Nat) : (mrg w p).length = w.length + p.length := by
  induction w, p using mrg.induct with
  | case1 p => simp [mrg]
  | case2 a w => simp [mrg]
  | case3 a w b p h ih => simp only [mrg, if_pos h, List.length_cons] at ih ⊢; omega
  | case4 a w b p h ih => simp only [mrg, if_neg h, List.length_cons] at ih ⊢; omega

theorem mrg_mem {w p : List Nat} {x : Nat} (h : x ∈ mrg w p) : x ∈ w ∨ x ∈ p := by
  induction w, p using mrg.induct with
  | case1 p => simp [mrg] at h; exact .inr h
  | case2 a w => simp [mrg] at h; exact .inl (by simpa using h)
  | case3 a w b p c ih =>
    simp only [mrg, if_pos c] at h
    rcases List.mem_cons.1 h with rfl | h
    · simp
    · rcases ih h with h | h
      · exact .inl (by simp [h])
      · exact .inr h
  | case4 a w b p c ih =>
    simp only [mrg, if_neg c] at h
    rcases List.mem_cons.1 h with rfl | h
    · simp
    · rcases ih h with h | h
      · exact .inl h
      · exact .inr (by simp [h])

theorem mrg_rise {w p : List Nat} (hw : Rise w) (hp : Rise p) : Rise (mrg w p) := by
  unfold Rise at *
  induction w, p using mrg.induct with
  | case1 p => simpa [mrg] using hp
  | case2 a w => simpa [mrg] using hw
  | case3 a w b p c ih =>
    simp only [mrg, if_pos c]
    obtain ⟨h1, h2⟩ := List.pairwise_cons.1 hw
    refine List.pairwise_cons.2 ⟨fun x hx => ?_, ih h2 hp⟩
    rcases mrg_mem hx with h | h
    · exact h1 x h
    · rcases List.mem_cons.1 h with rfl | h
      · exact c
      · exact Nat.le_trans c ((List.pairwise_cons.1 hp).1 x h)
  | case4 a w b p c ih =>
    simp only [mrg, if_neg c]
    obtain ⟨h1, h2⟩ := List.pairwise_cons.1 hp
    refine List.pairwise_cons.2 ⟨fun x hx => ?_, ih hw h2⟩
    rcases mrg_mem hx with h | h
    · rcases List.mem_cons.1 h with rfl | h
      · omega
      · have := (List.pairwise_cons.1 hw).1 x h; omega
    · exact h1 x h

theorem pks_mem {l : List Nat} {x : Nat} (h : x ∈ pks l) : ∃ a b, a ∈ l ∧ b ∈ l ∧ x = a + b := by
  induction l using pks.induct with
  | case1 a b r ih =>
    simp only [pks] at h
    rcases List.mem_cons.1 h with rfl | h
    · exact ⟨a, b, by simp, by simp, rfl⟩
    · obtain ⟨c, d, h1, h2, rfl⟩ := ih h
      exact ⟨c, d, by simp [h1], by simp [h2], rfl⟩
  | case2 l hl => simp [pks] at h

theorem pks_rise {l : List Nat} (h : Rise l) : Rise (pks l) := by
  unfold Rise at *
  induction l using pks.induct with
  | case1 a b r ih =>
    simp only [pks]
    obtain ⟨h1, h2⟩ := List.pairwise_cons.1 h
    obtain ⟨h3, h4⟩ := List.pairwise_cons.1 h2
    refine List.pairwise_cons.2 ⟨fun x hx => ?_, ih h4⟩
    obtain ⟨c, d, hc, hd, rfl⟩ := pks_mem hx
    have := h1 c (by simp [hc])
    have := h3 d hd
    omega
  | case2 l hl => simp [pks]

theorem pks_len (l : List Nat) : (pks l).length = l.length / 2 := by
  induction l using pks.induct with
  | case1 a b r ih => simp only [pks, List.length_cons, ih]; omega
  | case2 l hl =>
    match l, hl with
    | [], _ => rfl
    | [a], _ => simp [pks]
    | a :: b :: r, hl => exact absurd rfl (hl a b r)

theorem pks_sum (l : List Nat) (p : Nat) (h : 2 * p ≤ l.length) : ((pks l).take p).sum = (l.take (2 * p)).sum := by
  induction l using pks.induct generalizing p with
  | case1 a b r ih =>
    cases p with
    | zero => rfl
    | succ p =>
      simp only [List.length_cons] at h
      have := ih p (by omega)
      rw [show 2 * (p + 1) = (2 * p + 1) + 1 by omega]
      simp only [pks, List.take_succ_cons, List.sum_cons, this]
      omega
  | case2 l hl =>
    match l, hl with
    | [], _ => simp [pks]
    | [a], _ => simp at h; obtain rfl : p = 0 := by omega
                rfl
    | a :: b :: r, hl => exact absurd rfl (hl a b r)

/-- A light one ahead. -/
theorem take_light {x : Nat} {p : List Nat} (hx : ∀ y ∈ p, x ≤ y) {m : Nat} (h : m < p.length) : x + (p.take m).sum ≤ (p.take (m + 1)).sum := by
  rw [List.take_succ_eq_append_getElem h, List.sum_append]
  have := hx p[m] (List.getElem_mem h)
  simp
  omega

theorem take_le {l : List Nat} {m n : Nat} (h : m ≤ n) : (l.take m).sum ≤ (l.take n).sum := by
  have : l.take n = l.take m ++ (l.take n).drop m := by
    have e := (List.take_append_drop m (l.take n)).symm
    rwa [List.take_take, Nat.min_eq_left h] at e
  rw [this, List.sum_append]
  omega

/-- The first m of a merged row weigh no more than any so many of both. -/
theorem mrg_least {w p : List Nat} (hw : Rise w) (hp : Rise p) {m c q : Nat} (hm : c + q = m) (hc : c ≤ w.length) (hq : q ≤ p.length) : ((mrg w p).take m).sum ≤ (w.take c).sum + (p.take q).sum := by
  induction w, p using mrg.induct generalizing m c q with
  | case1 p =>
    simp at hc; subst hc
    simp only [mrg]
    obtain rfl : q = m := by omega
    simp
  | case2 a w =>
    simp at hq; subst hq
    simp only [mrg]
    obtain rfl : c = m := by omega
    simp
  | case3 a w b p h ih =>
    obtain ⟨h1, h2⟩ := List.pairwise_cons.1 hw
    cases m with
    | zero => simp
    | succ m =>
      simp only [mrg, if_pos h, List.take_succ_cons, List.sum_cons]
      cases c with
      | succ c =>
        have := ih h2 hp (m := m) (c := c) (q := q) (by omega) (by simp at hc; omega) hq
        simp only [List.take_succ_cons, List.sum_cons]
        omega
      | zero =>
        obtain rfl : q = m + 1 := by omega
        have := ih h2 hp (m := m) (c := 0) (q := m) (by omega) (by omega) (by omega)
        have h3 := take_light (x := a) (p := b :: p) (fun y hy => by
          rcases List.mem_cons.1 hy with rfl | hy
          · exact h
          · exact Nat.le_trans h ((List.pairwise_cons.1 hp).1 y hy)) (m := m) (by omega)
        simp only [List.take_zero, List.sum_nil] at this ⊢
        omega
  | case4 a w b p h ih =>
    obtain ⟨h1, h2⟩ := List.pairwise_cons.1 hp
    cases m with
    | zero => simp
    | succ m =>
      simp only [mrg, if_neg h, List.take_succ_cons, List.sum_cons]
      cases q with
      | succ q =>
        have := ih hw h2 (m := m) (c := c) (q := q) (by omega) hc (by simp at hq; omega)
        simp only [List.take_succ_cons, List.sum_cons]
        omega
      | zero =>
        obtain rfl : c = m + 1 := by omega
        have := ih hw h2 (m := m) (c := m) (q := 0) (by omega) (by omega) (by omega)
        have h3 := take_light (x := b) (p := a :: w) (fun y hy => by
          rcases List.mem_cons.1 hy with rfl | hy
          · omega
          · have := (List.pairwise_cons.1 hw).1 y hy; omega) (m := m) (by omega)
        simp only [List.take_zero, List.sum_nil] at this ⊢
        omega

/-- The rows: none, the leaves, leaves and packages ... -/
def row (w : List Nat) : Nat → List Nat
  | 0 => []
  | k + 1 => mrg w (pks (row w k))

theorem row_rise {w : List Nat} (hw : Rise w) (k : Nat) : Rise (row w k) := by
  induction k with
  | zero => exact List.Pairwise.nil
  | succ k ih => exact mrg_rise hw (pks_rise ih)

theorem row_len (w : List Nat) (k : Nat) : (row w (k + 1)).length = w.length + (row w k).length / 2 := by
  simp only [row, mrg_len, pks_len]

/-- What counts at the levels are worth, the top level first, in parts of the lowest level's. -/
def wth : List Nat → Nat
  | [] => 0
  | c :: cs => c * 2 ^ cs.length + wth cs

def lvc (w : List Nat) (cs : List Nat) : Nat := (cs.map fun c => (w.take c).sum).sum

theorem pkg_bound {w : List Nat} (hw : Rise w) (cs : List Nat) (hc : ∀ c ∈ cs, c ≤ w.length) (m : Nat) (hm : m * 2 ^ cs.length ≤ 2 * wth cs) : m ≤ (row w cs.length).length ∧ ((row w cs.length).take m).sum ≤ lvc w cs := by
  induction cs generalizing m with
  | nil =>
    simp [wth] at hm
    subst hm
    exact ⟨Nat.zero_le _, by simp⟩
  | cons c cs ih =>
    have hcw := hc c (by simp)
    simp only [wth, List.length_cons, Nat.pow_succ] at hm
    -- m * 2^len ≤ c * 2^len + wth cs
    have h1 : m * 2 ^ cs.length ≤ c * 2 ^ cs.length + wth cs := by
      rw [← Nat.mul_assoc] at hm
      omega
    obtain ⟨q, hq⟩ : ∃ q, q = m - c := ⟨_, rfl⟩
    have h2 : q * 2 ^ cs.length ≤ wth cs := by
      rw [hq, Nat.sub_mul]
      omega
    obtain ⟨i1, i2⟩ := ih (fun x hx => hc x (by simp [hx])) (2 * q) (by rw [Nat.mul_assoc]; omega)
    have hl := row_len w cs.length
    have hml : m ≤ (row w (cs.length + 1)).length := by omega
    refine ⟨hml, ?_⟩
    obtain ⟨d, hd⟩ : ∃ d, d = m - q := ⟨_, rfl⟩
    have h3 := mrg_least hw (pks_rise (row_rise hw cs.length)) (m := m) (c := d) (q := q) (by omega) (by omega) (by rw [pks_len]; omega)
    rw [pks_sum _ _ i1] at h3
    have h4 : (w.take d).sum ≤ (w.take c).sum := take_le (by omega)
    show ((mrg w (pks (row w cs.length))).take m).sum ≤ lvc w (c :: cs)
    have h5 : lvc w (c :: cs) = (w.take c).sum + lvc w cs := by simp [lvc]
    omega

/-- Any so many of a rising list weigh no less than its first ones. -/
theorem sub_least {v w : List Nat} (h : v.Sublist w) (hw : Rise w) : (w.take v.length).sum ≤ v.sum := by
  induction h with
  | slnil => simp
  | @cons v w x h ih =>
    obtain ⟨h1, h2⟩ := List.pairwise_cons.1 hw
    have h3 := ih h2
    have hl := h.length_le
    cases hv : v.length with
    | zero => simp
    | succ n =>
      rw [hv] at h3 hl
      have := take_light h1 (m := n) (by omega)
      simp only [List.take_succ_cons, List.sum_cons]
      omega
  | @cons_cons v w x h ih =>
    have h3 := ih (List.pairwise_cons.1 hw).2
    simp only [List.length_cons, List.take_succ_cons, List.sum_cons]
    omega

/-- How many of the lengths are at least j. -/
def lev (P : List (Nat × Nat)) (j : Nat) : List Nat := (P.filter fun x => decide (j ≤ x.2)).map (·.1)

def levs (P : List (Nat × Nat)) : Nat → Nat → List Nat
  | _, 0 => []
  | j, k + 1 => (lev P j).length :: levs P (j + 1) k

theorem levs_len (P : List (Nat × Nat)) (j k : Nat) : (levs P j k).length = k := by induction k generalizing j with
  | zero => rfl
  | succ k ih => simp [levs, ih]

theorem levs_le (P : List (Nat × Nat)) (j k : Nat) : ∀ c ∈ levs P j k, c ≤ P.length := by
  induction k generalizing j with
  | zero => simp [levs]
  | succ k ih =>
    intro c hc
    simp only [levs] at hc
    rcases List.mem_cons.1 hc with rfl | hc
    · unfold lev; rw [List.length_map]; exact List.length_filter_le _ _
    · exact ih _ c hc

theorem lev_sub (P : List (Nat × Nat)) (j : Nat) : (lev P j).Sublist (P.map (·.1)) := List.Sublist.map _ List.filter_sublist

/-- The price, level by level. -/
def lps (P : List (Nat × Nat)) : Nat → Nat → Nat
  | _, 0 => 0
  | j, k + 1 => (lev P j).sum + lps P (j + 1) k

theorem lvc_le {P : List (Nat × Nat)} (hw : Rise (P.map (·.1))) (j k : Nat) : lvc (P.map (·.1)) (levs P j k) ≤ lps P j k := by
  induction k generalizing j with
  | zero => simp [levs, lvc, lps]
  | succ k ih =>
    have h1 := sub_least (lev_sub P j) hw
    have h2 := ih (j + 1)
    simp only [levs, lvc, lps, List.map_cons, List.sum_cons] at h2 ⊢
    omega

theorem lev_cons (x : Nat × Nat) (P : List (Nat × Nat)) (j : Nat) : lev (x :: P) j = if j ≤ x.2 then x.1 :: lev P j else lev P j := by
  unfold lev
  by_cases h : j ≤ x.2
  · rw [List.filter_cons_of_pos (by simpa using h), if_pos h]; rfl
  · rw [List.filter_cons_of_neg (by simpa using h), if_neg h]

theorem lps_cons (x : Nat × Nat) (P : List (Nat × Nat)) (j k : Nat) : lps (x :: P) j k = x.1 * (min (x.2 + 1 - j) k) + lps P j k := by
  induction k generalizing j with
  | zero => simp [lps]
  | succ k ih =>
    simp only [lps, lev_cons, ih]
    by_cases h : j ≤ x.2
    · rw [if_pos h, List.sum_cons, show min (x.2 + 1 - j) (k + 1) = min (x.2 + 1 - (j + 1)) k + 1 by omega, Nat.mul_add]
      omega
    · rw [if_neg h, show min (x.2 + 1 - j) (k + 1) = 0 by omega, show min (x.2 + 1 - (j + 1)) k = 0 by omega]
      omega

theorem wth_cons (x : Nat × Nat) (P : List (Nat × Nat)) (j k : Nat) (hj : 1 ≤ j) (hx : x.2 + 1 ≤ j + k) : wth (levs (x :: P) j k) + (if j ≤ x.2 then 2 ^ (j + k - 1 - x.2) else 2 ^ k) = 2 ^ k + wth (levs P j k) := by
  induction k generalizing j with
  | zero =>
    simp only [levs, wth]
    by_cases h : j ≤ x.2
    · omega
    · rw [if_neg h]
  | succ k ih =>
    simp only [levs, wth, levs_len, lev_cons]
    have := ih (j + 1) (by omega) (by omega)
    by_cases h : j ≤ x.2
    · rw [if_pos h, if_pos h, List.length_cons, Nat.add_mul, Nat.pow_succ]
      by_cases h2 : j + 1 ≤ x.2
      · rw [if_pos h2] at this
        rw [show j + (k + 1) - 1 - x.2 = j + 1 + k - 1 - x.2 by omega]
        omega
      · rw [if_neg h2] at this
        have : x.2 = j := by omega
        rw [show j + (k + 1) - 1 - x.2 = k by omega]
        omega
    · rw [if_neg h, if_neg h]
      rw [if_neg (by omega)] at this
      rw [Nat.pow_succ]
      omega

theorem kraft_wth (L : Nat) (P : List (Nat × Nat)) (h : ∀ x ∈ P, x.2 ≤ L) : wth (levs P 1 L) + (P.map fun x => 2 ^ (L - x.2)).sum = P.length * 2 ^ L := by
  induction P with
  | nil =>
    have : ∀ j k, wth (levs ([] : List (Nat × Nat)) j k) = 0 := fun j k => by
      induction k generalizing j with
      | zero => rfl
      | succ k ih => simp [levs, wth, lev, ih]
    simp [this]
  | cons x P ih =>
    have h1 := ih fun y hy => h y (by simp [hy])
    have h2 := wth_cons x P 1 L (Nat.le_refl _) (by have := h x (by simp); omega)
    simp only [List.map_cons, List.sum_cons, List.length_cons, Nat.add_mul]
    have hx := h x (by simp)
    by_cases c : 1 ≤ x.2
    · rw [if_pos c, show 1 + L - 1 - x.2 = L - x.2 by omega] at h2
      omega
    · rw [if_neg c] at h2
      have : x.2 = 0 := by omega
      rw [this]
      simp only [Nat.sub_zero]
      omega

theorem lps_prc (L : Nat) (P : List (Nat × Nat)) (h : ∀ x ∈ P, x.2 ≤ L) : lps P 1 L = (P.map fun x => x.1 * x.2).sum := by
  induction P with
  | nil =>
    have : ∀ j k, lps ([] : List (Nat × Nat)) j k = 0 := fun j k => by
      induction k generalizing j with
      | zero => rfl
      | succ k ih => simp [lps, lev, ih]
    simp [this]
  | cons x P ih =>
    rw [lps_cons, ih fun y hy => h y (by simp [hy])]
    have := h x (by simp)
    rw [show min (x.2 + 1 - 1) L = x.2 by omega]
    simp

/-- THE COIN COLLECTOR'S THEOREM: no list that keeps Kraft's rule within the limit costs less than the first 2u-2 of the last row. -/
theorem coins (L : Nat) (P : List (Nat × Nat)) (hw : Rise (P.map (·.1))) (h : ∀ x ∈ P, x.2 ≤ L) (hk : (P.map fun x => 2 ^ (L - x.2)).sum ≤ 2 ^ L) :
    ((row (P.map (·.1)) L).take (2 * (P.length - 1))).sum ≤ (P.map fun x => x.1 * x.2).sum := by
  have h1 := kraft_wth L P h
  have h2 := pkg_bound hw (levs P 1 L) (fun c hc => by rw [List.length_map]; exact levs_le P 1 L c hc) (2 * (P.length - 1)) (by
    rw [levs_len, Nat.mul_assoc]
    apply Nat.mul_le_mul_left
    rw [Nat.sub_mul]
    omega)
  rw [levs_len] at h2
  exact Nat.le_trans h2.2 (Nat.le_trans (lvc_le hw 1 L) (Nat.le_of_eq (lps_prc L P h)))
end Go.Proofs.Ytncniahpglgkmaa

namespace Go.Proofs.Ytncniahpglgkmaa

/-! Huffman's theorem, in numbers: rows of pairs (weight, length); Kraft's sum in parts of 2^-N. -/

def prc (P : List (Nat × Nat)) : Nat := (P.map fun x => x.1 * x.2).sum
def krf (N : Nat) (P : List (Nat × Nat)) : Nat := (P.map fun x => 2 ^ (N - x.2)).sum

theorem prc_cons (x : Nat × Nat) (P : List (Nat × Nat)) : prc (x :: P) = x.1 * x.2 + prc P := by simp [prc]
theorem krf_cons (N : Nat) (x : Nat × Nat) (P : List (Nat × Nat)) : krf N (x :: P) = 2 ^ (N - x.2) + krf N P := by simp [krf]

theorem perm_sum {α : Type} (f : α → Nat) {P Q : List α} (h : P.Perm Q) : (P.map f).sum = (Q.map f).sum := by
  induction h with
  | nil => rfl
  | cons _ _ ih => simp [ih]
  | swap _ _ _ => simp; omega
  | trans _ _ i1 i2 => rw [i1, i2]

theorem prc_perm {P Q : List (Nat × Nat)} (h : P.Perm Q) : prc P = prc Q := perm_sum _ h
theorem krf_perm (N : Nat) {P Q : List (Nat × Nat)} (h : P.Perm Q) : krf N P = krf N Q := perm_sum _ h

theorem swap_le {a b x y : Nat} (h1 : a ≤ b) (h2 : x ≤ y) : a * y + b * x ≤ a * x + b * y := by
  obtain ⟨d, rfl⟩ := Nat.exists_eq_add_of_le h1
  obtain ⟨e, rfl⟩ := Nat.exists_eq_add_of_le h2
  simp only [Nat.add_mul, Nat.mul_add]
  omega

/-- The lightest may have the longest length. -/
theorem longest (N a : Nat) (la : Nat) (R : List (Nat × Nat)) (h : ∀ x ∈ R, a ≤ x.1) :
    ∃ l R', R'.map (·.1) = R.map (·.1) ∧ krf N ((a, l) :: R') = krf N ((a, la) :: R) ∧ prc ((a, l) :: R') ≤ prc ((a, la) :: R) ∧ (∀ x ∈ R', x.2 ≤ l) ∧ (∀ M, la ≤ M → (∀ x ∈ R, x.2 ≤ M) → l ≤ M) := by
  induction R with
  | nil => exact ⟨la, [], rfl, rfl, Nat.le_refl _, by simp, fun M h _ => h⟩
  | cons x R ih =>
    obtain ⟨l, R', h1, h2, h3, h4, h5⟩ := ih fun y hy => h y (List.mem_cons_of_mem _ hy)
    simp only [krf_cons, prc_cons] at h2 h3
    by_cases c : x.2 ≤ l
    · refine ⟨l, x :: R', by simp [h1], ?_, ?_, ?_, fun M hM hR => h5 M hM fun y hy => hR y (List.mem_cons_of_mem _ hy)⟩
      · simp only [krf_cons]; omega
      · simp only [prc_cons]; omega
      · intro y hy
        rcases List.mem_cons.1 hy with rfl | hy
        · exact c
        · exact h4 y hy
    · have hx := h x List.mem_cons_self
      have hs := swap_le hx (show l ≤ x.2 by omega)
      refine ⟨x.2, (x.1, l) :: R', by simp [h1], ?_, ?_, ?_, fun M hM hR => hR x List.mem_cons_self⟩
      · simp only [krf_cons]; omega
      · simp only [prc_cons]; omega
      · intro y hy
        rcases List.mem_cons.1 hy with rfl | hy
        · show l ≤ x.2; omega
        · have := h4 y hy; omega

/-- Where no length is above m, Kraft's sum is a multiple of 2^(N-m). -/
theorem krf_dvd (N m : Nat) (P : List (Nat × Nat)) (h : ∀ x ∈ P, x.2 ≤ m) : 2 ^ (N - m) ∣ krf N P := by
  induction P with
  | nil => exact ⟨0, rfl⟩
  | cons x P ih =>
    rw [krf_cons]
    exact Nat.dvd_add (Nat.pow_dvd_pow 2 (by have := h x List.mem_cons_self; omega)) (ih fun y hy => h y (List.mem_cons_of_mem _ hy))

theorem krf_pos (N : Nat) (x : Nat × Nat) (P : List (Nat × Nat)) : 0 < krf N (x :: P) := by
  rw [krf_cons]
  have := Nat.two_pow_pos (N - x.2)
  omega

/-- The two lightest joined: no dearer than any list that keeps Kraft's rule. -/
theorem join_step (N a b la lb : Nat) (R : List (Nat × Nat)) (hab : a ≤ b) (hb : ∀ x ∈ R, b ≤ x.1) (hN : la ≤ N ∧ lb ≤ N ∧ ∀ x ∈ R, x.2 ≤ N) (hk : krf N ((a, la) :: (b, lb) :: R) ≤ 2 ^ N) :
    ∃ l R', R'.map (·.1) = R.map (·.1) ∧ krf N ((a + b, l) :: R') ≤ 2 ^ N ∧ prc ((a + b, l) :: R') + (a + b) ≤ prc ((a, la) :: (b, lb) :: R) ∧ l ≤ N ∧ ∀ x ∈ R', x.2 ≤ N := by
  obtain ⟨l1, R1, h1, h2, h3, h4, h5⟩ := longest N a la ((b, lb) :: R) (by
    intro x hx
    rcases List.mem_cons.1 hx with rfl | hx
    · exact hab
    · exact Nat.le_trans hab (hb x hx))
  have hl1 : l1 ≤ N := h5 N hN.1 (by
    intro x hx
    rcases List.mem_cons.1 hx with rfl | hx
    · exact hN.2.1
    · exact hN.2.2 x hx)
  cases R1 with
  | nil => simp at h1
  | cons y R2 =>
    simp only [List.map_cons, List.cons.injEq] at h1
    obtain ⟨hy, hR2⟩ := h1
    have hR2' : ∀ x ∈ R2, b ≤ x.1 := fun x hx => by
      have : x.1 ∈ R.map (·.1) := by rw [← hR2]; exact List.mem_map_of_mem hx
      obtain ⟨z, hz, e⟩ := List.mem_map.1 this
      rw [← e]; exact hb z hz
    obtain ⟨l2, R3, g1, g2, g3, g4, g5⟩ := longest N b y.2 R2 hR2'
    have hl2 : l2 ≤ l1 := g5 l1 (h4 y List.mem_cons_self) fun x hx => h4 x (List.mem_cons_of_mem _ hx)
    have hyb : y = (b, y.2) := by rw [← hy]
    rw [hyb] at h2 h3
    simp only [krf_cons, prc_cons] at h2 h3 g2 g3 hk ⊢
    have hdv : 2 ^ (N - l2) ∣ (2 ^ (N - l2) + krf N R3) := Nat.dvd_add (Nat.dvd_refl _) (krf_dvd N l2 R3 g4)
    have hdn : 2 ^ (N - l2) ∣ 2 ^ N := Nat.pow_dvd_pow 2 (by omega)
    have hp1 := Nat.two_pow_pos (N - l1)
    have hp2 := Nat.two_pow_pos (N - l2)
    have hlt : 2 ^ (N - l2) + krf N R3 < 2 ^ N := by omega
    have hroom : 2 ^ (N - l2) + (2 ^ (N - l2) + krf N R3) ≤ 2 ^ N := by
      obtain ⟨p, hp⟩ := hdv
      obtain ⟨q, hq⟩ := hdn
      rw [hp, hq] at hlt ⊢
      have : p < q := Nat.lt_of_mul_lt_mul_left hlt
      calc 2 ^ (N - l2) + 2 ^ (N - l2) * p = 2 ^ (N - l2) * (p + 1) := by rw [Nat.mul_add]; omega
        _ ≤ 2 ^ (N - l2) * q := Nat.mul_le_mul_left _ this
    have hl20 : 0 < l2 := by
      rcases Nat.eq_zero_or_pos l2 with e | e
      · subst e; simp at hlt; omega
      · exact e
    refine ⟨l2 - 1, R3, by rw [g1, hR2], ?_, ?_, by omega, fun x hx => by have := g4 x hx; omega⟩
    · have e : 2 ^ (N - (l2 - 1)) = 2 * 2 ^ (N - l2) := by rw [show N - (l2 - 1) = (N - l2) + 1 by omega, Nat.pow_succ, Nat.mul_comm]
      simp only [e]
      omega
    · have e1 : (a + b) * (l2 - 1) + (a + b) = (a + b) * l2 := by
        obtain ⟨k, rfl⟩ : ∃ k, l2 = k + 1 := ⟨l2 - 1, by omega⟩
        simp [Nat.mul_add]
      have e2 : a * l2 ≤ a * l1 := Nat.mul_le_mul_left _ hl2
      have e3 : (a + b) * l2 = a * l2 + b * l2 := Nat.add_mul ..
      omega

/-- A row's price by joining the two lightest again and again. -/
inductive Huff : List Nat → Nat → Prop
  | one (w : Nat) : Huff [w] 0
  | join {ws : List Nat} (a b : Nat) (rest : List Nat) (c : Nat) : ws.Perm (a :: b :: rest) → a ≤ b → (∀ x ∈ rest, b ≤ x) → Huff ((a + b) :: rest) c → Huff ws (c + (a + b))

theorem perm_pick {α : Type} (f : α → Nat) {P : List α} {a : Nat} {r : List Nat} (h : (P.map f).Perm (a :: r)) : ∃ x Q, P.Perm (x :: Q) ∧ f x = a ∧ (Q.map f).Perm r := by
  have hm : a ∈ P.map f := h.symm.subset List.mem_cons_self
  obtain ⟨x, hx, rfl⟩ := List.mem_map.1 hm
  obtain ⟨s, t, rfl⟩ := List.append_of_mem hx
  refine ⟨x, s ++ t, List.perm_middle, rfl, ?_⟩
  have : ((s ++ x :: t).map f).Perm (f x :: (s ++ t).map f) := by simp
  exact (List.perm_cons _).1 (this.symm.trans h)

/-- HUFFMAN'S THEOREM: no list that keeps Kraft's rule costs less. -/
theorem huffman {ws : List Nat} {c : Nat} (h : Huff ws c) (N : Nat) : ∀ P : List (Nat × Nat), (P.map (·.1)).Perm ws → (∀ x ∈ P, x.2 ≤ N) → krf N P ≤ 2 ^ N → c ≤ prc P := by
  induction h with
  | one w => intro P _ _ _; exact Nat.zero_le _
  | join a b rest c hp hab hr _ ih =>
    intro P hP hN hk
    obtain ⟨x, Q, q1, q2, q3⟩ := perm_pick (fun x : Nat × Nat => x.1) (hP.trans hp)
    obtain ⟨y, Q2, p1, p2, p3⟩ := perm_pick (fun x : Nat × Nat => x.1) q3
    have hperm : P.Perm (x :: y :: Q2) := q1.trans ((List.perm_cons x).2 p1)
    rw [krf_perm N hperm] at hk
    rw [prc_perm hperm]
    have hx : x = (a, x.2) := by rw [← q2]
    have hy : y = (b, y.2) := by rw [← p2]
    have hN' : ∀ z ∈ x :: y :: Q2, z.2 ≤ N := fun z hz => hN z (hperm.symm.subset hz)
    rw [hx, hy] at hk ⊢
    obtain ⟨l, R', r1, r2, r3, r4, r5⟩ := join_step N a b x.2 y.2 Q2 hab (fun z hz => hr z.1 (p3.subset (List.mem_map_of_mem hz))) ⟨hN' x (by simp), hN' y (by simp), fun z hz => hN' z (by simp [hz])⟩ hk
    have := ih ((a + b, l) :: R') (by simp only [List.map_cons]; rw [r1]; exact (List.perm_cons _).2 p3) (by
      intro z hz
      rcases List.mem_cons.1 hz with rfl | hz
      · exact r4
      · exact r5 z hz) r2
    omega
end Go.Proofs.Ytncniahpglgkmaa

