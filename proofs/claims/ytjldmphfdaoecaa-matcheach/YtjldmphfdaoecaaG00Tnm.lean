import Derived.WalkKit
namespace Go.Proofs.Ytjldmphfdaoecaa
set_option linter.unusedVariables false

abbrev Tk := Int × Int × Int
def tk0 : Tk := (0, 0, 0)

def Snd (t : Tk) : Prop := if t.1 = 0 then t.2.1 = 0 else 3 ≤ t.1 ∧ t.1 ≤ 258 ∧ 1 ≤ t.2.1 ∧ t.2.1 ≤ 32768 ∧ t.2.2 = 0
instance (t : Tk) : Decidable (Snd t) := by unfold Snd; infer_instance

def sndb (t : Tk) : Bool := decide (Snd t)

def says (t : Tk) : Nat := max 1 t.1.toNat

def cpy (x : List Int) (d : Nat) : Nat → List Int
  | 0 => x
  | n + 1 => cpy x d n ++ [(cpy x d n).getD ((cpy x d n).length - d) 0]

theorem cpy_len (x : List Int) (d n : Nat) : (cpy x d n).length = x.length + n := by
  induction n with
  | zero => rfl
  | succ n ih => simp [cpy, ih]; omega

def ptk (x : List Int) (t : Tk) : List Int := if t.1 = 0 then x ++ [t.2.2] else cpy x t.2.1.toNat t.1.toNat

def stE (lim : Int) (x : List Int) (t : Tk) : Int := if Snd t then if (x.length : Int) < t.2.1 then 91 else if lim < (x.length : Int) + (says t : Nat) then 92 else 0 else 90

def exE (lim : Int) : List Int → List Tk → Int
  | _, [] => 0
  | x, t :: r => if stE lim x t = 0 then exE lim (ptk x t) r else stE lim x t

def exT : List Int → List Tk → List Int
  | x, [] => x
  | x, t :: r => exT (ptk x t) r

theorem ext_snoc : ∀ (R : List Tk) (x : List Int) (t : Tk), exT x (R ++ [t]) = ptk (exT x R) t
  | [], x, t => rfl
  | q :: R, x, t => by simp only [List.cons_append, exT]; exact ext_snoc R _ t

theorem ext_app : ∀ (R S : List Tk) (x : List Int), exT x (R ++ S) = exT (exT x R) S
  | [], S, x => rfl
  | q :: R, S, x => by simp only [List.cons_append, exT]; exact ext_app R S _

theorem exE_app (lim : Int) : ∀ (R S : List Tk) (x : List Int), exE lim x R = 0 → exE lim x (R ++ S) = exE lim (exT x R) S
  | [], S, x, _ => rfl
  | q :: R, S, x, h => by
    simp only [exE] at h
    by_cases h1 : stE lim x q = 0
    · rw [if_pos h1] at h
      simp only [List.cons_append, exE, exT]
      rw [if_pos h1]
      exact exE_app lim R S _ h
    · rw [if_neg h1] at h; exact absurd h h1

theorem exE_front (lim : Int) : ∀ (R S : List Tk) (x : List Int), exE lim x R ≠ 0 → exE lim x (R ++ S) = exE lim x R
  | [], S, x, h => absurd rfl h
  | q :: R, S, x, h => by
    simp only [List.cons_append, exE] at h ⊢
    by_cases h1 : stE lim x q = 0
    · rw [if_pos h1] at h ⊢
      rw [if_pos h1]
      exact exE_front lim R S _ h
    · rw [if_neg h1, if_neg h1]

theorem tk_snoc {R : List Tk} {k : Nat} (h : k < R.length) : R.take (k + 1) = R.take k ++ [R.getD k tk0] := by
  rw [List.take_succ_eq_append_getElem h]
  simp [h]

theorem exE_at {lim : Int} {R : List Tk} {k : Nat} (hk : k < R.length) (h0 : exE lim [] (R.take k) = 0) :
    (stE lim (exT [] (R.take k)) (R.getD k tk0) ≠ 0 → exE lim [] R = stE lim (exT [] (R.take k)) (R.getD k tk0)) ∧ (stE lim (exT [] (R.take k)) (R.getD k tk0) = 0 → exE lim [] (R.take (k + 1)) = 0) := by
  have e := exE_app lim (R.take k) [R.getD k tk0] [] h0
  rw [← tk_snoc hk] at e
  simp only [exE] at e
  refine ⟨fun h => ?_, fun h => by rw [if_pos h] at e; exact e⟩
  rw [if_neg h] at e
  have := exE_front lim (R.take (k + 1)) (R.drop (k + 1)) [] (by rw [e]; exact h)
  rw [List.take_append_drop] at this
  rw [this, e]

theorem ext_at {R : List Tk} {k : Nat} (hk : k < R.length) : exT [] (R.take (k + 1)) = ptk (exT [] (R.take k)) (R.getD k tk0) := by
  rw [tk_snoc hk, ext_snoc]

theorem snd_parts {t : Tk} (h : Snd t) : (t.1 = 0 ∧ t.2.1 = 0) ∨ (∃ l d : Nat, t = ((l : Int), (d : Int), 0) ∧ 3 ≤ l ∧ l ≤ 258 ∧ 1 ≤ d ∧ d ≤ 32768) := by
  obtain ⟨a, b, c⟩ := t
  unfold Snd at h
  simp only at h
  by_cases e : a = 0
  · rw [if_pos e] at h
    exact .inl ⟨e, h⟩
  · rw [if_neg e] at h
    obtain ⟨h1, h2, h3, h4, h5⟩ := h
    obtain ⟨l, rfl⟩ := Int.eq_ofNat_of_zero_le (show 0 ≤ a by omega)
    obtain ⟨d, rfl⟩ := Int.eq_ofNat_of_zero_le (show 0 ≤ b by omega)
    exact .inr ⟨l, d, by rw [h5], by omega, by omega, by omega, by omega⟩

theorem ptk_len {x : List Int} {t : Tk} (h : Snd t) : (ptk x t).length = x.length + says t := by
  rcases snd_parts h with ⟨h1, h2⟩ | ⟨l, d, rfl, h1, h2, h3, h4⟩
  · unfold ptk says; rw [if_pos h1, h1]; simp
  · unfold ptk says
    rw [if_neg (by simp only; omega), cpy_len]
    simp only [Int.toNat_natCast]; omega

theorem stE_zero {lim : Int} {x : List Int} {t : Tk} (h : stE lim x t = 0) : Snd t ∧ t.2.1 ≤ (x.length : Int) ∧ (x.length : Int) + (says t : Nat) ≤ lim := by
  unfold stE at h
  split at h
  · rename_i hs
    split at h
    · omega
    · split at h
      · omega
      · exact ⟨hs, by omega, by omega⟩
  · omega

theorem stE_mk {lim : Int} {x : List Int} {t : Tk} (h1 : Snd t) (h2 : t.2.1 ≤ (x.length : Int)) (h3 : (x.length : Int) + (says t : Nat) ≤ lim) : stE lim x t = 0 := by
  unfold stE
  rw [if_pos h1, if_neg (by omega), if_neg (by omega)]

def Pre (a b : List Int) : Prop := b.take a.length = a

theorem Pre.refl (a : List Int) : Pre a a := List.take_of_length_le (Nat.le_refl _)
theorem Pre.len {a b : List Int} (h : Pre a b) : a.length ≤ b.length := by
  have := congrArg List.length h
  simp at this; omega
theorem Pre.trans {a b c : List Int} (h : Pre a b) (g : Pre b c) : Pre a c := by
  have hl := h.len
  unfold Pre at h g ⊢
  rw [← g, List.take_take, Nat.min_eq_left hl] at h
  exact h
theorem Pre.snoc (a : List Int) (x : Int) : Pre a (a ++ [x]) := by simp [Pre]
theorem Pre.getD {a b : List Int} (h : Pre a b) {i : Nat} (hi : i < a.length) : b.getD i 0 = a.getD i 0 := by
  have e : a.getD i 0 = (b.take a.length).getD i 0 := by rw [h]
  rw [e]
  simp [hi]

theorem pre_cpy (x : List Int) (d n : Nat) : Pre x (cpy x d n) := by
  induction n with
  | zero => exact Pre.refl _
  | succ n ih => exact ih.trans (Pre.snoc _ _)

theorem pre_cpy_le (x : List Int) (d : Nat) {m n : Nat} (h : m ≤ n) : Pre (cpy x d m) (cpy x d n) := by
  induction n with
  | zero => obtain rfl : m = 0 := by omega
            exact Pre.refl _
  | succ n ih =>
    by_cases e : m = n + 1
    · subst e; exact Pre.refl _
    · exact (ih (by omega)).trans (Pre.snoc _ _)

theorem pre_ptk (x : List Int) (t : Tk) : Pre x (ptk x t) := by
  unfold ptk
  split
  · exact Pre.snoc _ _
  · exact pre_cpy _ _ _

theorem pre_exT : ∀ (R : List Tk) (x : List Int), Pre x (exT x R)
  | [], x => Pre.refl _
  | t :: R, x => (pre_ptk x t).trans (pre_exT R _)

theorem pre_take (R : List Tk) (k : Nat) : Pre (exT [] (R.take k)) (exT [] R) := by
  have h : exT [] R = exT (exT [] (R.take k)) (R.drop k) := by rw [← ext_app, List.take_append_drop]
  rw [h]
  exact pre_exT _ _

theorem cpy_get (x : List Int) {d n i : Nat} (hi : i < n) (hd : 1 ≤ d) (hx : d ≤ x.length) : (cpy x d n).getD (x.length + i) 0 = (cpy x d n).getD (x.length + i - d) 0 := by
  have p : Pre (cpy x d (i + 1)) (cpy x d n) := pre_cpy_le x d hi
  have l := cpy_len x d (i + 1)
  rw [p.getD (by omega), p.getD (by omega)]
  have e : cpy x d (i + 1) = cpy x d i ++ [(cpy x d i).getD ((cpy x d i).length - d) 0] := rfl
  have l2 := cpy_len x d i
  rw [e]
  simp only [List.getD_eq_getElem?_getD]
  rw [List.getElem?_append_right (by omega), List.getElem?_append_left (by omega)]
  simp [l2]

theorem means_at {lim : Int} {R : List Tk} (h : exE lim [] R = 0) {k : Nat} (hk : k < R.length) : exE lim [] (R.take k) = 0 ∧ stE lim (exT [] (R.take k)) (R.getD k tk0) = 0 := by
  have h1 : exE lim [] (R.take k) = 0 := Classical.byContradiction fun q => by
    have := exE_front lim (R.take k) (R.drop k) [] q
    rw [List.take_append_drop, h] at this
    exact q this.symm
  exact ⟨h1, Classical.byContradiction fun q => by have := (exE_at hk h1).1 q; omega⟩

theorem means_lit {R : List Tk} {k : Nat} (hk : k < R.length) (h0 : (R.getD k tk0).1 = 0) : (exT [] R).getD (exT [] (R.take k)).length 0 = (R.getD k tk0).2.2 := by
  have p := pre_take R (k + 1)
  rw [ext_at hk] at p
  unfold ptk at p
  rw [if_pos h0] at p
  rw [p.getD (by simp)]
  simp

theorem means_copy {R : List Tk} {k : Nat} (hk : k < R.length) {l d : Nat} (h0 : (R.getD k tk0).1 = (l : Int)) (h2 : (R.getD k tk0).2.1 = (d : Int)) (h1 : 0 < l) (hd : 1 ≤ d) (hx : d ≤ (exT [] (R.take k)).length) {i : Nat} (hi : i < l) :
    (exT [] R).getD ((exT [] (R.take k)).length + i) 0 = (exT [] R).getD ((exT [] (R.take k)).length + i - d) 0 := by
  have p := pre_take R (k + 1)
  rw [ext_at hk] at p
  unfold ptk at p
  rw [if_neg (by omega), h0, h2, Int.toNat_natCast, Int.toNat_natCast] at p
  have l2 := cpy_len (exT [] (R.take k)) d l
  rw [p.getD (by omega), p.getD (by omega)]
  exact cpy_get _ hi hd hx
end Go.Proofs.Ytjldmphfdaoecaa

namespace Go.Proofs.Ytjldmphfdaoecaa
set_option linter.unusedVariables false

def Cnd (D : List Int) (j i : Nat) : Prop := i + 2 < D.length ∧ D.getD j 0 = D.getD i 0 ∧ D.getD (j + 1) 0 = D.getD (i + 1) 0 ∧ D.getD (j + 2) 0 = D.getD (i + 2) 0
instance (D : List Int) (j i : Nat) : Decidable (Cnd D j i) := by unfold Cnd; infer_instance

def rnn (D : List Int) (j i : Nat) : Nat → Nat
  | 0 => 0
  | n + 1 => if rnn D j i n = n ∧ i + n < D.length ∧ D.getD (j + n) 0 = D.getD (i + n) 0 then n + 1 else rnn D j i n

theorem rnn_le (D : List Int) (j i n : Nat) : rnn D j i n ≤ n := by
  induction n with
  | zero => exact Nat.le_refl _
  | succ n ih => unfold rnn; split <;> omega

theorem rnn_mono (D : List Int) (j i n : Nat) : rnn D j i n ≤ rnn D j i (n + 1) := by
  have := rnn_le D j i n
  conv => rhs; unfold rnn
  split <;> omega

theorem rnn_eq {D : List Int} {j i : Nat} : ∀ {n k : Nat}, k < rnn D j i n → i + k < D.length ∧ D.getD (j + k) 0 = D.getD (i + k) 0
  | 0, k, h => by simp [rnn] at h
  | n + 1, k, h => by
    unfold rnn at h
    split at h
    · rename_i q
      by_cases e : k = n
      · rw [e]; exact q.2
      · exact rnn_eq (n := n) (by omega)
    · exact rnn_eq h

theorem rnn_ge {D : List Int} {j i : Nat} : ∀ {n m : Nat}, m ≤ n → (∀ k, k < m → i + k < D.length ∧ D.getD (j + k) 0 = D.getD (i + k) 0) → m ≤ rnn D j i n
  | 0, m, h, _ => by omega
  | n + 1, m, h, hk => by
    by_cases e : m = n + 1
    · subst e
      have i1 := rnn_ge (n := n) (m := n) (Nat.le_refl _) (fun k q => hk k (by omega))
      have i2 := rnn_le D j i n
      unfold rnn
      rw [if_pos ⟨by omega, hk n (by omega)⟩]
      exact Nat.le_refl _
    · exact Nat.le_trans (rnn_ge (n := n) (by omega) hk) (rnn_mono D j i n)

def rno (D : List Int) (j i : Nat) : Nat := rnn D j i 258

theorem rno_le (D : List Int) (j i : Nat) : rno D j i ≤ 258 := rnn_le _ _ _ _

theorem rno_len {D : List Int} {j i : Nat} (h : i < D.length) : i + rno D j i ≤ D.length := by
  by_cases e : rno D j i = 0
  · omega
  · have := (rnn_eq (D := D) (j := j) (i := i) (n := 258) (k := rno D j i - 1) (by unfold rno at e ⊢; omega)).1
    omega

theorem rno_iff {D : List Int} {j i m : Nat} : m ≤ rno D j i ↔ m ≤ 258 ∧ ∀ k, k < m → i + k < D.length ∧ D.getD (j + k) 0 = D.getD (i + k) 0 :=
  ⟨fun h => ⟨Nat.le_trans h (rno_le D j i), fun k hk => rnn_eq (n := 258) (Nat.lt_of_lt_of_le hk h)⟩, fun h => rnn_ge h.1 h.2⟩

theorem rno_go {D : List Int} {j i m : Nat} (h : m ≤ rno D j i) : (m < 258 → i + m < D.length → D.getD (j + m) 0 = D.getD (i + m) 0 → m + 1 ≤ rno D j i) ∧ (¬ (m < 258 ∧ i + m < D.length ∧ D.getD (j + m) 0 = D.getD (i + m) 0) → rno D j i = m) := by
  refine ⟨fun h1 h2 h3 => rno_iff.2 ⟨by omega, fun k hk => ?_⟩, fun q => ?_⟩
  · by_cases e : k = m
    · rw [e]; exact ⟨h2, h3⟩
    · exact (rno_iff.1 h).2 k (by omega)
  · by_cases e : rno D j i = m
    · exact e
    · have := (rno_iff.1 (show m + 1 ≤ rno D j i by omega))
      exact absurd ⟨by omega, this.2 m (by omega)⟩ q

theorem cnd_iff {D : List Int} {j i : Nat} : Cnd D j i ↔ 3 ≤ rno D j i := by
  rw [rno_iff]
  refine ⟨fun ⟨h0, h1, h2, h3⟩ => ⟨by omega, fun k hk => ?_⟩, fun ⟨_, h⟩ => ?_⟩
  · have : k = 0 ∨ k = 1 ∨ k = 2 := by omega
    rcases this with rfl | rfl | rfl
    · exact ⟨by omega, h1⟩
    · exact ⟨by omega, h2⟩
    · exact ⟨by omega, h3⟩
  · exact ⟨(h 2 (by omega)).1, (h 0 (by omega)).2, (h 1 (by omega)).2, (h 2 (by omega)).2⟩

def asc (D : List Int) (i a n : Nat) : List Nat := (List.range' a n).filter fun j => decide (Cnd D j i)

theorem asc_mem {D : List Int} {i a n j : Nat} (h : j ∈ asc D i a n) : a ≤ j ∧ j < a + n ∧ Cnd D j i := by
  unfold asc at h
  obtain ⟨h1, h2⟩ := List.mem_filter.1 h
  have := List.mem_range'_1.1 h1
  exact ⟨this.1, this.2, of_decide_eq_true h2⟩

def cds (D : List Int) (i n : Nat) : List Nat := (asc D i (i - n) n).reverse

theorem cds_mem {D : List Int} {i n j : Nat} (hn : n ≤ i) (h : j ∈ cds D i n) : i - n ≤ j ∧ j < i ∧ Cnd D j i := by
  have := asc_mem (List.mem_reverse.1 h)
  exact ⟨this.1, by omega, this.2.2⟩

def stp (D : List Int) (i : Nat) (s : Nat × Nat) (j : Nat) : Nat × Nat := if s.1 < rno D j i then (rno D j i, i - j) else s
def pick (D : List Int) (i : Nat) (l : List Nat) (s : Nat × Nat) : Nat × Nat := l.foldl (stp D i) s

theorem pick_snoc (D : List Int) (i : Nat) (l : List Nat) (s : Nat × Nat) (j : Nat) : pick D i (l ++ [j]) s = stp D i (pick D i l s) j := by simp [pick]
theorem pick_cons (D : List Int) (i : Nat) (l : List Nat) (s : Nat × Nat) (j : Nat) : pick D i (j :: l) s = pick D i l (stp D i s j) := by simp only [pick, List.foldl_cons]

def bst (D : List Int) (i W C : Nat) : Nat × Nat := pick D i ((cds D i (min i W)).take C) (0, 0)

theorem pick_b {D : List Int} {i b : Nat} (l : List Nat) : pick D i l (b, 0) = if b < (pick D i l (0, 0)).1 then pick D i l (0, 0) else (b, 0) := by
  rw [← List.reverse_reverse l]
  induction l.reverse with
  | nil => simp [pick]
  | cons j r ih =>
    rw [List.reverse_cons, pick_snoc, pick_snoc, ih]
    generalize pick D i r.reverse (0, 0) = p
    obtain ⟨x, y⟩ := p
    unfold stp
    by_cases h1 : b < x
    · simp only [h1, if_true]
      by_cases h2 : x < rno D j i
      · simp only [h2, if_true]; rw [if_pos (by omega)]
      · simp only [h2, if_false]; rw [if_pos h1]
    · simp only [h1, if_false]
      by_cases h2 : x < rno D j i
      · simp only [h2, if_true]
      · simp only [h2, if_false]; rw [if_neg (by omega), if_neg h1]

theorem pick_stay {D : List Int} {i : Nat} : ∀ (l : List Nat) (s : Nat × Nat), (∀ j ∈ l, rno D j i ≤ s.1) → pick D i l s = s
  | [], s, _ => rfl
  | j :: l, s, h => by
    rw [pick_cons]
    have : stp D i s j = s := by unfold stp; rw [if_neg (by have := h j List.mem_cons_self; omega)]
    rw [this]
    exact pick_stay l s fun k hk => h k (List.mem_cons_of_mem _ hk)

theorem pick_in {D : List Int} {i : Nat} (l : List Nat) : pick D i l (0, 0) = (0, 0) ∨ ∃ j ∈ l, pick D i l (0, 0) = (rno D j i, i - j) := by
  rw [← List.reverse_reverse l]
  induction l.reverse with
  | nil => exact .inl rfl
  | cons j r ih =>
    rw [List.reverse_cons, pick_snoc]
    unfold stp
    split
    · exact .inr ⟨j, by simp, rfl⟩
    · rcases ih with h | ⟨k, hk, h⟩
      · exact .inl h
      · exact .inr ⟨k, by simp at hk ⊢; exact .inl hk, h⟩

theorem bst_in (D : List Int) (i W C : Nat) : bst D i W C = (0, 0) ∨ ∃ j, j ∈ (cds D i (min i W)).take C ∧ bst D i W C = (rno D j i, i - j) := pick_in _

theorem bst_facts {D : List Int} {i W C : Nat} : bst D i W C = (0, 0) ∨ ∃ j, j < i ∧ i - j ≤ W ∧ Cnd D j i ∧ 3 ≤ rno D j i ∧ bst D i W C = (rno D j i, i - j) ∧ j ∈ (cds D i (min i W)).take C := by
  rcases bst_in D i W C with h | ⟨j, hj, h⟩
  · exact .inl h
  · have := cds_mem (Nat.min_le_left _ _) (List.mem_of_mem_take hj)
    exact .inr ⟨j, this.2.1, by omega, this.2.2, cnd_iff.1 this.2.2, h, hj⟩

def lng (D : List Int) (i : Nat) (l : List Nat) (b : Nat) : Nat × Nat := if (pick D i l (b, 0)).2 = 0 then (0, 0) else pick D i l (b, 0)

theorem lng_eq {D : List Int} {i b : Nat} {l : List Nat} (h : ∀ j ∈ l, j < i) : lng D i l b = if b < (pick D i l (0, 0)).1 then pick D i l (0, 0) else (0, 0) := by
  unfold lng
  rw [pick_b]
  by_cases q : b < (pick D i l (0, 0)).1
  · simp only [q, if_true]
    rcases pick_in (D := D) (i := i) l with e | ⟨j, hj, e⟩
    · rw [e] at q; simp at q
    · rw [e]
      have := h j hj
      rw [if_neg (by simp only; omega)]
  · simp only [q, if_false]
    simp

theorem near_rev (l : List Nat) (C : Nat) : (l.drop (l.length - C)).reverse = l.reverse.take C := by
  rw [List.reverse_drop]
  by_cases h : C ≤ l.length
  · rw [show l.length - (l.length - C) = C by omega]
  · rw [show l.length - (l.length - C) = l.length by omega, List.take_of_length_le (by simp), List.take_of_length_le (by simp; omega)]

end Go.Proofs.Ytjldmphfdaoecaa

namespace Go.Proofs.Ytjldmphfdaoecaa
set_option linter.unusedVariables false

end Go.Proofs.Ytjldmphfdaoecaa

namespace Go.Proofs.Ytjldmphfdaoecaa
set_option linter.unusedVariables false

def Lit (D : List Int) (W C : Nat) (z : Bool) (i : Nat) : Prop := (bst D i W C).1 = 0 ∨ (z = true ∧ i + 1 < D.length ∧ (bst D i W C).1 < (bst D (i + 1) W C).1)
instance (D : List Int) (W C : Nat) (z : Bool) (i : Nat) : Decidable (Lit D W C z i) := by unfold Lit; infer_instance

def tok (D : List Int) (W C : Nat) (z : Bool) (i : Nat) : Tk := if Lit D W C z i then (0, 0, D.getD i 0) else ((((bst D i W C).1 : Nat) : Int), (((bst D i W C).2 : Nat) : Int), 0)

def tks (D : List Int) (W C : Nat) (z : Bool) : Nat → Nat → List Tk
  | 0, _ => []
  | n + 1, i => if i < D.length then tok D W C z i :: tks D W C z n (i + says (tok D W C z i)) else []

def tkl (D : List Int) (W C : Nat) (z : Bool) : List Tk := tks D W C z D.length 0

theorem tok_lit {D : List Int} {W C : Nat} {z : Bool} {i : Nat} (h : Lit D W C z i) : tok D W C z i = (0, 0, D.getD i 0) := by unfold tok; rw [if_pos h]
theorem tok_cpy {D : List Int} {W C : Nat} {z : Bool} {i : Nat} (h : ¬ Lit D W C z i) : tok D W C z i = ((((bst D i W C).1 : Nat) : Int), (((bst D i W C).2 : Nat) : Int), 0) := by unfold tok; rw [if_neg h]

theorem says_pos (t : Tk) : 1 ≤ says t := by unfold says; omega

theorem says_lit {D : List Int} {W C : Nat} {z : Bool} {i : Nat} (h : Lit D W C z i) : says (tok D W C z i) = 1 := by rw [tok_lit h]; rfl

theorem cpy_is {D : List Int} {W C : Nat} {z : Bool} {i : Nat} (hi : i < D.length) (h : ¬ Lit D W C z i) : ∃ j l d : Nat, tok D W C z i = ((l : Int), (d : Int), 0) ∧ j < i ∧ d = i - j ∧ l = rno D j i ∧ 3 ≤ l ∧ l ≤ 258 ∧ 1 ≤ d ∧ d ≤ i ∧ d ≤ W ∧ i + l ≤ D.length ∧ says (tok D W C z i) = l ∧ (bst D i W C) = (l, d) := by
  have h0 : (bst D i W C).1 ≠ 0 := fun e => h (.inl e)
  rcases bst_facts (D := D) (i := i) (W := W) (C := C) with e | ⟨j, h1, h2, h3, h4, h5, _⟩
  · rw [e] at h0; exact absurd rfl h0
  · have e1 := congrArg Prod.fst h5
    have e2 := congrArg Prod.snd h5
    simp only at e1 e2
    have r1 := rno_le D j i
    have r2 := rno_len (j := j) hi
    have ht := tok_cpy h
    rw [e1, e2] at ht
    obtain ⟨l, hl⟩ : ∃ l, l = rno D j i := ⟨_, rfl⟩
    rw [← hl] at r1 r2 h4 ht h5
    refine ⟨j, l, i - j, ht, h1, rfl, hl, h4, r1, by omega, by omega, h2, r2, ?_, h5⟩
    rw [ht]
    unfold says
    simp only [Int.toNat_natCast]
    omega

theorem tok_snd {D : List Int} {W C : Nat} {z : Bool} {i : Nat} (hi : i < D.length) (hW : W ≤ 32768) : Snd (tok D W C z i) := by
  by_cases h : Lit D W C z i
  · rw [tok_lit h]; unfold Snd; simp
  · obtain ⟨j, l, d, e, _, _, _, h1, h2, h3, h4, h5, _⟩ := cpy_is hi h
    rw [e]
    unfold Snd
    rw [if_neg (by simp only; omega)]
    exact ⟨by simp only; omega, by simp only; omega, by simp only; omega, by simp only; omega, rfl⟩

theorem tok_end {D : List Int} {W C : Nat} {z : Bool} {i : Nat} (hi : i < D.length) : i + says (tok D W C z i) ≤ D.length := by
  by_cases h : Lit D W C z i
  · rw [says_lit h]; omega
  · obtain ⟨j, l, d, e, _, _, _, h1, h2, h3, h4, h5, h6, h7, _⟩ := cpy_is hi h
    rw [h7]; exact h6

theorem tk_take {D : List Int} {i : Nat} (h : i < D.length) : D.take (i + 1) = D.take i ++ [D.getD i 0] := by
  rw [List.take_succ_eq_append_getElem h]
  simp [h]

theorem cpy_takes {D : List Int} {i d : Nat} (hd : 1 ≤ d) (hdi : d ≤ i) : ∀ {l : Nat}, i + l ≤ D.length → (∀ k, k < l → D.getD (i + k - d) 0 = D.getD (i + k) 0) → cpy (D.take i) d l = D.take (i + l)
  | 0, _, _ => rfl
  | l + 1, hl, h => by
    have ih := cpy_takes hd hdi (l := l) (by omega) (fun k hk => h k (by omega))
    simp only [cpy]
    rw [ih, show i + (l + 1) = i + l + 1 by omega, tk_take (by omega)]
    congr 2
    have hlen : (D.take (i + l)).length = i + l := by simp; omega
    rw [hlen, ← h l (by omega)]
    have : i + l - d < i + l := by omega
    simp [this]

theorem ptk_tok {D : List Int} {W C : Nat} {z : Bool} {i : Nat} (hi : i < D.length) : ptk (D.take i) (tok D W C z i) = D.take (i + says (tok D W C z i)) := by
  by_cases h : Lit D W C z i
  · rw [says_lit h, tok_lit h]
    unfold ptk
    rw [if_pos rfl, tk_take hi]
  · obtain ⟨j, l, d, e, q1, q2, q3, h1, h2, h3, h4, h5, h6, h7, _⟩ := cpy_is hi h
    rw [h7, e]
    unfold ptk
    rw [if_neg (by simp only; omega)]
    simp only [Int.toNat_natCast]
    refine cpy_takes h3 h4 h6 fun k hk => ?_
    have := ((rno_iff (D := D) (j := j) (i := i) (m := l)).1 (by omega)).2 k hk
    rw [← this.2, show i + k - d = j + k by omega]

theorem tok_far {D : List Int} {W C : Nat} {z : Bool} {i : Nat} (hi : i < D.length) : (tok D W C z i).2.1 ≤ (i : Int) := by
  by_cases h : Lit D W C z i
  · rw [tok_lit h]; simp
  · obtain ⟨j, l, d, e, q1, q2, q3, h1, h2, h3, h4, _⟩ := cpy_is hi h
    rw [e]; simp only; omega

theorem tks_all {D : List Int} {W C : Nat} {z : Bool} (hW : W ≤ 32768) : ∀ (n i : Nat), i ≤ D.length → D.length ≤ i + n → exE (D.length : Int) (D.take i) (tks D W C z n i) = 0 ∧ exT (D.take i) (tks D W C z n i) = D
  | 0, i, h1, h2 => by
    obtain rfl : i = D.length := by omega
    simp only [tks, exE, exT, List.take_of_length_le (Nat.le_refl _), and_self]
  | n + 1, i, h1, h2 => by
    by_cases hi : i < D.length
    · have hp := says_pos (tok D W C z i)
      have he := tok_end (W := W) (C := C) (z := z) hi
      have ih := tks_all (W := W) (C := C) (z := z) hW n (i + says (tok D W C z i)) he (by omega)
      have hl : (D.take i).length = i := by simp; omega
      have hs : stE (D.length : Int) (D.take i) (tok D W C z i) = 0 := stE_mk (tok_snd hi hW) (by rw [hl]; exact tok_far hi) (by rw [hl]; omega)
      simp only [tks, if_pos hi, exE, exT]
      rw [if_pos hs, ptk_tok hi]
      exact ih
    · obtain rfl : i = D.length := by omega
      simp only [tks, if_neg hi, exE, exT, List.take_of_length_le (Nat.le_refl _), and_self]

theorem tkl_all {D : List Int} {W C : Nat} {z : Bool} (hW : W ≤ 32768) : exE (D.length : Int) [] (tkl D W C z) = 0 ∧ exT [] (tkl D W C z) = D := by
  have := tks_all (D := D) (W := W) (C := C) (z := z) hW D.length 0 (Nat.zero_le _) (by omega)
  rw [List.take_zero] at this
  exact this

theorem tks_len {D : List Int} {W C : Nat} {z : Bool} : ∀ n i, i ≤ D.length → (tks D W C z n i).length ≤ D.length - i
  | 0, i, _ => by simp [tks]
  | n + 1, i, h => by
    by_cases hi : i < D.length
    · have hp := says_pos (tok D W C z i)
      have he := tok_end (W := W) (C := C) (z := z) hi
      have ih := tks_len (W := W) (C := C) (z := z) n (i + says (tok D W C z i)) he
      simp only [tks, if_pos hi, List.length_cons]
      omega
    · simp [tks, hi]

end Go.Proofs.Ytjldmphfdaoecaa

