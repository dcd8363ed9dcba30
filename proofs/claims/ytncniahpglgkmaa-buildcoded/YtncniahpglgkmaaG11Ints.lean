import Derived.Test.YtncniahpglgkmaaG09Base
import Derived.Test.YtncniahpglgkmaaG10App
import Derived.Laws.CopyOwn
import Derived.Handy
namespace Go.Proofs.Ytncniahpglgkmaa

/-- Code lengths that may be. -/
def Lens (l : List Int) : Prop := l.length ≤ 288 ∧ ∀ x ∈ l, 0 ≤ x ∧ x ≤ 15

def ln (l : List Int) (s : Nat) : Nat := (l.getD s 0).toNat
/-- How many words there are of a length. -/
def cn (l : List Int) (n : Nat) : Nat := if n = 0 then 0 else l.count (n : Int)
/-- The first word of a length. -/
def fi (l : List Int) : Nat → Nat
  | 0 => 0
  | n + 1 => 2 * (fi l n + cn l n)
/-- What the shorter lengths use. -/
def us (l : List Int) : Nat → Nat
  | 0 => 0
  | n + 1 => us l n + cn l n * 2 ^ (15 - n)
/-- How many words are shorter. -/
def sh (l : List Int) : Nat → Nat
  | 0 => 0
  | n + 1 => sh l n + cn l n
def rk (l : List Int) (s : Nat) : Nat := (l.take s).count (l.getD s 0)
/-- A symbol's word. -/
def wd (l : List Int) (s : Nat) : Nat := if ln l s = 0 then 0 else fi l (ln l s) + rk l s
def Has (l : List Int) (s : Nat) : Prop := s < l.length ∧ 0 < ln l s

theorem npow_pos (n : Nat) : 0 < 2 ^ n := Nat.pow_pos (by decide)

theorem getD_mem {l : List Int} {s : Nat} (h : s < l.length) : l.getD s 0 ∈ l := by
  have : l.getD s 0 = l[s] := by simp [h]
  rw [this]; exact List.getElem_mem _

theorem Lens.at {l : List Int} (h : Lens l) (s : Nat) : 0 ≤ l.getD s 0 ∧ l.getD s 0 ≤ 15 := by
  by_cases hs : s < l.length
  · exact h.2 _ (getD_mem hs)
  · have : l.getD s 0 = 0 := by simp [List.getD, List.getElem?_eq_none (Nat.le_of_not_lt hs)]
    rw [this]; decide

theorem Lens.ln {l : List Int} (h : Lens l) (s : Nat) : l.getD s 0 = (Proofs.Ytncniahpglgkmaa.ln l s : Int) ∧ Proofs.Ytncniahpglgkmaa.ln l s ≤ 15 := by
  have := h.at s
  unfold Proofs.Ytncniahpglgkmaa.ln
  omega

theorem fi_us (l : List Int) : ∀ n, n ≤ 15 → fi l n * 2 ^ (15 - n) = us l n
  | 0, _ => by simp [fi, us]
  | n + 1, h => by
    have ih := fi_us l n (by omega)
    simp only [fi, us]
    rw [← ih, show 15 - n = (15 - (n + 1)) + 1 by omega, Nat.pow_succ, ← Nat.add_mul]
    rw [Nat.mul_comm 2 (fi l n + cn l n), Nat.mul_assoc, Nat.mul_comm 2]

theorem fi_end (l : List Int) {n : Nat} (h : n ≤ 15) : (fi l n + cn l n) * 2 ^ (15 - n) = us l (n + 1) := by
  rw [Nat.add_mul, fi_us l n h]; rfl

theorem us_step (l : List Int) (n : Nat) : us l n ≤ us l (n + 1) := by simp only [us]; omega

theorem us_mono (l : List Int) {n m : Nat} (h : n ≤ m) : us l n ≤ us l m := by
  induction m with
  | zero => have : n = 0 := by omega
            subst this; exact Nat.le_refl _
  | succ m ih =>
    by_cases e : n = m + 1
    · subst e; exact Nat.le_refl _
    · exact Nat.le_trans (ih (by omega)) (us_step l m)

theorem sh_succ (l : List Int) (n : Nat) : sh l (n + 1) = sh l n + cn l n := rfl

theorem sh_mono (l : List Int) {n m : Nat} (h : n ≤ m) : sh l n ≤ sh l m := by
  induction m with
  | zero => have : n = 0 := by omega
            subst this; exact Nat.le_refl _
  | succ m ih =>
    by_cases e : n = m + 1
    · subst e; exact Nat.le_refl _
    · have := ih (by omega)
      simp only [sh]; omega

theorem count_take_succ (l : List Int) (x : Int) {s : Nat} (h : s < l.length) : (l.take (s + 1)).count x = (l.take s).count x + if l.getD s 0 = x then 1 else 0 := by
  have e : l.getD s 0 = l[s] := by simp [h]
  rw [List.take_succ_eq_append_getElem h, List.count_append, e]
  by_cases hx : l[s] = x
  · simp [hx]
  · simp [hx]

theorem count_take_le (l : List Int) (x : Int) (s : Nat) : (l.take s).count x ≤ l.count x := by
  conv => rhs; rw [← List.take_append_drop s l]
  rw [List.count_append]; omega

theorem count_take_mono (l : List Int) (x : Int) {s t : Nat} (h : s ≤ t) : (l.take s).count x ≤ (l.take t).count x := by
  have := count_take_le (l.take t) x s
  rwa [List.take_take, Nat.min_eq_left h] at this

theorem count_ex (x : Int) : ∀ (l : List Int) (k : Nat), k < l.count x → ∃ s, s < l.length ∧ l.getD s 0 = x ∧ (l.take s).count x = k
  | [], k, h => by simp at h
  | a :: l, k, h => by
    by_cases e : a = x
    · subst e
      cases k with
      | zero => exact ⟨0, by simp, by simp, by simp⟩
      | succ k =>
        obtain ⟨s, h1, h2, h3⟩ := count_ex a l k (by simp at h; omega)
        exact ⟨s + 1, by simp; omega, by simpa using h2, by simp [h3]⟩
    · obtain ⟨s, h1, h2, h3⟩ := count_ex x l k (by rw [List.count_cons] at h; simpa [e] using h)
      exact ⟨s + 1, by simp; omega, by simpa using h2, by rw [List.take_succ_cons, List.count_cons]; simp [h3, e]⟩

theorem Has.cn {l : List Int} (hl : Lens l) {s : Nat} (h : Has l s) : Proofs.Ytncniahpglgkmaa.cn l (ln l s) = l.count (l.getD s 0) := by
  unfold Proofs.Ytncniahpglgkmaa.cn
  rw [if_neg (by have := h.2; omega), (hl.ln s).1]

theorem Has.rk_lt {l : List Int} (hl : Lens l) {s : Nat} (h : Has l s) : rk l s < Proofs.Ytncniahpglgkmaa.cn l (ln l s) := by
  rw [h.cn hl]
  have h1 := count_take_succ l (l.getD s 0) h.1
  have h2 := count_take_le l (l.getD s 0) (s + 1)
  unfold rk
  simp at h1
  simp at h2 ⊢
  omega

theorem rk_mono {l : List Int} {s t : Nat} (hs : s < l.length) (hst : s < t) (he : l.getD s 0 = l.getD t 0) : rk l s < rk l t := by
  unfold rk
  have h1 := count_take_succ l (l.getD s 0) hs
  have h2 := count_take_mono l (l.getD s 0) (show s + 1 ≤ t by omega)
  rw [← he]
  simp at h1
  simp at h2 ⊢
  omega

theorem rk_ex {l : List Int} {n k : Nat} (hn : 0 < n) (h : k < cn l n) : ∃ s, Has l s ∧ ln l s = n ∧ rk l s = k := by
  unfold cn at h
  rw [if_neg (by omega)] at h
  obtain ⟨s, h1, h2, h3⟩ := count_ex (n : Int) l k h
  have e : ln l s = n := by unfold ln; rw [h2]; rfl
  exact ⟨s, ⟨h1, by omega⟩, e, by unfold rk; rw [h2]; exact h3⟩

theorem Has.wd {l : List Int} {s : Nat} (h : Has l s) : Proofs.Ytncniahpglgkmaa.wd l s = fi l (ln l s) + rk l s := if_neg (by have := h.2; omega)

/-- Where a word's rows begin. -/
def pl (l : List Int) (s : Nat) : Nat := wd l s * 2 ^ (15 - ln l s)

theorem Has.start {l : List Int} (hl : Lens l) {s : Nat} (h : Has l s) : us l (ln l s) ≤ pl l s := by
  unfold pl
  rw [h.wd, ← fi_us l _ (hl.ln s).2]
  exact Nat.mul_le_mul_right _ (by omega)

theorem Has.stop {l : List Int} (hl : Lens l) {s : Nat} (h : Has l s) : pl l s + 2 ^ (15 - ln l s) ≤ us l (ln l s + 1) := by
  unfold pl
  rw [h.wd, ← fi_end l (hl.ln s).2, ← Nat.succ_mul]
  exact Nat.mul_le_mul_right _ (by have := h.rk_lt hl; omega)

/-- The words in their order. -/
def Ahd (l : List Int) (s t : Nat) : Prop := ln l s < ln l t ∨ (ln l s = ln l t ∧ s < t)

theorem ahd_or {l : List Int} {s t : Nat} (h : s ≠ t) : Ahd l s t ∨ Ahd l t s := by unfold Ahd; omega

theorem rows_apart {l : List Int} (hl : Lens l) {s t : Nat} (hs : Has l s) (ht : Has l t) (h : Ahd l s t) : pl l s + 2 ^ (15 - ln l s) ≤ pl l t := by
  rcases h with h | ⟨h, hst⟩
  · have h1 := hs.stop hl
    have h2 := ht.start hl
    have h3 := us_mono l (show ln l s + 1 ≤ ln l t by omega)
    omega
  · have he : l.getD s 0 = l.getD t 0 := by rw [(hl.ln s).1, (hl.ln t).1, h]
    have hr := rk_mono hs.1 hst he
    unfold pl
    rw [hs.wd, ht.wd, h, ← Nat.succ_mul]
    exact Nat.mul_le_mul_right _ (by omega)

/-- The symbol with whose word a row begins. -/
def Hit (l : List Int) (R s : Nat) : Prop := Has l s ∧ pl l s ≤ R ∧ R < pl l s + 2 ^ (15 - ln l s)

theorem Hit.one {l : List Int} (hl : Lens l) {R s t : Nat} (h : Hit l R s) (k : Hit l R t) : s = t := by
  obtain ⟨h1, h2, h3⟩ := h
  obtain ⟨k1, k2, k3⟩ := k
  by_cases e : s = t
  · exact e
  · rcases ahd_or (l := l) e with a | a
    · have := rows_apart hl h1 k1 a; omega
    · have := rows_apart hl k1 h1 a; omega

theorem div_between {R w p : Nat} (hp : 0 < p) : R / p = w ↔ w * p ≤ R ∧ R < w * p + p := by
  constructor
  · intro h
    subst h
    have := Nat.div_add_mod R p
    have h2 := Nat.mod_lt R hp
    rw [Nat.mul_comm] at this
    omega
  · rintro ⟨h1, h2⟩
    apply Nat.le_antisymm
    · apply Nat.le_of_lt_succ
      rw [Nat.div_lt_iff_lt_mul hp, Nat.succ_mul]
      omega
    · rw [Nat.le_div_iff_mul_le hp]; omega

theorem hit_iff {l : List Int} {R s : Nat} : Hit l R s ↔ Has l s ∧ R / 2 ^ (15 - ln l s) = wd l s := by
  unfold Hit
  rw [div_between (npow_pos _)]
  rfl

theorem below_end {l : List Int} {R n : Nat} (hn : n ≤ 15) : R / 2 ^ (15 - n) < fi l n + cn l n ↔ R < us l (n + 1) := by
  rw [Nat.div_lt_iff_lt_mul (npow_pos _), fi_end l hn]

theorem hit_at {l : List Int} {R n : Nat} (hn : n ≤ 15) (h0 : us l n ≤ R) (h1 : R < us l (n + 1)) :
    ∃ s, Hit l R s ∧ ln l s = n ∧ R / 2 ^ (15 - n) = fi l n + rk l s := by
  have hz : 0 < n := by
    rcases Nat.eq_zero_or_pos n with e | e
    · subst e; simp [us, cn] at h1
    · exact e
  have h2 := (below_end (l := l) hn).2 h1
  have h3 : fi l n ≤ R / 2 ^ (15 - n) := by
    rw [Nat.le_div_iff_mul_le (npow_pos _), fi_us l n hn]; exact h0
  obtain ⟨s, a1, a2, a3⟩ := rk_ex (l := l) hz (k := R / 2 ^ (15 - n) - fi l n) (by omega)
  have e : R / 2 ^ (15 - n) = fi l n + rk l s := by omega
  exact ⟨s, hit_iff.2 ⟨a1, by rw [a1.wd, a2]; exact e⟩, a2, e⟩

theorem hit_ex {l : List Int} {R : Nat} (h : R < us l 16) : ∃ s, Hit l R s := by
  have : ∀ n, n ≤ 16 → R < us l n → ∃ s, Hit l R s := by
    intro n
    induction n with
    | zero => intro _ h; simp [us] at h
    | succ n ih =>
      intro hn h
      by_cases hlt : R < us l n
      · exact ih (by omega) hlt
      · obtain ⟨s, a, _⟩ := hit_at (show n ≤ 15 by omega) (by omega) h
        exact ⟨s, a⟩
  exact this 16 (by omega) h

theorem Hit.below {l : List Int} (hl : Lens l) {R s : Nat} (h : Hit l R s) : us l (ln l s) ≤ R ∧ R < us l (ln l s + 1) := by
  have h1 := h.1.start hl
  have h2 := h.1.stop hl
  have := h.2
  omega

theorem Hit.top {l : List Int} (hl : Lens l) {R s : Nat} (h : Hit l R s) : R < us l 16 := by
  have h1 := (h.below hl).2
  have h2 := us_mono l (show ln l s + 1 ≤ 16 by have := (hl.ln s).2; omega)
  omega

theorem word_lt {l : List Int} (hl : Lens l) (hu : us l 16 ≤ 32768) {s : Nat} : wd l s < 2 ^ ln l s := by
  by_cases h0 : ln l s = 0
  · unfold wd; rw [if_pos h0, h0]; decide
  · by_cases hs : s < l.length
    · have h : Has l s := ⟨hs, by omega⟩
      have h1 := h.stop hl
      have h2 := us_mono l (show ln l s + 1 ≤ 16 by have := (hl.ln s).2; omega)
      have h3 : (wd l s + 1) * 2 ^ (15 - ln l s) ≤ 2 ^ ln l s * 2 ^ (15 - ln l s) := by
        rw [← Nat.pow_add, show ln l s + (15 - ln l s) = 15 by have := (hl.ln s).2; omega, Nat.succ_mul]
        have : pl l s = wd l s * 2 ^ (15 - ln l s) := rfl
        omega
      exact Nat.le_of_mul_le_mul_right h3 (npow_pos _)
    · exfalso
      apply h0
      unfold ln
      simp [List.getD, List.getElem?_eq_none (Nat.le_of_not_lt hs)]

/-- Where a symbol stands among those that have a word. -/
def ix (l : List Int) (s : Nat) : Nat := sh l (ln l s) + rk l s

theorem ix_lt {l : List Int} (hl : Lens l) {s : Nat} (h : Has l s) : ix l s < sh l 16 := by
  have h1 := h.rk_lt hl
  have h2 := sh_mono l (show ln l s + 1 ≤ 16 by have := (hl.ln s).2; omega)
  rw [sh_succ] at h2
  unfold ix
  omega

theorem ix_inj {l : List Int} (hl : Lens l) {s t : Nat} (hs : Has l s) (ht : Has l t) (he : ix l s = ix l t) : s = t := by
  by_cases e : s = t
  · exact e
  · have key : ∀ s t, Has l s → Has l t → Ahd l s t → ix l s < ix l t := by
      intro s t hs ht h
      unfold ix
      rcases h with h | ⟨h, hst⟩
      · have h1 := hs.rk_lt hl
        have h2 := sh_mono l (show ln l s + 1 ≤ ln l t by omega)
        rw [sh_succ] at h2
        omega
      · have he : l.getD s 0 = l.getD t 0 := by rw [(hl.ln s).1, (hl.ln t).1, h]
        have := rk_mono hs.1 hst he
        rw [h]; omega
    rcases ahd_or (l := l) e with a | a
    · have := key s t hs ht a; omega
    · have := key t s ht hs a; omega

/-- What the lengths use, and how many have a word, symbol by symbol. -/
def wt (x : Int) : Nat := if 0 < x then 2 ^ (15 - x.toNat) else 0
def one (x : Int) : Nat := if 0 < x then 1 else 0
def usum (l : List Int) : Nat := (l.map wt).sum
def tsum (l : List Int) : Nat := (l.map one).sum

theorem cn_cons (a : Int) (l : List Int) (n : Nat) : cn (a :: l) n = cn l n + if n ≠ 0 ∧ a = (n : Int) then 1 else 0 := by
  unfold cn
  by_cases h : n = 0
  · simp [h]
  · rw [if_neg h, if_neg h, List.count_cons]
    by_cases e : a = (n : Int)
    · simp [e, h]
    · simp [e]

theorem us_cons (a : Int) (l : List Int) : ∀ k, us (a :: l) k = us l k + if 0 < a ∧ a < (k : Int) then 2 ^ (15 - a.toNat) else 0
  | 0 => by
    rw [if_neg (by omega)]; rfl
  | k + 1 => by
    simp only [us]
    rw [us_cons a l k, cn_cons]
    by_cases e : a = (k : Int)
    · by_cases h0 : k = 0
      · subst h0; simp [e]
      · rw [if_neg (by omega), if_pos ⟨h0, e⟩, if_pos (by omega), Nat.add_mul]
        have : a.toNat = k := by omega
        rw [this]; omega
    · rw [if_neg (c := k ≠ 0 ∧ a = (k : Int)) (fun h => e h.2), Nat.add_zero]
      by_cases hh : 0 < a ∧ a < (k : Int)
      · rw [if_pos hh, if_pos (by omega)]; omega
      · rw [if_neg hh, if_neg (by omega)]; omega

theorem sh_cons (a : Int) (l : List Int) : ∀ k, sh (a :: l) k = sh l k + if 0 < a ∧ a < (k : Int) then 1 else 0
  | 0 => by
    rw [if_neg (by omega)]; rfl
  | k + 1 => by
    simp only [sh]
    rw [sh_cons a l k, cn_cons]
    by_cases e : a = (k : Int)
    · by_cases h0 : k = 0
      · subst h0; simp [e]
      · rw [if_neg (by omega), if_pos ⟨h0, e⟩, if_pos (by omega)]
        omega
    · rw [if_neg (c := k ≠ 0 ∧ a = (k : Int)) (fun h => e h.2), Nat.add_zero]
      by_cases hh : 0 < a ∧ a < (k : Int)
      · rw [if_pos hh, if_pos (by omega)]; omega
      · rw [if_neg hh, if_neg (by omega)]; omega

theorem us_nil (k : Nat) : us [] k = 0 := by
  induction k with
  | zero => rfl
  | succ k ih => simp [us, ih, cn]

theorem sh_nil (k : Nat) : sh [] k = 0 := by
  induction k with
  | zero => rfl
  | succ k ih => simp [sh, ih, cn]

theorem us_sum : ∀ {l : List Int}, (∀ x ∈ l, 0 ≤ x ∧ x ≤ 15) → us l 16 = usum l
  | [], _ => by rw [us_nil]; rfl
  | a :: l, h => by
    rw [us_cons, us_sum (l := l) (fun x hx => h x (by simp [hx]))]
    have ha := h a (by simp)
    unfold usum wt
    simp only [List.map_cons, List.sum_cons]
    by_cases hz : 0 < a
    · rw [if_pos ⟨hz, by omega⟩, if_pos hz]; omega
    · rw [if_neg (fun h => hz h.1), if_neg hz]; omega

theorem sh_sum : ∀ {l : List Int}, (∀ x ∈ l, 0 ≤ x ∧ x ≤ 15) → sh l 16 = tsum l
  | [], _ => by rw [sh_nil]; rfl
  | a :: l, h => by
    rw [sh_cons, sh_sum (l := l) (fun x hx => h x (by simp [hx]))]
    have ha := h a (by simp)
    unfold tsum one
    simp only [List.map_cons, List.sum_cons]
    by_cases hz : 0 < a
    · rw [if_pos ⟨hz, by omega⟩, if_pos hz]; omega
    · rw [if_neg (fun h => hz h.1), if_neg hz]; omega

/-- The shape. -/
def shp (l : List Int) : Int := if tsum l = 0 then 0 else if tsum l = 1 ∧ usum l = 16384 then 1 else if 32768 < usum l then 3 else if usum l = 32768 then 4 else 2

theorem sh_le (l : List Int) (n : Nat) : sh l n ≤ l.length := by
  induction l with
  | nil => rw [sh_nil]; exact Nat.le_refl _
  | cons a l ih =>
    rw [sh_cons, List.length_cons]
    split <;> omega

theorem cn_le (l : List Int) (n : Nat) : cn l n ≤ l.length := by
  unfold cn
  split
  · omega
  · exact List.count_le_length

theorem sh_sum_ge (l : List Int) {n : Nat} (h : n < 16) : cn l n ≤ sh l 16 := by
  have := sh_mono l (show n + 1 ≤ 16 by omega)
  rw [sh_succ] at this
  omega

theorem tsum_zero {l : List Int} (hl : Lens l) : tsum l = 0 ↔ ∀ n, n < 16 → cn l n = 0 := by
  rw [← sh_sum hl.2]
  constructor
  · intro h n hn
    have := sh_sum_ge l hn
    omega
  · intro h
    have : ∀ n, n ≤ 16 → sh l n = 0 := by
      intro n
      induction n with
      | zero => intro _; rfl
      | succ n ih => intro hn; simp only [sh]; rw [ih (by omega), h n (by omega)]
    exact this 16 (by omega)

theorem single_iff {l : List Int} (hl : Lens l) : (tsum l = 1 ∧ usum l = 16384) ↔ (∀ n, n < 16 → cn l n = if n = 1 then 1 else 0) := by
  rw [← sh_sum hl.2, ← us_sum hl.2]
  constructor
  · rintro ⟨h1, h2⟩ n hn
    have ex : ∃ m, m < 16 ∧ 0 < cn l m := by
      by_cases e : ∃ m, m < 16 ∧ 0 < cn l m
      · exact e
      · have : tsum l = 0 := (tsum_zero hl).2 fun n hn => by
          rcases Nat.eq_zero_or_pos (cn l n) with z | z
          · exact z
          · exact absurd ⟨n, hn, z⟩ e
        rw [← sh_sum hl.2] at this
        omega
    obtain ⟨m, hm, hp⟩ := ex
    have one : ∀ k, k < 16 → k ≠ m → cn l k = 0 := by
      intro k hk hne
      have two : ∀ a b, a < b → b < 16 → cn l a + cn l b ≤ sh l 16 := by
        intro a b hab hb
        have h1 := sh_mono l (show a + 1 ≤ b by omega)
        have h2 := sh_mono l (show b + 1 ≤ 16 by omega)
        rw [sh_succ] at h1 h2
        omega
      rcases Nat.lt_or_gt_of_ne hne with hlt | hgt
      · have := two k m hlt hm; omega
      · have := two m k hgt hk; omega
    have cm : cn l m = 1 := by
      have := sh_sum_ge l hm
      omega
    have hus : us l 16 = 2 ^ (15 - m) := by
      have : ∀ n, n ≤ 16 → us l n = if m < n then 2 ^ (15 - m) else 0 := by
        intro n
        induction n with
        | zero => intro _; simp [us]
        | succ n ih =>
          intro hn
          simp only [us]
          rw [ih (by omega)]
          by_cases e : n = m
          · subst e; simp [cm]
          · rw [one n (by omega) e]
            by_cases hlt : m < n
            · rw [if_pos hlt, if_pos (by omega)]; omega
            · rw [if_neg hlt, if_neg (by omega)]; omega
      rw [this 16 (by omega), if_pos hm]
    rw [h2] at hus
    have hm1 : m = 1 := by
      have : ∀ m : Fin 16, 16384 = 2 ^ (15 - m.val) → m.val = 1 := by decide
      exact this ⟨m, hm⟩ hus
    subst hm1
    by_cases e : n = 1
    · rw [e, if_pos rfl]; exact cm
    · rw [if_neg e]; exact one n hn e
  · intro h
    have hs : ∀ n, n ≤ 16 → sh l n = if 1 < n then 1 else 0 := by
      intro n
      induction n with
      | zero => intro _; simp [sh]
      | succ n ih =>
        intro hn
        simp only [sh]
        rw [ih (by omega), h n (by omega)]
        by_cases e : n = 1
        · subst e; rfl
        · rw [if_neg e]
          by_cases hlt : 1 < n
          · rw [if_pos hlt, if_pos (by omega)]
          · rw [if_neg hlt, if_neg (by omega)]
    have hu : ∀ n, n ≤ 16 → us l n = if 1 < n then 16384 else 0 := by
      intro n
      induction n with
      | zero => intro _; simp [us]
      | succ n ih =>
        intro hn
        simp only [us]
        rw [ih (by omega), h n (by omega)]
        by_cases e : n = 1
        · subst e; rfl
        · rw [if_neg e]
          by_cases hlt : 1 < n
          · rw [if_pos hlt, if_pos (by omega)]; omega
          · rw [if_neg hlt, if_neg (by omega)]; omega
    exact ⟨by rw [hs 16 (by omega)]; rfl, by rw [hu 16 (by omega)]; rfl⟩

theorem us_bound {l : List Int} (hl : Lens l) : us l 16 ≤ 288 * 16384 := by
  rw [us_sum hl.2]
  have : ∀ l : List Int, usum l ≤ l.length * 16384 := by
    intro l
    induction l with
    | nil => simp [usum]
    | cons a l ih =>
      have : wt a ≤ 16384 := by
        unfold wt
        by_cases h : 0 < a
        · rw [if_pos h]
          have : 2 ^ (15 - a.toNat) ≤ 2 ^ 14 := Nat.pow_le_pow_right (by decide) (by omega)
          omega
        · rw [if_neg h]; omega
      simp only [usum, List.map_cons, List.sum_cons, List.length_cons] at ih ⊢
      omega
  exact Nat.le_trans (this l) (Nat.mul_le_mul_right _ hl.1)

theorem fi_bound {l : List Int} (hl : Lens l) : ∀ n, n ≤ 15 → fi l n + 576 ≤ 288 * 2 ^ (n + 1)
  | 0, _ => by simp [fi]
  | n + 1, h => by
    have ih := fi_bound hl n (by omega)
    have hc := cn_le l n
    have h2 := hl.1
    simp only [fi]
    rw [Nat.pow_succ 2 (n + 1)]
    omega

theorem fi_top {l : List Int} (hl : Lens l) {n : Nat} (h : n ≤ 15) : fi l n ≤ 18874368 := by
  have h1 := fi_bound hl n h
  have h2 : 2 ^ (n + 1) ≤ 2 ^ 16 := Nat.pow_le_pow_right (by decide) (by omega)
  omega

end Go.Proofs.Ytncniahpglgkmaa

namespace Go.Proofs.Ytncniahpglgkmaa
open Go.RowKit Go.Maps
set_option maxRecDepth 20000

def SI (w : World) (v : Value) (l : List Int) : Prop :=
  ∃ ao cap, v = .slice ao l.length cap ∧ l.length ≤ cap ∧ cap ≤ maxLen ∧ (ao = none → cap = 0) ∧ ∀ x, ao = some x → ∀ i, i < l.length → w.cell? (x.add i) = some (.int .i64 (l.getD i 0))

def OI (w : World) (base : Nat) (v : Value) (l : List Int) : Prop := w.ownsRow base 3 1 v l.length (l.map (Value.int .i64))

theorem SI.move {w w' : World} {v : Value} {l : List Int} (h : SI w v l) (hc : ∀ a u, w.cell? a = some u → v.ownBlock = some a.block → w'.cell? a = some u) : SI w' v l := by
  obtain ⟨ao, cap, rfl, h1, h2, h3, h4⟩ := h
  refine ⟨ao, cap, rfl, h1, h2, h3, fun x hx i hi => hc _ _ (h4 x hx i hi) ?_⟩
  subst hx; simp [Value.ownBlock, add_block]

theorem SI.below {w w' : World} {v : Value} {l : List Int} (h : SI w v l) (hb : Below w.heap.size w w') : SI w' v l :=
  h.move fun a _ ha _ => (hb.cell (World.block_lt_of_cell? w a ha)).trans ha

theorem OI.lt {w : World} {base : Nat} {v : Value} {l : List Int} (h : OI w base v l) : ∀ k, v.ownBlock = some k → base ≤ k ∧ k < w.heap.size := World.ownsRow.lt h

theorem OI.sb {w : World} {base : Nat} {v : Value} {l : List Int} (h : OI w base v l) : SI w v l := by
  have hc := @World.ownsRow.cells _ _ _ _ _ _ _ h
  rcases h.2 with ⟨rfl, h0⟩ | ⟨g, cap, cur, rfl, _, _, h3, h4, _, _⟩
  · obtain rfl : l = [] := List.eq_nil_of_length_eq_zero h0
    exact ⟨none, 0, rfl, Nat.le_refl _, Nat.zero_le _, fun _ => rfl, fun x hx => by cases hx⟩
  · refine ⟨some ⟨g, 0, none⟩, cap, rfl, h3, h4, (fun e => by cases e), fun x hx i hi => ?_⟩
    cases hx
    refine hc (g := g) rfl i _ ?_
    simp [hi]

theorem OI.shape {w : World} {base : Nat} {v : Value} {l : List Int} (h : OI w base v l) : ∃ a c, v = .slice a l.length c := by
  rcases h.2 with ⟨rfl, h0⟩ | ⟨g, cap, cur, rfl, _⟩
  · exact ⟨none, 0, by rw [h0]⟩
  · exact ⟨_, _, rfl⟩

theorem OI.move {w w' : World} {base : Nat} {v : Value} {l : List Int} (h : OI w base v l) (hb : ∀ k, v.ownBlock = some k → w'.heap[k]? = w.heap[k]?) : OI w' base v l := by
  refine ⟨h.1, ?_⟩
  rcases h.2 with h2 | ⟨g, cap, cur, rfl, h1, h2, r⟩
  · exact .inl h2
  · exact .inr ⟨g, cap, cur, rfl, h1, (hb g rfl).trans h2, r⟩

theorem OI.base {w : World} {base base' : Nat} {v : Value} {l : List Int} (h : OI w base v l) (hb : base' ≤ base) : OI w base' v l := by
  refine ⟨h.1, ?_⟩
  rcases h.2 with h2 | ⟨g, cap, cur, rfl, h1, r⟩
  · exact .inl h2
  · exact .inr ⟨g, cap, cur, rfl, Nat.le_trans hb h1, r⟩

theorem OI.below {w w' : World} {base B : Nat} {v : Value} {l : List Int} (h : OI w base v l) (hb : Below B w w') (hB : w.heap.size ≤ B) : OI w' base v l :=
  h.move fun k hk => hb.block k (Nat.lt_of_lt_of_le (h.lt k hk).2 hB)

theorem infoInt : (Try.prog.info? 3).map (fun i => (i.zero, i.size, i.bytes)) = some (some (.int .i64 0), 1, 8) := by kernel_rfl

theorem madeInts (n : Nat) : (madeCells #[Value.int .i64 0] n).toList = List.replicate n (Value.int .i64 0) := by
  have e : ∀ k : Nat, [Value.int IntKind.i64 0][k % 1]?.getD default = Value.int .i64 0 := fun k => by simp [Nat.mod_one]
  simp only [madeCells]
  simp [e, List.map_const']

theorem ownsRowI_full {w : World} {base g n : Nat} {xs : List Value} (h : w.ownsRow base 3 1 (.slice (some ⟨g, 0, none⟩) n n) n xs) : w.heap[g]? = some (.cells xs.toArray 3 (0, 0)) ∧ base ≤ g := by
  obtain ⟨hl, h | ⟨g', cap, cur, he, hb, hg, _, _, hs, ht⟩⟩ := h
  · exact absurd h.1 (by simp)
  · simp only [Value.slice.injEq, Option.some.injEq, Addr.mk.injEq] at he
    obtain ⟨⟨rfl, -, -⟩, -, rfl⟩ := he
    have : cur = xs.toArray := by
      apply Array.ext'
      rw [← ht, List.take_of_length_le (by simp [hs])]
    exact ⟨by rw [hg, this], hb⟩

theorem OI.of_full {w : World} {base g : Nat} {l : List Int} (hg : w.heap[g]? = some (.cells (l.map (Value.int .i64)).toArray 3 (0, 0))) (hb : base ≤ g) (hm : l.length ≤ maxLen) : OI w base (.slice (some ⟨g, 0, none⟩) l.length l.length) l :=
  ⟨by simp, .inr ⟨g, l.length, _, rfl, hb, hg, Nat.le_refl _, hm, by simp, List.take_of_length_le (by simp)⟩⟩

theorem run_appI_none (w : World) (tx ty : TypeId) (i : TypeInfo) (hi : Try.prog.info? 3 = some i) (x : Value) (hs : Src Try.prog i.size tx x 0 [] w) :
    (Builtin.append_ #[23, tx] ty #[.slice none 0 0, x]).run Try.prog w = .ok (.slice none 0 0) w := by
  rcases hs.kind with ⟨e', hk⟩ | hk <;> simp [Builtin.append_, run_underlying Try.underlying23, run_underlying hk, sizeOf, typeInfo, hi, hs.len, hs.cells]

theorem run_appI (w : World) (base : Nat) (tx ty : TypeId) (v x : Value) (l news : List Int) (hown : OI w base v l) (hs : Src Try.prog 1 tx x news.length (news.map (Value.int .i64)) w)
    (hb : l.length + news.length ≤ 17592186044416) (hbase : base ≤ w.heap.size) :
    ∃ v' w', (Builtin.append_ #[23, tx] ty #[v, x]).run Try.prog w = .ok v' w' ∧ OI w' base v' (l ++ news) ∧ Grew w w' v v' ∧ OI w' base v l := by
  obtain ⟨i, hi, hz, hsz, hby⟩ := info_parts infoInt
  have hs' : Src Try.prog i.size tx x news.length (news.map (Value.int .i64)) w := by rw [hsz]; exact hs
  have hmx : l.length + news.length ≤ maxLen := by unfold maxLen; omega
  have grown : ∀ old, old < l.length + news.length → (OI (w.drew.alloc (.cells ((l.map (Value.int .i64) ++ news.map (Value.int .i64)).toArray ++ Builtin.zeroCells (Value.int .i64 0).cells (grownCap w (l.length + news.length) old 3 - (l.length + news.length))) 3)) base
      (.slice (some ⟨w.heap.size, 0, none⟩) (l.length + news.length) (grownCap w (l.length + news.length) old 3)) (l ++ news)) := by
    intro old ho
    have hge := grownCap_ge w (l.length + news.length) old 3
    have hcm : grownCap w (l.length + news.length) old 3 ≤ maxLen := grownCap_le_maxLen w (l.length + news.length) old 3 hmx
    refine ⟨by simp, .inr ⟨w.heap.size, grownCap w (l.length + news.length) old 3, _, by rw [List.length_append], hbase, heap_alloc_new w.drew _, by rw [List.length_append]; exact hge, hcm, ?_, ?_⟩⟩
    · simp only [Array.size_append, List.size_toArray, List.length_append, List.length_map, size_zeroCells, Value.cells]
      simp
      omega
    · simp only [Array.toList_append, List.map_append]
      rw [List.take_append_of_le_length (by simp)]
      exact List.take_of_length_le (by simp)
  rcases hown.2 with ⟨rfl, h0⟩ | ⟨g, cap, cur, rfl, hbg, hg, hnc, hcm, hcs, htake⟩
  · obtain rfl : l = [] := List.eq_nil_of_length_eq_zero h0
    by_cases hm : news = []
    · subst hm
      exact ⟨_, _, run_appI_none w tx ty i hi x hs', hown, .inl ⟨rfl, rfl⟩, hown⟩
    · have hpos : 0 < news.length := List.length_pos_iff.2 hm
      have hr := run_append_grow_src (P := Try.prog) w 23 tx ty 3 i (.int .i64 0) Try.underlying23 hi hz none 0 0 [] (run_firstCells_none w.drew i.size 0 0 0) x news.length _ hs' (by omega) (by omega) (by rw [hby]; exact growslice_fits (by omega) (by simp at hb ⊢; omega))
      have hgr := grown 0 (by simp; omega)
      simp only [List.length_nil, Nat.zero_add, List.map_nil, List.nil_append] at hgr hr ⊢
      exact ⟨_, _, hr, hgr, .inr (.inl ⟨rfl, (Below.refl _ _).drew.alloc (Nat.le_refl _) _⟩), World.ownsRow_nil _ _ _ _⟩
  · by_cases hroom : l.length + news.length ≤ cap
    · have hfit : l.length * i.size + (news.map (Value.int .i64)).length ≤ cur.size := by rw [hsz, hcs]; simp; omega
      have hst := run_storeCells_at Try.prog g (l.length * i.size) 3 (news.map (Value.int .i64)) 0 cur w hg (by simpa using hfit) hs.one
      simp only [Nat.add_zero] at hst
      have hr : (Builtin.append_ #[23, tx] ty #[.slice (some ⟨g, 0, none⟩) l.length cap, x]).run Try.prog w =
          .ok (.slice (some ⟨g, 0, none⟩) (l.length + news.length) cap) (w.setRow g (cur.toList.take (l.length * i.size) ++ news.map (Value.int .i64) ++ cur.toList.drop (l.length * i.size + (news.map (Value.int .i64)).length)).toArray) := by
        rcases hs'.kind with ⟨e', hk⟩ | hk <;> simp [Builtin.append_, run_underlying Try.underlying23, run_underlying hk, sizeOf, typeInfo, hi, hs'.len, hroom, hs'.cells, Addr.add_lit, hst]
      refine ⟨_, _, hr, ⟨by simp, .inr ⟨g, cap, _, by rw [List.length_append], hbg, setRow_heap w g cur _ 3 _ hg, by rw [List.length_append]; exact hroom, hcm, ?_, ?_⟩⟩, .inr (.inr ⟨rfl, by simp [World.setRow], ⟨rfl, rfl, rfl, by simp, fun k _ hk => setRow_other w g k _ (fun e => hk (by simp [Value.ownBlock, e]))⟩⟩), ⟨by simp, .inr ⟨g, cap, _, rfl, hbg, setRow_heap w g cur _ 3 _ hg, hnc, hcm, ?_, ?_⟩⟩⟩
      · rw [hsz]
        simp only [List.size_toArray, List.length_append, List.length_take, List.length_drop, Array.length_toList, List.length_map]
        omega
      · rw [hsz, htake]
        simp only [List.map_append]
        rw [List.take_append_of_le_length (by simp)]
        exact List.take_of_length_le (by simp)
      · rw [hsz]
        simp only [List.size_toArray, List.length_append, List.length_take, List.length_drop, Array.length_toList, List.length_map]
        omega
      · rw [hsz, htake]
        simp only [List.append_assoc]
        rw [List.take_append_of_le_length (by simp)]
        exact List.take_of_length_le (by simp)
    · have holds : ∀ j u, (l.map (Value.int .i64))[j]? = some u → w.drew.cell? ((⟨g, 0, none⟩ : Addr).add j) = some u := World.ownsRow.cells hown (g := g) rfl
      have hr := run_append_grow_src (P := Try.prog) w 23 tx ty 3 i (.int .i64 0) Try.underlying23 hi hz (some ⟨g, 0, none⟩) l.length cap (l.map (Value.int .i64)) (run_firstCells_some w.drew i.size l.length ⟨g, 0, none⟩ l.length cap _ (by rw [hsz]; simp) holds) x news.length _ hs' (by omega) (by omega) (by rw [hby]; exact growslice_fits (by omega) (by omega))
      exact ⟨_, _, hr, grown cap (by omega), .inr (.inl ⟨rfl, (Below.refl _ _).drew.alloc (Nat.le_refl _) _⟩), hown.below ((Below.refl w.heap.size w).drew.alloc (Nat.le_refl _) _) (Nat.le_refl _)⟩

theorem wpList_appI {w : World} {ops : Array Oper} {rest : List Oper} {o : Oper} {a : Act} {Q : Exit → Act → World → Prop} (hgd : o.guard = none) (s x : Operand) (tx : TypeId)
    (ho : o.op = .call { callee := .builtin .append, args := #[s, x], argTypes := #[23, tx] }) (base : Nat) (v xv : Value) (l news : List Int) (hv : a.eval s = v) (hown : OI w base v l) (hx : a.eval x = xv) (hs : Src Try.prog 1 tx xv news.length (news.map (Value.int .i64)) w)
    (hb : l.length + news.length ≤ 17592186044416) (hbase : base ≤ w.heap.size)
    (h : ∀ v' w', OI w' base v' (l ++ news) → Grew w w' v v' → wpList Try.prog ops Q rest (a.put o.dst v') w') : wpList Try.prog ops Q (o :: rest) a w := by
  refine wpList_plain hgd fun K hK => ?_
  obtain ⟨v', w', hr, h2, h3, _⟩ := run_appI w base tx o.type v xv l news hown hs hb hbase
  unfold Oper.wp
  simp [execOp, ho, resolve, invoke, builtin, hv, hx, hr, Result.andThen]
  exact hK _ _ (h v' w' h2 h3)

theorem wpList_appK {w : World} {ops : Array Oper} {rest : List Oper} {o : Oper} {a : Act} {Q : Exit → Act → World → Prop} (hgd : o.guard = none) (s x : Operand) (tx : TypeId)
    (ho : o.op = .call { callee := .builtin .append, args := #[s, x], argTypes := #[23, tx] }) (base : Nat) (v xv : Value) (l news : List Int) (hv : a.eval s = v) (hown : OI w base v l) (hx : a.eval x = xv) (hs : Src Try.prog 1 tx xv news.length (news.map (Value.int .i64)) w)
    (hb : l.length + news.length ≤ 17592186044416) (hbase : base ≤ w.heap.size)
    (h : ∀ v' w', OI w' base v' (l ++ news) → Grew w w' v v' → OI w' base v l → wpList Try.prog ops Q rest (a.put o.dst v') w') : wpList Try.prog ops Q (o :: rest) a w := by
  refine wpList_plain hgd fun K hK => ?_
  obtain ⟨v', w', hr, h2, h3, h4⟩ := run_appI w base tx o.type v xv l news hown hs hb hbase
  unfold Oper.wp
  simp [execOp, ho, resolve, invoke, builtin, hv, hx, hr, Result.andThen]
  exact hK _ _ (h v' w' h2 h3 h4)

theorem SI.src {w : World} {v : Value} {l : List Int} (h : SI w v l) : Src Try.prog 1 23 v l.length (l.map (Value.int .i64)) w := by
  obtain ⟨ao, cap, rfl, h1, h2, h3, h4⟩ := h
  cases ao with
  | none =>
    have hc := h3 rfl
    obtain rfl : l = [] := List.eq_nil_of_length_eq_zero (by omega)
    exact Src.ofNil w Try.underlying23 cap
  | some a =>
    refine Src.ofSlice w Try.underlying23 a l.length cap _ (by simp) (fun j u hj => ?_) (fun u hu => by obtain ⟨n, _, rfl⟩ := List.mem_map.1 hu; rfl)
    obtain ⟨hjl, rfl⟩ := List.getElem?_eq_some_iff.1 hj
    have hjl' : j < l.length := by simpa using hjl
    rw [h4 a rfl j hjl']
    simp [hjl']

theorem built_srcI (w : World) (cs : List Int) : Src Try.prog 1 23 (.slice (some ⟨w.heap.size, 0, none⟩) cs.length cs.length) cs.length (cs.map (Value.int .i64)) (w.alloc (.cells (cs.map (Value.int .i64)).toArray 3)) := by
  refine Src.ofSlice _ Try.underlying23 _ _ _ _ (by simp) (fun j u hj => ?_) (fun u hu => by obtain ⟨n, _, rfl⟩ := List.mem_map.1 hu; rfl)
  have e := heap_alloc_new w (.cells (cs.map (Value.int .i64)).toArray 3)
  rw [Addr.add_lit]
  unfold World.cell?
  simp only [e, Nat.zero_add]
  simpa using hj

theorem OI.alloc {w : World} {base : Nat} {v : Value} {l : List Int} (h : OI w base v l) (o : Obj) : OI (w.alloc o) base v l := h.move fun k hk => Below.heap_alloc w o k (h.lt k hk).2

theorem wpList_mkI {w : World} {ops : Array Oper} {rest : List Oper} {o : Oper} {a : Act} {Q : Exit → Act → World → Prop} (hg : o.guard = none) (l c : Operand) (hop : o.op = Op.makeSlice 23 l c)
    (kl kc : IntKind) (L C : Int) (n m : Nat) (hl : a.eval l = .int kl L) (hc : a.eval c = .int kc C) (hL : L = (n : Int)) (hC : C = (m : Int)) (hnm : n ≤ m) (b2 : m ≤ 17592186044416)
    (hK : ∀ w', w'.heap[w.heap.size]? = some (.cells (List.replicate m (Value.int .i64 0)).toArray 3 (0, 0)) → Below w.heap.size w w' → wpList Try.prog ops Q rest (a.put o.dst (.slice (some ⟨w.heap.size, 0, none⟩) n m)) w') :
    wpList Try.prog ops Q (o :: rest) a w := by
  obtain ⟨i0, hi, hz0, hz1, hz2⟩ := info_parts infoInt
  refine wpList_plain hg fun K hK' => ?_
  have hr := run_make (P := Try.prog) w 23 3 i0 (.int .i64 0) Try.underlying23 hi hz0 kl kc (n : Int) (m : Int) (by omega) (by omega) (by rw [hz2]; omega) (by omega)
  subst hL hC
  unfold Oper.wp
  simp [execOp, hop, hl, hc, hr, Result.andThen]
  refine hK' _ _ (hK _ ?_ ((Below.refl _ _).alloc (Nat.le_refl _) _))
  rw [heap_alloc_new, hz1, Nat.mul_one]
  have e : (madeCells (Value.int .i64 0).cells m) = (List.replicate m (Value.int .i64 0)).toArray := by
    apply Array.ext'
    exact madeInts m
  rw [e]

theorem sizeInt : (Try.prog.info? 3).map (·.size) = some 1 := by kernel_rfl

def eqI (l1 l2 : List Int) : Bool := decide (l1 = l2)

end Go.Proofs.Ytncniahpglgkmaa

