import Derived.Test.YtiabhmdefaabgabDoorGVd2
namespace Go.Proofs.YtiabhmdefaabgabDoor
open Go.RowKit Go.Maps
set_option maxRecDepth 20000
set_option linter.unusedVariables false

/-- The lengths of the runs' words under a code, together. -/
def gsm (o : List Int) : List Rn → Int
  | [] => 0
  | r :: R => o.getD r.1.toNat 0 + gsm o R

theorem gsm_snoc (o : List Int) (R : List Rn) (r : Rn) : gsm o (R ++ [r]) = gsm o R + o.getD r.1.toNat 0 := by
  induction R with
  | nil => simp [gsm]
  | cons a R ih => simp only [List.cons_append, gsm, ih]; omega

theorem sum_filter {α : Type} (p : α → Bool) (f : α → Nat) (L : List α) (h : ∀ s ∈ L, p s = false → f s = 0) : ((L.filter p).map f).sum = (L.map f).sum := by
  induction L with
  | nil => rfl
  | cons a L ih =>
    have i := ih fun s hs => h s (List.mem_cons_of_mem _ hs)
    cases q : p a with
    | true => rw [List.filter_cons_of_pos q, List.map_cons, List.map_cons, List.sum_cons, List.sum_cons, i]
    | false =>
      rw [List.filter_cons_of_neg (by simp [q]), List.map_cons, List.sum_cons, i, h a List.mem_cons_self q]
      omega

theorem sum_one (g : Nat → Nat) (k : Nat) : ∀ n, ((List.range n).map fun s => (if s = k then 1 else 0) * g s).sum = if k < n then g k else 0
  | 0 => by simp
  | n + 1 => by
    rw [List.range_succ, List.map_append, List.sum_append, sum_one g k n]
    simp only [List.map_cons, List.map_nil, List.sum_cons, List.sum_nil]
    by_cases h : n = k
    · subst h
      rw [if_pos rfl, if_neg (by omega), if_pos (by omega)]
      omega
    · rw [if_neg h]
      by_cases q : k < n
      · rw [if_pos q, if_pos (by omega)]; omega
      · rw [if_neg q, if_neg (by omega)]; omega

theorem sum_add (a b : Nat → Nat) (L : List Nat) : (L.map fun s => a s + b s).sum = (L.map a).sum + (L.map b).sum := by
  induction L with
  | nil => rfl
  | cons x L ih => simp only [List.map_cons, List.sum_cons, ih]; omega

theorem fq_usg (R : List Rn) {s : Nat} (h : s < 19) : fq (usg R) s = (R.map (·.1)).count (s : Int) := by
  unfold fq
  rw [usg_at R h]
  simp

theorem sum_runs (g : Nat → Nat) : ∀ R : List Rn, (∀ r ∈ R, Okr r) → ((List.range 19).map fun s => fq (usg R) s * g s).sum = (R.map fun r => g r.1.toNat).sum
  | [], _ => by
    have : ((List.range 19).map fun s => fq (usg []) s * g s) = (List.range 19).map fun _ => 0 := by
      apply List.map_congr_left
      intro s hs
      rw [fq_usg [] (List.mem_range.1 hs)]
      simp
    rw [this]
    rfl
  | r :: R, h => by
    have i := sum_runs g R fun x hx => h x (List.mem_cons_of_mem _ hx)
    obtain ⟨k, c, e, hk, _⟩ := okr_parts (h r List.mem_cons_self)
    have e1 : r.1 = (k : Int) := by rw [e]
    have : ((List.range 19).map fun s => fq (usg (r :: R)) s * g s) = (List.range 19).map fun s => fq (usg R) s * g s + (if s = k then 1 else 0) * g s := by
      apply List.map_congr_left
      intro s hs
      have hs' := List.mem_range.1 hs
      have hq : (if ((k : Int) == (s : Int)) = true then 1 else 0) = (if s = k then 1 else 0 : Nat) := by
        by_cases q : s = k
        · subst q; simp
        · have : ¬ ((k : Int) == (s : Int)) = true := by simp; omega
          rw [if_neg q, if_neg this]
      rw [fq_usg _ hs', fq_usg _ hs', List.map_cons, List.count_cons, e1, hq, Nat.add_mul]
    rw [this, sum_add, i, sum_one g k 19, if_pos hk, List.map_cons, List.sum_cons, e1, Int.toNat_natCast]
    omega

theorem fl_runs (g : Nat → Nat) (R : List Rn) (h : ∀ r ∈ R, Okr r) : fl (fq (usg R)) g (us6 (usg R)) = (R.map fun r => g r.1.toNat).sum := by
  rw [← sum_runs g R h]
  unfold fl us6 usk
  rw [usg_len]
  refine sum_filter _ (fun s => fq (usg R) s * g s) _ (fun s hs q => ?_)
  simp only [decide_eq_false_iff_not] at q
  have : fq (usg R) s = 0 := by unfold fq; omega
  simp [this]

theorem gsm_nat {o : List Int} (ho : ∀ s, 0 ≤ o.getD s 0) (R : List Rn) : gsm o R = ((R.map fun r => nn o r.1.toNat).sum : Nat) := by
  induction R with
  | nil => rfl
  | cons r R ih =>
    simp only [gsm, List.map_cons, List.sum_cons, ih]
    have := ho r.1.toNat
    unfold nn
    omega

theorem usum_range (o : List Int) : usum o = ((List.range o.length).map fun s => wt (o.getD s 0)).sum := by
  unfold usum
  congr 1
  apply List.ext_getElem
  · simp
  · intro i h1 h2
    simp at h1
    simp [h1]

theorem kr_small {f o : List Int} (hl : o.length = f.length) (ho : ∀ s ∈ us6 f, 1 ≤ o.getD s 0 ∧ o.getD s 0 ≤ 7) (hu : usum o ≤ 32768) : kr (nn o) (us6 f) ≤ 2 ^ 60 := by
  have e1 : kr (nn o) (us6 f) = 2 ^ 45 * ((us6 f).map fun s => wt (o.getD s 0)).sum := by
    unfold kr
    have : ∀ L : List Nat, (∀ s ∈ L, 1 ≤ o.getD s 0 ∧ o.getD s 0 ≤ 7) → (L.map fun s => 2 ^ (60 - nn o s)).sum = 2 ^ 45 * (L.map fun s => wt (o.getD s 0)).sum := by
      intro L hL
      induction L with
      | nil => rfl
      | cons a L ih =>
        have h := hL a List.mem_cons_self
        rw [List.map_cons, List.map_cons, List.sum_cons, List.sum_cons, ih (fun s hs => hL s (List.mem_cons_of_mem _ hs)), Nat.mul_add]
        congr 1
        unfold nn wt
        rw [if_pos (by omega), ← Nat.pow_add]
        congr 1
        omega
    exact this _ ho
  have e2 : ((us6 f).map fun s => wt (o.getD s 0)).sum ≤ usum o := by
    rw [usum_range, hl]
    unfold us6 usk
    have : ∀ L : List Nat, ((L.filter fun s => decide (0 < f.getD s 0)).map fun s => wt (o.getD s 0)).sum ≤ (L.map fun s => wt (o.getD s 0)).sum := by
      intro L
      induction L with
      | nil => exact Nat.le_refl _
      | cons a L ih =>
        by_cases q : 0 < f.getD a 0
        · rw [List.filter_cons_of_pos (by simpa using q)]; simp only [List.map_cons, List.sum_cons]; omega
        · rw [List.filter_cons_of_neg (by simpa using q)]; simp only [List.map_cons, List.sum_cons]; omega
    exact this _
  rw [e1]
  have : ((us6 f).map fun s => wt (o.getD s 0)).sum ≤ 32768 := Nat.le_trans e2 hu
  calc 2 ^ 45 * ((us6 f).map fun s => wt (o.getD s 0)).sum ≤ 2 ^ 45 * 32768 := Nat.mul_le_mul_left _ this
    _ = 2 ^ 60 := by decide

theorem mem_usg {R : List Rn} {s : Nat} (h : s ∈ us6 (usg R)) : ∃ r ∈ R, r.1 = (s : Int) := by
  obtain ⟨h1, h2⟩ := mem_us.1 h
  rw [usg_len] at h1
  rw [usg_at R h1] at h2
  have : 0 < (R.map (·.1)).count (s : Int) := by omega
  obtain ⟨r, hr, e⟩ := List.mem_map.1 (List.count_pos_iff.1 this)
  exact ⟨r, hr, e⟩

/-- No other small code gives the runs fewer bits. -/
theorem small_best {R : List Rn} {o : List Int} (hR : R.length ≤ 1048576) (hok : ∀ r ∈ R, Okr r) (hl : o.length = 19) (h7 : ∀ s, 0 ≤ o.getD s 0 ∧ o.getD s 0 ≤ 7) (hu : usum o ≤ 32768) (hz : ∀ r ∈ R, o.getD r.1.toNat 0 ≠ 0) : gsm (lmt (usg R) 7) R ≤ gsm o R := by
  have hs : ∀ s ∈ us6 (usg R), 1 ≤ o.getD s 0 ∧ o.getD s 0 ≤ 7 := fun s hm => by
    obtain ⟨r, hr, e⟩ := mem_usg hm
    have := hz r hr
    rw [e, Int.toNat_natCast] at this
    have := h7 s
    omega
  have hk := kr_small (f := usg R) (o := o) (by rw [usg_len]; exact hl) hs hu
  have hb := lm_best (f := usg R) (o := o) (L := 7) (usg_sound hR) (by omega) (usg_us R) (fun s hm => by have := hs s hm; omega) hk
  rw [fl_runs _ R hok, fl_runs _ R hok] at hb
  rw [gsm_nat (fun s => ((lmt7 hR).2 s).1) R, gsm_nat (fun s => (h7 s).1) R]
  omega
end Go.Proofs.YtiabhmdefaabgabDoor

