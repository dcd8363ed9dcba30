import Derived.Test.YtpmgnpfpnkmmbaaGreatDoorG30Mk5
import Derived.Test.YtpmgnpfpnkmmbaaGreatDoorG29Mx1
namespace Go.Proofs.YtpmgnpfpnkmmbaaGreatDoor
open Go.RowKit Go.Maps
set_option maxRecDepth 20000
set_option linter.unusedVariables false

theorem shr_div : ∀ y : Fin 16, (32768 : Int) / 2 ^ y.val = ((2 ^ (15 - y.val) : Nat) : Int) := by decide

theorem sums_snoc {l : List Int} {k : Nat} (h : k < l.length) : usum (l.take (k + 1)) = usum (l.take k) + wt (l.getD k 0) ∧ tsum (l.take (k + 1)) = tsum (l.take k) + one (l.getD k 0) := by
  have e : l.take (k + 1) = l.take k ++ [l.getD k 0] := by rw [List.take_succ_eq_append_getElem h]; simp [h]
  rw [e]
  simp [usum, tsum]

theorem sums_le (l : List Int) : usum l ≤ l.length * 32768 ∧ tsum l ≤ l.length := by
  induction l with
  | nil => simp [usum, tsum]
  | cons a l ih =>
    have h1 : wt a ≤ 32768 := by
      unfold wt
      split
      · exact Nat.pow_le_pow_right (n := 2) (by decide) (show 15 - a.toNat ≤ 15 by omega)
      · omega
    have h2 : one a ≤ 1 := by unfold one; split <;> omega
    simp only [usum, tsum, List.map_cons, List.sum_cons, List.length_cons] at ih ⊢
    omega

/-- Is the code complete, or a single word of one bit? -/
def ful (l : List Int) : Bool := decide (usum l = 32768 ∨ (tsum l = 1 ∧ usum l = 16384))

/-- The error that Make must answer, by Kraft's sum alone. -/
def vdE (l d : List Int) : Int := if 286 < l.length ∨ 30 < d.length ∨ wthb l = false ∨ wthb d = false then 1 else if l.length < 257 ∨ l.getD 256 0 = 0 ∨ ful l = false then 75 else if 0 < tsum d ∧ ful d = false then 76 else 0
end Go.Proofs.YtpmgnpfpnkmmbaaGreatDoor

namespace Go.Proofs.YtpmgnpfpnkmmbaaGreatDoor
open Go.RowKit Go.Maps
set_option maxRecDepth 20000
set_option linter.unusedVariables false

theorem sums_app (a b : List Int) : usum (a ++ b) = usum a + usum b ∧ tsum (a ++ b) = tsum a + tsum b := by simp [usum, tsum]
theorem sums_zero {l : List Int} (h : ∀ x ∈ l, x = 0) : usum l = 0 ∧ tsum l = 0 := by
  induction l with
  | nil => exact ⟨rfl, rfl⟩
  | cons a l ih =>
    obtain ⟨i1, i2⟩ := ih fun x hx => h x (List.mem_cons_of_mem _ hx)
    have := h a List.mem_cons_self
    subst this
    simp only [usum, tsum, List.map_cons, List.sum_cons] at i1 i2 ⊢
    rw [i1, i2]
    exact ⟨rfl, rfl⟩
theorem tsum_usum {l : List Int} (h : tsum l = 0) : usum l = 0 := by
  induction l with
  | nil => rfl
  | cons a l ih =>
    simp only [usum, tsum, List.map_cons, List.sum_cons] at h ih ⊢
    have h1 : one a = 0 := by omega
    have h2 := ih (by omega)
    rw [h2]
    unfold one at h1
    unfold wt
    split at h1
    · omega
    · rename_i q; rw [if_neg q]

theorem trm_sums (l : List Int) (f : Nat) : usum (trm l f) = usum l ∧ tsum (trm l f) = tsum l := by
  have hle := tln_le l f
  obtain ⟨z1, z2⟩ := sums_zero (l := List.replicate (f - tln l f) 0) (fun x hx => (List.mem_replicate.1 hx).2)
  obtain ⟨y1, y2⟩ := sums_zero (l := l.drop (tln l f)) (fun x hx => by
    obtain ⟨i, hi, rfl⟩ := List.getElem_of_mem hx
    rw [List.length_drop] at hi
    have := tl_zero l f l.length (tln l f + i) (by unfold tln; omega) (by omega)
    rw [List.getElem_drop]
    rw [List.getD_eq_getElem?_getD, List.getElem?_eq_getElem (by omega)] at this
    simpa using this)
  have e : l = l.take (tln l f) ++ l.drop (tln l f) := (List.take_append_drop _ _).symm
  obtain ⟨a1, a2⟩ := sums_app (l.take (tln l f)) (List.replicate (f - tln l f) 0)
  obtain ⟨b1, b2⟩ := sums_app (l.take (tln l f)) (l.drop (tln l f))
  rw [← e] at b1 b2
  unfold trm
  omega

theorem trm_lens2 {l : List Int} {f : Nat} (hl : l.length ≤ 286) (hf : f ≤ 257) (h : ∀ x ∈ l, 0 ≤ x ∧ x ≤ 15) : Lens (trm l f) := by
  have := trm_lens (l := l) hl hf
  exact ⟨by omega, trm_all l f h⟩

theorem shp_ful {l : List Int} : (shp l = 4 ∨ shp l = 1) ↔ ful l = true := by
  unfold shp ful
  rw [decide_eq_true_iff]
  by_cases c0 : tsum l = 0
  · rw [if_pos c0]
    have := tsum_usum c0
    omega
  · rw [if_neg c0]
    by_cases c1 : tsum l = 1 ∧ usum l = 16384
    · rw [if_pos c1]
      omega
    · rw [if_neg c1]
      by_cases c2 : 32768 < usum l
      · rw [if_pos c2]; omega
      · rw [if_neg c2]
        by_cases c3 : usum l = 32768
        · rw [if_pos c3]; omega
        · rw [if_neg c3]; omega
theorem shp_zero {l : List Int} : shp l = 0 ↔ tsum l = 0 := by
  unfold shp
  by_cases c0 : tsum l = 0
  · rw [if_pos c0]; simp [c0]
  · rw [if_neg c0]
    constructor
    · intro h
      split at h
      · omega
      · split at h
        · omega
        · split at h <;> omega
    · intro h; exact absurd h c0

theorem chkS_trm {l : List Int} {f : Nat} (hl : l.length ≤ 286) (hf : f ≤ 257) (h : ∀ x ∈ l, 0 ≤ x ∧ x ≤ 15) : chkS (trm l f) = shp l := by
  unfold chkS
  rw [if_pos (trm_lens2 hl hf h)]
  obtain ⟨a, b⟩ := trm_sums l f
  unfold shp
  rw [a, b]

/-- Make refuses just what Kraft's sum refuses. -/
theorem vd_mk (l d : List Int) : mkE l d = vdE l d := by
  unfold mkE vdE
  by_cases hb : 286 < l.length ∨ 30 < d.length ∨ wthb l = false ∨ wthb d = false
  · rw [if_pos hb, if_pos hb]
  · rw [if_neg hb, if_neg hb]
    have w1 : wthb l = true := by cases q : wthb l with
      | true => rfl
      | false => exact absurd (.inr (.inr (.inl q))) hb
    have w2 : wthb d = true := by cases q : wthb d with
      | true => rfl
      | false => exact absurd (.inr (.inr (.inr q))) hb
    have e1 : chkS (mkL l) = shp l := chkS_trm (by omega) (by omega) (wth_iff.1 w1)
    have e2 : chkS (mkD d) = shp d := chkS_trm (by omega) (by omega) (wth_iff.1 w2)
    have e3 : (mkL l).getD 256 0 = l.getD 256 0 := trm_getD l 257 256
    unfold hck
    rw [e1, e2, e3]
    have f1 := shp_ful (l := l)
    have f2 := shp_ful (l := d)
    have f3 := shp_zero (l := d)
    have hz : l.length < 257 → l.getD 256 0 = 0 := fun h => by rw [List.getD_eq_getElem?_getD, List.getElem?_eq_none (by omega)]; rfl
    by_cases c : l.length < 257 ∨ l.getD 256 0 = 0 ∨ ful l = false
    · rw [if_pos c, if_pos]
      rcases c with c | c | c
      · exact .inl (hz c)
      · exact .inl c
      · refine .inr ?_
        have : ¬ (shp l = 4 ∨ shp l = 1) := fun q => by rw [f1.1 q] at c; cases c
        omega
    · rw [if_neg c, if_neg]
      · by_cases t : 0 < tsum d ∧ ful d = false
        · rw [if_pos t, if_pos]
          have : ¬ (shp d = 4 ∨ shp d = 1) := fun q => by rw [f2.1 q] at t; exact absurd t.2 (by decide)
          have : ¬ shp d = 0 := fun q => by have := f3.1 q; omega
          omega
        · rw [if_neg t, if_neg]
          intro q
          refine t ⟨?_, ?_⟩
          · have : ¬ tsum d = 0 := fun z => by have := f3.2 z; omega
            omega
          · cases h : ful d with
            | false => rfl
            | true => have := f2.2 h; omega
      · rintro (q | q)
        · exact c (.inr (.inl q))
        · have : ful l = false := by
            cases h : ful l with
            | false => rfl
            | true => have := f1.2 h; omega
          exact c (.inr (.inr this))

end Go.Proofs.YtpmgnpfpnkmmbaaGreatDoor

namespace Go.Proofs.YtpmgnpfpnkmmbaaGreatDoor
open Go.RowKit Go.Maps
set_option maxRecDepth 20000
set_option linter.unusedVariables false

/-- The lengths of the runs' words under a code, together. -/
def gsm (o : List Int) : List Rn → Int
  | [] => 0
  | r :: R => o.getD r.1.toNat 0 + gsm o R

theorem gsm_snoc (o : List Int) (R : List Rn) (r : Rn) : gsm o (R ++ [r]) = gsm o R + o.getD r.1.toNat 0 := by
  induction R with
  | nil => simp [gsm]
  | cons a R ih => simp only [List.cons_append, gsm, ih]; omega

theorem sum_filter {α : Type} (p : α → Bool) (f : α → Nat) (L : List α) (h : ∀ s ∈ L, p s = false → f s = 0) : ((L.filter p).map f).sum = (L.map f).sum := by
  induction L with
  | nil => rfl
  | cons a L ih =>
    have i := ih fun s hs => h s (List.mem_cons_of_mem _ hs)
    cases q : p a with
    | true => rw [List.filter_cons_of_pos q, List.map_cons, List.map_cons, List.sum_cons, List.sum_cons, i]
    | false =>
      rw [List.filter_cons_of_neg (by simp [q]), List.map_cons, List.sum_cons, i, h a List.mem_cons_self q]
      omega

theorem sum_one (g : Nat → Nat) (k : Nat) : ∀ n, ((List.range n).map fun s => (if s = k then 1 else 0) * g s).sum = if k < n then g k else 0
  | 0 => by simp
  | n + 1 => by
    rw [List.range_succ, List.map_append, List.sum_append, sum_one g k n]
    simp only [List.map_cons, List.map_nil, List.sum_cons, List.sum_nil]
    by_cases h : n = k
    · subst h
      rw [if_pos rfl, if_neg (by omega), if_pos (by omega)]
      omega
    · rw [if_neg h]
      by_cases q : k < n
      · rw [if_pos q, if_pos (by omega)]; omega
      · rw [if_neg q, if_neg (by omega)]; omega

theorem sum_add (a b : Nat → Nat) (L : List Nat) : (L.map fun s => a s + b s).sum = (L.map a).sum + (L.map b).sum := by
  induction L with
  | nil => rfl
  | cons x L ih => simp only [List.map_cons, List.sum_cons, ih]; omega

theorem fq_usg (R : List Rn) {s : Nat} (h : s < 19) : fq (usg R) s = (R.map (·.1)).count (s : Int) := by
  unfold fq
  rw [usg_at R h]
  simp

theorem sum_runs (g : Nat → Nat) : ∀ R : List Rn, (∀ r ∈ R, Okr r) → ((List.range 19).map fun s => fq (usg R) s * g s).sum = (R.map fun r => g r.1.toNat).sum
  | [], _ => by
    have : ((List.range 19).map fun s => fq (usg []) s * g s) = (List.range 19).map fun _ => 0 := by
      apply List.map_congr_left
      intro s hs
      rw [fq_usg [] (List.mem_range.1 hs)]
      simp
    rw [this]
    rfl
  | r :: R, h => by
    have i := sum_runs g R fun x hx => h x (List.mem_cons_of_mem _ hx)
    obtain ⟨k, c, e, hk, _⟩ := okr_parts (h r List.mem_cons_self)
    have e1 : r.1 = (k : Int) := by rw [e]
    have : ((List.range 19).map fun s => fq (usg (r :: R)) s * g s) = (List.range 19).map fun s => fq (usg R) s * g s + (if s = k then 1 else 0) * g s := by
      apply List.map_congr_left
      intro s hs
      have hs' := List.mem_range.1 hs
      have hq : (if ((k : Int) == (s : Int)) = true then 1 else 0) = (if s = k then 1 else 0 : Nat) := by
        by_cases q : s = k
        · subst q; simp
        · have : ¬ ((k : Int) == (s : Int)) = true := by simp; omega
          rw [if_neg q, if_neg this]
      rw [fq_usg _ hs', fq_usg _ hs', List.map_cons, List.count_cons, e1, hq, Nat.add_mul]
    rw [this, sum_add, i, sum_one g k 19, if_pos hk, List.map_cons, List.sum_cons, e1, Int.toNat_natCast]
    omega

theorem fl_runs (g : Nat → Nat) (R : List Rn) (h : ∀ r ∈ R, Okr r) : fl (fq (usg R)) g (us6 (usg R)) = (R.map fun r => g r.1.toNat).sum := by
  rw [← sum_runs g R h]
  unfold fl us6 usk
  rw [usg_len]
  refine sum_filter _ (fun s => fq (usg R) s * g s) _ (fun s hs q => ?_)
  simp only [decide_eq_false_iff_not] at q
  have : fq (usg R) s = 0 := by unfold fq; omega
  simp [this]

theorem gsm_nat {o : List Int} (ho : ∀ s, 0 ≤ o.getD s 0) (R : List Rn) : gsm o R = ((R.map fun r => nn o r.1.toNat).sum : Nat) := by
  induction R with
  | nil => rfl
  | cons r R ih =>
    simp only [gsm, List.map_cons, List.sum_cons, ih]
    have := ho r.1.toNat
    unfold nn
    omega

theorem usum_range (o : List Int) : usum o = ((List.range o.length).map fun s => wt (o.getD s 0)).sum := by
  unfold usum
  congr 1
  apply List.ext_getElem
  · simp
  · intro i h1 h2
    simp at h1
    simp [h1]

theorem kr_small {f o : List Int} (hl : o.length = f.length) (ho : ∀ s ∈ us6 f, 1 ≤ o.getD s 0 ∧ o.getD s 0 ≤ 7) (hu : usum o ≤ 32768) : kr (nn o) (us6 f) ≤ 2 ^ 60 := by
  have e1 : kr (nn o) (us6 f) = 2 ^ 45 * ((us6 f).map fun s => wt (o.getD s 0)).sum := by
    unfold kr
    have : ∀ L : List Nat, (∀ s ∈ L, 1 ≤ o.getD s 0 ∧ o.getD s 0 ≤ 7) → (L.map fun s => 2 ^ (60 - nn o s)).sum = 2 ^ 45 * (L.map fun s => wt (o.getD s 0)).sum := by
      intro L hL
      induction L with
      | nil => rfl
      | cons a L ih =>
        have h := hL a List.mem_cons_self
        rw [List.map_cons, List.map_cons, List.sum_cons, List.sum_cons, ih (fun s hs => hL s (List.mem_cons_of_mem _ hs)), Nat.mul_add]
        congr 1
        unfold nn wt
        rw [if_pos (by omega), ← Nat.pow_add]
        congr 1
        omega
    exact this _ ho
  have e2 : ((us6 f).map fun s => wt (o.getD s 0)).sum ≤ usum o := by
    rw [usum_range, hl]
    unfold us6 usk
    have : ∀ L : List Nat, ((L.filter fun s => decide (0 < f.getD s 0)).map fun s => wt (o.getD s 0)).sum ≤ (L.map fun s => wt (o.getD s 0)).sum := by
      intro L
      induction L with
      | nil => exact Nat.le_refl _
      | cons a L ih =>
        by_cases q : 0 < f.getD a 0
        · rw [List.filter_cons_of_pos (by simpa using q)]; simp only [List.map_cons, List.sum_cons]; omega
        · rw [List.filter_cons_of_neg (by simpa using q)]; simp only [List.map_cons, List.sum_cons]; omega
    exact this _
  rw [e1]
  have : ((us6 f).map fun s => wt (o.getD s 0)).sum ≤ 32768 := Nat.le_trans e2 hu
  calc 2 ^ 45 * ((us6 f).map fun s => wt (o.getD s 0)).sum ≤ 2 ^ 45 * 32768 := Nat.mul_le_mul_left _ this
    _ = 2 ^ 60 := by decide

theorem mem_usg {R : List Rn} {s : Nat} (h : s ∈ us6 (usg R)) : ∃ r ∈ R, r.1 = (s : Int) := by
  obtain ⟨h1, h2⟩ := mem_us.1 h
  rw [usg_len] at h1
  rw [usg_at R h1] at h2
  have : 0 < (R.map (·.1)).count (s : Int) := by omega
  obtain ⟨r, hr, e⟩ := List.mem_map.1 (List.count_pos_iff.1 this)
  exact ⟨r, hr, e⟩

/-- No other small code gives the runs fewer bits. -/
theorem small_best {R : List Rn} {o : List Int} (hR : R.length ≤ 1048576) (hok : ∀ r ∈ R, Okr r) (hl : o.length = 19) (h7 : ∀ s, 0 ≤ o.getD s 0 ∧ o.getD s 0 ≤ 7) (hu : usum o ≤ 32768) (hz : ∀ r ∈ R, o.getD r.1.toNat 0 ≠ 0) : gsm (lmt (usg R) 7) R ≤ gsm o R := by
  have hs : ∀ s ∈ us6 (usg R), 1 ≤ o.getD s 0 ∧ o.getD s 0 ≤ 7 := fun s hm => by
    obtain ⟨r, hr, e⟩ := mem_usg hm
    have := hz r hr
    rw [e, Int.toNat_natCast] at this
    have := h7 s
    omega
  have hk := kr_small (f := usg R) (o := o) (by rw [usg_len]; exact hl) hs hu
  have hb := lm_best (f := usg R) (o := o) (L := 7) (usg_sound hR) (by omega) (usg_us R) (fun s hm => by have := hs s hm; omega) hk
  rw [fl_runs _ R hok, fl_runs _ R hok] at hb
  rw [gsm_nat (fun s => ((lmt7 hR).2 s).1) R, gsm_nat (fun s => (h7 s).1) R]
  omega
end Go.Proofs.YtpmgnpfpnkmmbaaGreatDoor

namespace Go.Proofs.YtpmgnpfpnkmmbaaGreatDoor
open Go.RowKit Go.Maps
set_option maxRecDepth 20000
set_option linter.unusedVariables false

theorem gsm_bound {C : List Int} (hC : ∀ s, 0 ≤ C.getD s 0 ∧ C.getD s 0 ≤ 15) (R : List Rn) : 0 ≤ gsm C R ∧ gsm C R ≤ 15 * R.length := by
  induction R with
  | nil => simp [gsm]
  | cons r R ih =>
    have := hC r.1.toNat
    simp only [gsm, List.length_cons]
    omega

theorem mk_facts {l d : List Int} (h : mkE l d = 0) : l.length ≤ 286 ∧ d.length ≤ 30 ∧ 257 ≤ (mkL l).length ∧ (mkL l).length ≤ 286 ∧ 1 ≤ (mkD d).length ∧ (mkD d).length ≤ 30 ∧ (∀ x ∈ mkL l ++ mkD d, 0 ≤ x ∧ x ≤ 15) ∧ (∀ r ∈ mkR l d, Okr r) ∧ (mkR l d).length ≤ 316 ∧ (mkL l).getD 256 0 ≠ 0 := by
  unfold mkE at h
  by_cases hb : 286 < l.length ∨ 30 < d.length ∨ wthb l = false ∨ wthb d = false
  · rw [if_pos hb] at h; omega
  · rw [if_neg hb] at h
    have w1 : wthb l = true := by cases q : wthb l with
      | true => rfl
      | false => exact absurd (.inr (.inr (.inl q))) hb
    have w2 : wthb d = true := by cases q : wthb d with
      | true => rfl
      | false => exact absurd (.inr (.inr (.inr q))) hb
    have h1 := trm_lens (l := l) (f := 257) (by omega) (by omega)
    have h2 := trm_lens (l := d) (f := 1) (by omega) (by omega)
    have h3 : ∀ x ∈ mkL l ++ mkD d, 0 ≤ x ∧ x ≤ 15 := fun x hx => by
      rcases List.mem_append.1 hx with q | q
      · exact trm_all l 257 (wth_iff.1 w1) x q
      · exact trm_all d 1 (wth_iff.1 w2) x q
    have h4 := rns_len (mkL l ++ mkD d)
    rw [List.length_append] at h4
    have h5 : (mkL l).getD 256 0 ≠ 0 := fun q => by unfold hck at h; rw [if_pos (.inl q)] at h; omega
    unfold mkL mkD at *
    exact ⟨by omega, by omega, h1.1, by omega, h2.1, by omega, h3, rns_ok h3, by unfold mkR mkL mkD; omega, h5⟩

theorem run1_first {l : List Int} (h : 1 ≤ l.length) : 0 < (rns l).length := by
  have := run1_cnt (l := l) (k := 0) (by omega)
  obtain ⟨c, hc, _⟩ := this
  rw [← rnK_zero, rnK_step (by omega) hc]
  simp

end Go.Proofs.YtpmgnpfpnkmmbaaGreatDoor

namespace Go.Proofs.YtpmgnpfpnkmmbaaGreatDoor
open Go.RowKit Go.Maps
set_option maxRecDepth 20000
set_option linter.unusedVariables false

/-- What is laid by runs of one length alone. -/
theorem lays_const {v : Int} : ∀ (R : List Rn) (a : List Int), (∀ r ∈ R, ∀ b, mnt r.1 b = v) → ∃ n, lays a R = a ++ List.replicate n v
  | [], a, _ => ⟨0, by simp [lays]⟩
  | r :: R, a, h => by
    obtain ⟨n, e⟩ := lays_const R (lay a r) fun x hx => h x (List.mem_cons_of_mem _ hx)
    refine ⟨r.2.toNat + n, ?_⟩
    have : lays a (r :: R) = lays (lay a r) R := rfl
    rw [this, e]
    unfold lay
    rw [h r List.mem_cons_self a, List.append_assoc, List.replicate_append_replicate]

theorem eqn_rep (v : Int) (n : Nat) : eqn v (List.replicate n v) = n := by
  induction n with
  | zero => rfl
  | succ n ih => rw [List.replicate_succ]; simp only [eqn, if_true, ih]

/-- At least two symbols of the small code are used. -/
theorem two_syms {l : List Int} (hl : ∀ x ∈ l, 0 ≤ x ∧ x ≤ 15) (hn : 258 ≤ l.length) (h256 : l.getD 256 0 ≠ 0) : ∃ r ∈ rns l, ∃ q ∈ rns l, r.1 ≠ q.1 := by
  refine Classical.byContradiction fun hno => ?_
  have same : ∀ r ∈ rns l, ∀ q ∈ rns l, r.1 = q.1 := fun r hr q hq => Classical.byContradiction fun hne => hno ⟨r, hr, q, hq, hne⟩
  obtain ⟨c, hc, c1, c2, _⟩ := run1_cnt (l := l) (k := 0) (by omega)
  have e0 : rns l = run1 l 0 :: rnK l c := by
    rw [← rnK_zero, rnK_step (by omega) hc, Nat.zero_add]
  have m0 : run1 l 0 ∈ rns l := by rw [e0]; exact List.mem_cons_self
  obtain ⟨x1, x2⟩ := xp_rns hl
  have ok := rns_ok hl _ m0
  by_cases hs : 16 ≤ (run1 l 0).1
  · have hz : ∀ r ∈ rns l, ∀ b, mnt r.1 b = 0 := fun r hr b => by
      have := same r hr _ m0
      have h16 : (run1 l 0).1 ≠ 16 := fun q => by have := (run1_ok (l := l) (k := 0) (by omega) hl).2 q; omega
      unfold mnt
      rw [if_neg (by omega), if_neg (by omega)]
    obtain ⟨n, e⟩ := lays_const (rns l) [] hz
    rw [x2, List.nil_append] at e
    apply h256
    rw [e, List.getD_eq_getElem?_getD, List.getElem?_replicate]
    split <;> rfl
  · have hz : ∀ r ∈ rns l, ∀ b, mnt r.1 b = (run1 l 0).1 := fun r hr b => by
      have := same r hr _ m0
      unfold mnt
      rw [if_pos (by omega)]
      exact this
    obtain ⟨n, e⟩ := lays_const (rns l) [] hz
    rw [x2, List.nil_append] at e
    obtain ⟨v, hv⟩ : ∃ v, v = (run1 l 0).1 := ⟨_, rfl⟩
    rw [← hv] at e hz hs
    have hn' : n = l.length := by rw [e]; simp
    have v0 : v ≠ 0 := fun q => by
      apply h256
      rw [e, q, List.getD_eq_getElem?_getD, List.getElem?_replicate]
      split <;> rfl
    have g0 : l.getD 0 0 = v := by rw [e, List.getD_eq_getElem?_getD, List.getElem?_replicate, if_pos (by omega)]; rfl
    have g1 : l.getD 1 0 = v := by rw [e, List.getD_eq_getElem?_getD, List.getElem?_replicate, if_pos (by omega)]; rfl
    have r0 : run1 l 0 = (v, 1) := by
      unfold run1
      rw [g0, if_neg (fun q => v0 q.1), if_neg (fun q => v0 q.1), if_neg (fun q => by omega)]
    have c1' : c = 1 := by rw [r0] at hc; simp only at hc; omega
    have hd : eqn v (l.drop 1) = l.length - 1 := by rw [← hn', e, List.drop_replicate, eqn_rep]
    have r1 : (run1 l 1).1 = 16 := by
      unfold run1
      rw [g1, if_neg (fun q => v0 q.1), if_neg (fun q => v0 q.1), if_pos ⟨v0, by omega, g0, by rw [hd]; omega⟩]
    obtain ⟨c', hc', _⟩ := run1_cnt (l := l) (k := 1) (by omega)
    have m1 : run1 l 1 ∈ rns l := by
      rw [e0, c1', rnK_step (by omega) hc']
      exact List.mem_cons_of_mem _ List.mem_cons_self
    have := same _ m1 _ m0
    rw [r1, r0] at this
    simp only at this
    omega

theorem used_of {R : List Rn} {s : Nat} (hs : s < 19) (h : ∃ r ∈ R, r.1 = (s : Int)) : s ∈ us6 (usg R) := by
  obtain ⟨r, hr, e⟩ := h
  refine mem_us.2 ⟨by rw [usg_len]; exact hs, ?_⟩
  rw [usg_at R hs]
  have : 0 < (R.map (·.1)).count (s : Int) := List.count_pos_iff.2 (List.mem_map.2 ⟨r, hr, e⟩)
  omega

theorem two_used {l : List Int} (hl : ∀ x ∈ l, 0 ≤ x ∧ x ≤ 15) (hn : 258 ≤ l.length) (h256 : l.getD 256 0 ≠ 0) : 2 ≤ (us6 (usg (rns l))).length := by
  obtain ⟨r, hr, q, hq, hne⟩ := two_syms hl hn h256
  obtain ⟨s, c, e1, hs, _⟩ := okr_parts (rns_ok hl r hr)
  obtain ⟨t, c', e2, ht, _⟩ := okr_parts (rns_ok hl q hq)
  have m1 : s ∈ us6 (usg (rns l)) := used_of hs ⟨r, hr, by rw [e1]⟩
  have m2 : t ∈ us6 (usg (rns l)) := used_of ht ⟨q, hq, by rw [e2]⟩
  have hst : s ≠ t := fun z => hne (by rw [e1, e2, z])
  match h : us6 (usg (rns l)), m1, m2 with
  | [], m1, _ => cases m1
  | [x], m1, m2 =>
    rw [List.mem_singleton] at m1 m2
    exact absurd (m1.trans m2.symm) hst
  | x :: y :: z, _, _ => simp

/-- The small code is complete. -/
theorem small_full {l : List Int} (hl : ∀ x ∈ l, 0 ≤ x ∧ x ≤ 15) (hn : 258 ≤ l.length) (hm : l.length ≤ 316) (h256 : l.getD 256 0 ≠ 0) : usum (lmt (usg (rns l)) 7) = 32768 ∧ ∀ r ∈ rns l, (lmt (usg (rns l)) 7).getD r.1.toNat 0 ≠ 0 := by
  have hR : (rns l).length ≤ 1048576 := by have := rns_len l; omega
  have g := gd_lmt (usg_sound hR) (L := 7) (by omega) (usg_us (rns l))
  obtain ⟨t1, t2⟩ := lmt7 hR
  have h1 := g.all (two_used hl hn h256)
  refine ⟨?_, fun r hr => ?_⟩
  · have e1 : kr (nn (lmt (usg (rns l)) 7)) (us6 (usg (rns l))) = 2 ^ 45 * ((us6 (usg (rns l))).map fun s => wt ((lmt (usg (rns l)) 7).getD s 0)).sum := by
      unfold kr
      have : ∀ L : List Nat, (∀ s ∈ L, 1 ≤ (lmt (usg (rns l)) 7).getD s 0 ∧ (lmt (usg (rns l)) 7).getD s 0 ≤ 7) → (L.map fun s => 2 ^ (60 - nn (lmt (usg (rns l)) 7) s)).sum = 2 ^ 45 * (L.map fun s => wt ((lmt (usg (rns l)) 7).getD s 0)).sum := by
        intro L hL
        induction L with
        | nil => rfl
        | cons a L ih =>
          have h := hL a List.mem_cons_self
          rw [List.map_cons, List.map_cons, List.sum_cons, List.sum_cons, ih (fun s hs => hL s (List.mem_cons_of_mem _ hs)), Nat.mul_add]
          congr 1
          unfold nn wt
          rw [if_pos (by omega), ← Nat.pow_add]
          congr 1
          omega
      exact this _ (fun s hs => by have := g.ok s hs; omega)
    have e2 : ((us6 (usg (rns l))).map fun s => wt ((lmt (usg (rns l)) 7).getD s 0)).sum = usum (lmt (usg (rns l)) 7) := by
      rw [usum_range, t1]
      unfold us6 usk
      rw [usg_len]
      refine sum_filter _ (fun s => wt ((lmt (usg (rns l)) 7).getD s 0)) _ (fun s hs q => ?_)
      simp only [decide_eq_false_iff_not] at q
      have hs' := List.mem_range.1 hs
      have := usg_le (rns l) s hs'
      rw [g.zero s (by rw [usg_len]; exact hs') (by omega)]
      rfl
    rw [e1, e2] at h1
    have : (2 : Nat) ^ 60 = 2 ^ 45 * 32768 := by decide
    rw [this] at h1
    exact Nat.eq_of_mul_eq_mul_left (by decide) h1
  · obtain ⟨s, c, e1, hs, _⟩ := okr_parts (rns_ok hl r hr)
    have := g.ok s (used_of hs ⟨r, hr, by rw [e1]⟩)
    rw [e1]
    simp only [Int.toNat_natCast]
    omega

/-- How many are written, from the front. -/
def wfw (C : List Int) : Nat → Nat
  | 0 => 4
  | n + 1 => if 0 < C.getD (zor.getD n 0).toNat 0 ∧ wfw C n < n + 1 then n + 1 else wfw C n
theorem wfw_low (C : List Int) : ∀ n, n ≤ 4 → wfw C n = 4
  | 0, _ => rfl
  | n + 1, h => by simp only [wfw]; rw [wfw_low C n (by omega), if_neg (by omega)]
theorem wfw_wrn {C : List Int} (hC : ∀ s, 0 ≤ C.getD s 0) : ∀ n, 4 ≤ n → wfw C n = wrn C n ∧ wfw C n ≤ n
  | 0, h => by omega
  | n + 1, h => by
    by_cases q : n + 1 = 4
    · have : n = 3 := by omega
      subst this
      rw [wfw_low C 4 (by omega)]
      simp only [wrn]
      rw [if_neg (by omega)]
      exact ⟨rfl, Nat.le_refl _⟩
    · obtain ⟨i1, i2⟩ := wfw_wrn hC n (by omega)
      have := hC (zor.getD n 0).toNat
      simp only [wfw, wrn]
      by_cases z : C.getD (zor.getD n 0).toNat 0 = 0
      · rw [if_neg (by omega), if_pos ⟨by omega, z⟩]
        exact ⟨i1, by omega⟩
      · rw [if_pos ⟨by omega, by omega⟩, if_neg (fun t => z t.2)]
        exact ⟨rfl, Nat.le_refl _⟩
theorem wfw_wrt {C : List Int} (hC : ∀ s, 0 ≤ C.getD s 0) : wfw C 19 = wrt C := (wfw_wrn hC 19 (by omega)).1
end Go.Proofs.YtpmgnpfpnkmmbaaGreatDoor

namespace Go.Proofs.YtpmgnpfpnkmmbaaGreatDoor
open Go.RowKit Go.Maps
set_option maxRecDepth 20000
set_option linter.unusedVariables false

set_option maxHeartbeats 1000000 in
theorem zcodes_any (v1 v2 : Value) (l1 l2 : List Int) (w : World) (s1 : SI w v1 l1) (s2 : SI w v2 l2) (hl : 257 ≤ l1.length) :
    Calls Tryz.prog 102 #[v1, v2] w fun e w' => e = .returned (.int .i64 (hck l1 l2)) ∧ w' = w := by
  have H1 := hide s1
  have H2 := hide s2
  obtain ⟨a1, c1, rfl, hc1, hd1⟩ := s1.open
  obtain ⟨a2, c2, rfl, hc2, hd2⟩ := s2.open
  clear s1 s2
  have hl' : (256 : Int) < (l1.length : Int) := by omega
  have hl2 : ¬ (l1.length : Int) < 257 := by omega
  have hl3 : decide ((l1.length : Int) < 257) = false := decide_eq_false hl2
  obtain ⟨b, o, rfl, hc⟩ := H1.out.get (Below.refl _ _) (k := 256) (by omega)
  have HC1 := hide (xcheck_any _ l1 w H1.out)
  have HC2 := hide (xcheck_any _ l2 w H2.out)
  have HK : Hid (hck l1 l2 = if l1.getD 256 0 = 0 ∨ (chkS l1 ≠ 4 ∧ chkS l1 ≠ 1) then 75 else if chkS l2 ≠ 4 ∧ chkS l2 ≠ 1 ∧ chkS l2 ≠ 0 then 76 else 0) := rfl
  obtain ⟨y, HY⟩ : ∃ y, Hid (y = l1.getD 256 0) := ⟨_, rfl⟩
  obtain ⟨S, HSS⟩ : ∃ S, Hid (S = chkS l1) := ⟨_, rfl⟩
  obtain ⟨U, HU⟩ : ∃ U, Hid (U = chkS l2) := ⟨_, rfl⟩
  rw [← HY.out] at hc HK
  rw [← HSS.out] at HK HC1
  rw [← HU.out] at HK HC2
  go_enter Tryz.func102, Tryz.ntmps102
  go_wp2_with fail
  refine HC1.out.mono ?_
  rintro e w1 ⟨rfl, hw1⟩
  rw [hw1]
  clear hw1
  by_cases y0 : y = 0
  · have HR : Hid (hck l1 l2 = 75) := by show _ = _; rw [HK.out, if_pos (.inl y0)]
    subst y0
    go_wp2
    go_ret
    rw [HR.out]
    exact ⟨rfl, rfl⟩
  · have y0' : (y == 0) = false := by simpa using y0
    by_cases sok : S = 4 ∨ S = 1
    · have HK2 : Hid (hck l1 l2 = if U ≠ 4 ∧ U ≠ 1 ∧ U ≠ 0 then 76 else 0) := by show _ = _; rw [HK.out, if_neg (by omega)]
      rcases sok with rfl | rfl
      all_goals
        go_wp2_with fail
        refine HC2.out.mono ?_
        rintro e w2 ⟨rfl, hw2⟩
        rw [hw2]
        clear hw2
        by_cases u4 : U = 4
        · have HR : Hid (hck l1 l2 = 0) := by show _ = _; rw [HK2.out, if_neg (by omega)]
          subst u4
          go_wp2
          go_ret
          rw [HR.out]
          exact ⟨rfl, rfl⟩
        · have u4' : (U != 4) = true := by simpa using u4
          by_cases u1 : U = 1
          · have HR : Hid (hck l1 l2 = 0) := by show _ = _; rw [HK2.out, if_neg (by omega)]
            subst u1
            go_wp2
            go_ret
            rw [HR.out]
            exact ⟨rfl, rfl⟩
          · have u1' : (U != 1) = true := by simpa using u1
            by_cases u0 : U = 0
            · have HR : Hid (hck l1 l2 = 0) := by show _ = _; rw [HK2.out, if_neg (by omega)]
              subst u0
              go_wp2
              go_ret
              rw [HR.out]
              exact ⟨rfl, rfl⟩
            · have u0' : (U != 0) = true := by simpa using u0
              have HR : Hid (hck l1 l2 = 76) := by show _ = _; rw [HK2.out, if_pos ⟨u4, u1, u0⟩]
              go_wp2
              go_ret
              rw [HR.out]
              exact ⟨rfl, rfl⟩
    · have s4 : (S != 4) = true := by simp; omega
      have s1 : (S != 1) = true := by simp; omega
      have HR : Hid (hck l1 l2 = 75) := by show _ = _; rw [HK.out, if_pos (.inr (by omega))]
      go_wp2
      go_ret
      rw [HR.out]
      exact ⟨rfl, rfl⟩

structure Xodr (w : World) : Prop where
  get : ∀ i : Nat, i < 19 → w.cell? ⟨3, i, none⟩ = some (.int .i64 (zor.getD i 0))

theorem Xodr.mono {w w' : World} (h : Xodr w) (hb : Below w.heap.size w w') : Xodr w' := ⟨fun i hi => (hb.cell (World.block_lt_of_cell? w _ (h.get i hi))).trans (h.get i hi)⟩

end Go.Proofs.YtpmgnpfpnkmmbaaGreatDoor

