import Derived.Test.YtfdhffcdkmklbaaDoorG27Vd2
import Derived.Test.YtfdhffcdkmklbaaDoorG23Drr
namespace Go.Proofs.YtfdhffcdkmklbaaDoor
open Go.RowKit Go.Maps
set_option maxRecDepth 20000
set_option linter.unusedVariables false

/-- The lengths of the runs' words under a code, together. -/
def gsm (o : List Int) : List Rn → Int
  | [] => 0
  | r :: R => o.getD r.1.toNat 0 + gsm o R

theorem gsm_snoc (o : List Int) (R : List Rn) (r : Rn) : gsm o (R ++ [r]) = gsm o R + o.getD r.1.toNat 0 := by
  induction R with
  | nil => simp [gsm]
  | cons a R ih => simp only [List.cons_append, gsm, ih]; omega

theorem sum_filter {α : Type} (p : α → Bool) (f : α → Nat) (L : List α) (h : ∀ s ∈ L, p s = false → f s = 0) : ((L.filter p).map f).sum = (L.map f).sum := by
  induction L with
  | nil => rfl
  | cons a L ih =>
    have i := ih fun s hs => h s (List.mem_cons_of_mem _ hs)
    cases q : p a with
    | true => rw [List.filter_cons_of_pos q, List.map_cons, List.map_cons, List.sum_cons, List.sum_cons, i]
    | false =>
      rw [List.filter_cons_of_neg (by simp [q]), List.map_cons, List.sum_cons, i, h a List.mem_cons_self q]
      omega

theorem sum_one (g : Nat → Nat) (k : Nat) : ∀ n, ((List.range n).map fun s => (if s = k then 1 else 0) * g s).sum = if k < n then g k else 0
  | 0 => by simp
  | n + 1 => by
    rw [List.range_succ, List.map_append, List.sum_append, sum_one g k n]
    simp only [List.map_cons, List.map_nil, List.sum_cons, List.sum_nil]
    by_cases h : n = k
    · subst h
      rw [if_pos rfl, if_neg (by omega), if_pos (by omega)]
      omega
    · rw [if_neg h]
      by_cases q : k < n
      · rw [if_pos q, if_pos (by omega)]; omega
      · rw [if_neg q, if_neg (by omega)]; omega

theorem sum_add (a b : Nat → Nat) (L : List Nat) : (L.map fun s => a s + b s).sum = (L.map a).sum + (L.map b).sum := by
  induction L with
  | nil => rfl
  | cons x L ih => simp only [List.map_cons, List.sum_cons, ih]; omega

theorem fq_usg (R : List Rn) {s : Nat} (h : s < 19) : fq (usg R) s = (R.map (·.1)).count (s : Int) := by
  unfold fq
  rw [usg_at R h]
  simp

theorem sum_runs (g : Nat → Nat) : ∀ R : List Rn, (∀ r ∈ R, Okr r) → ((List.range 19).map fun s => fq (usg R) s * g s).sum = (R.map fun r => g r.1.toNat).sum
  | [], _ => by
    have : ((List.range 19).map fun s => fq (usg []) s * g s) = (List.range 19).map fun _ => 0 := by
      apply List.map_congr_left
      intro s hs
      rw [fq_usg [] (List.mem_range.1 hs)]
      simp
    rw [this]
    rfl
  | r :: R, h => by
    have i := sum_runs g R fun x hx => h x (List.mem_cons_of_mem _ hx)
    obtain ⟨k, c, e, hk, _⟩ := okr_parts (h r List.mem_cons_self)
    have e1 : r.1 = (k : Int) := by rw [e]
    have : ((List.range 19).map fun s => fq (usg (r :: R)) s * g s) = (List.range 19).map fun s => fq (usg R) s * g s + (if s = k then 1 else 0) * g s := by
      apply List.map_congr_left
      intro s hs
      have hs' := List.mem_range.1 hs
      have hq : (if ((k : Int) == (s : Int)) = true then 1 else 0) = (if s = k then 1 else 0 : Nat) := by
        by_cases q : s = k
        · subst q; simp
        · have : ¬ ((k : Int) == (s : Int)) = true := by simp; omega
          rw [if_neg q, if_neg this]
      rw [fq_usg _ hs', fq_usg _ hs', List.map_cons, List.count_cons, e1, hq, Nat.add_mul]
    rw [this, sum_add, i, sum_one g k 19, if_pos hk, List.map_cons, List.sum_cons, e1, Int.toNat_natCast]
    omega

theorem fl_runs (g : Nat → Nat) (R : List Rn) (h : ∀ r ∈ R, Okr r) : fl (fq (usg R)) g (us6 (usg R)) = (R.map fun r => g r.1.toNat).sum := by
  rw [← sum_runs g R h]
  unfold fl us6 usk
  rw [usg_len]
  refine sum_filter _ (fun s => fq (usg R) s * g s) _ (fun s hs q => ?_)
  simp only [decide_eq_false_iff_not] at q
  have : fq (usg R) s = 0 := by unfold fq; omega
  simp [this]

theorem gsm_nat {o : List Int} (ho : ∀ s, 0 ≤ o.getD s 0) (R : List Rn) : gsm o R = ((R.map fun r => nn o r.1.toNat).sum : Nat) := by
  induction R with
  | nil => rfl
  | cons r R ih =>
    simp only [gsm, List.map_cons, List.sum_cons, ih]
    have := ho r.1.toNat
    unfold nn
    omega

theorem usum_range (o : List Int) : usum o = ((List.range o.length).map fun s => wt (o.getD s 0)).sum := by
  unfold usum
  congr 1
  apply List.ext_getElem
  · simp
  · intro i h1 h2
    simp at h1
    simp [h1]

theorem kr_small {f o : List Int} (hl : o.length = f.length) (ho : ∀ s ∈ us6 f, 1 ≤ o.getD s 0 ∧ o.getD s 0 ≤ 7) (hu : usum o ≤ 32768) : kr (nn o) (us6 f) ≤ 2 ^ 60 := by
  have e1 : kr (nn o) (us6 f) = 2 ^ 45 * ((us6 f).map fun s => wt (o.getD s 0)).sum := by
    unfold kr
    have : ∀ L : List Nat, (∀ s ∈ L, 1 ≤ o.getD s 0 ∧ o.getD s 0 ≤ 7) → (L.map fun s => 2 ^ (60 - nn o s)).sum = 2 ^ 45 * (L.map fun s => wt (o.getD s 0)).sum := by
      intro L hL
      induction L with
      | nil => rfl
      | cons a L ih =>
        have h := hL a List.mem_cons_self
        rw [List.map_cons, List.map_cons, List.sum_cons, List.sum_cons, ih (fun s hs => hL s (List.mem_cons_of_mem _ hs)), Nat.mul_add]
        congr 1
        unfold nn wt
        rw [if_pos (by omega), ← Nat.pow_add]
        congr 1
        omega
    exact this _ ho
  have e2 : ((us6 f).map fun s => wt (o.getD s 0)).sum ≤ usum o := by
    rw [usum_range, hl]
    unfold us6 usk
    have : ∀ L : List Nat, ((L.filter fun s => decide (0 < f.getD s 0)).map fun s => wt (o.getD s 0)).sum ≤ (L.map fun s => wt (o.getD s 0)).sum := by
      intro L
      induction L with
      | nil => exact Nat.le_refl _
      | cons a L ih =>
        by_cases q : 0 < f.getD a 0
        · rw [List.filter_cons_of_pos (by simpa using q)]; simp only [List.map_cons, List.sum_cons]; omega
        · rw [List.filter_cons_of_neg (by simpa using q)]; simp only [List.map_cons, List.sum_cons]; omega
    exact this _
  rw [e1]
  have : ((us6 f).map fun s => wt (o.getD s 0)).sum ≤ 32768 := Nat.le_trans e2 hu
  calc 2 ^ 45 * ((us6 f).map fun s => wt (o.getD s 0)).sum ≤ 2 ^ 45 * 32768 := Nat.mul_le_mul_left _ this
    _ = 2 ^ 60 := by decide

theorem mem_usg {R : List Rn} {s : Nat} (h : s ∈ us6 (usg R)) : ∃ r ∈ R, r.1 = (s : Int) := by
  obtain ⟨h1, h2⟩ := mem_us.1 h
  rw [usg_len] at h1
  rw [usg_at R h1] at h2
  have : 0 < (R.map (·.1)).count (s : Int) := by omega
  obtain ⟨r, hr, e⟩ := List.mem_map.1 (List.count_pos_iff.1 this)
  exact ⟨r, hr, e⟩

/-- No other small code gives the runs fewer bits. -/
theorem small_best {R : List Rn} {o : List Int} (hR : R.length ≤ 1048576) (hok : ∀ r ∈ R, Okr r) (hl : o.length = 19) (h7 : ∀ s, 0 ≤ o.getD s 0 ∧ o.getD s 0 ≤ 7) (hu : usum o ≤ 32768) (hz : ∀ r ∈ R, o.getD r.1.toNat 0 ≠ 0) : gsm (lmt (usg R) 7) R ≤ gsm o R := by
  have hs : ∀ s ∈ us6 (usg R), 1 ≤ o.getD s 0 ∧ o.getD s 0 ≤ 7 := fun s hm => by
    obtain ⟨r, hr, e⟩ := mem_usg hm
    have := hz r hr
    rw [e, Int.toNat_natCast] at this
    have := h7 s
    omega
  have hk := kr_small (f := usg R) (o := o) (by rw [usg_len]; exact hl) hs hu
  have hb := lm_best (f := usg R) (o := o) (L := 7) (usg_sound hR) (by omega) (usg_us R) (fun s hm => by have := hs s hm; omega) hk
  rw [fl_runs _ R hok, fl_runs _ R hok] at hb
  rw [gsm_nat (fun s => ((lmt7 hR).2 s).1) R, gsm_nat (fun s => (h7 s).1) R]
  omega
end Go.Proofs.YtfdhffcdkmklbaaDoor

namespace Go.Proofs.YtfdhffcdkmklbaaDoor
open Go.RowKit Go.Maps
set_option maxRecDepth 20000
set_option linter.unusedVariables false

theorem gsm_bound {C : List Int} (hC : ∀ s, 0 ≤ C.getD s 0 ∧ C.getD s 0 ≤ 15) (R : List Rn) : 0 ≤ gsm C R ∧ gsm C R ≤ 15 * R.length := by
  induction R with
  | nil => simp [gsm]
  | cons r R ih =>
    have := hC r.1.toNat
    simp only [gsm, List.length_cons]
    omega

theorem mk_facts {l d : List Int} (h : mkE l d = 0) : l.length ≤ 286 ∧ d.length ≤ 30 ∧ 257 ≤ (mkL l).length ∧ (mkL l).length ≤ 286 ∧ 1 ≤ (mkD d).length ∧ (mkD d).length ≤ 30 ∧ (∀ x ∈ mkL l ++ mkD d, 0 ≤ x ∧ x ≤ 15) ∧ (∀ r ∈ mkR l d, Okr r) ∧ (mkR l d).length ≤ 316 ∧ (mkL l).getD 256 0 ≠ 0 := by
  unfold mkE at h
  by_cases hb : 286 < l.length ∨ 30 < d.length ∨ wthb l = false ∨ wthb d = false
  · rw [if_pos hb] at h; omega
  · rw [if_neg hb] at h
    have w1 : wthb l = true := by cases q : wthb l with
      | true => rfl
      | false => exact absurd (.inr (.inr (.inl q))) hb
    have w2 : wthb d = true := by cases q : wthb d with
      | true => rfl
      | false => exact absurd (.inr (.inr (.inr q))) hb
    have h1 := trm_lens (l := l) (f := 257) (by omega) (by omega)
    have h2 := trm_lens (l := d) (f := 1) (by omega) (by omega)
    have h3 : ∀ x ∈ mkL l ++ mkD d, 0 ≤ x ∧ x ≤ 15 := fun x hx => by
      rcases List.mem_append.1 hx with q | q
      · exact trm_all l 257 (wth_iff.1 w1) x q
      · exact trm_all d 1 (wth_iff.1 w2) x q
    have h4 := rns_len (mkL l ++ mkD d)
    rw [List.length_append] at h4
    have h5 : (mkL l).getD 256 0 ≠ 0 := fun q => by unfold hck at h; rw [if_pos (.inl q)] at h; omega
    unfold mkL mkD at *
    exact ⟨by omega, by omega, h1.1, by omega, h2.1, by omega, h3, rns_ok h3, by unfold mkR mkL mkD; omega, h5⟩

theorem run1_first {l : List Int} (h : 1 ≤ l.length) : 0 < (rns l).length := by
  have := run1_cnt (l := l) (k := 0) (by omega)
  obtain ⟨c, hc, _⟩ := this
  rw [← rnK_zero, rnK_step (by omega) hc]
  simp

end Go.Proofs.YtfdhffcdkmklbaaDoor

namespace Go.Proofs.YtfdhffcdkmklbaaDoor
open Go.RowKit Go.Maps
set_option maxRecDepth 20000
set_option linter.unusedVariables false

/-- What is laid by runs of one length alone. -/
theorem lays_const {v : Int} : ∀ (R : List Rn) (a : List Int), (∀ r ∈ R, ∀ b, mnt r.1 b = v) → ∃ n, lays a R = a ++ List.replicate n v
  | [], a, _ => ⟨0, by simp [lays]⟩
  | r :: R, a, h => by
    obtain ⟨n, e⟩ := lays_const R (lay a r) fun x hx => h x (List.mem_cons_of_mem _ hx)
    refine ⟨r.2.toNat + n, ?_⟩
    have : lays a (r :: R) = lays (lay a r) R := rfl
    rw [this, e]
    unfold lay
    rw [h r List.mem_cons_self a, List.append_assoc, List.replicate_append_replicate]

theorem eqn_rep (v : Int) (n : Nat) : eqn v (List.replicate n v) = n := by
  induction n with
  | zero => rfl
  | succ n ih => rw [List.replicate_succ]; simp only [eqn, if_true, ih]

/-- At least two symbols of the small code are used. -/
theorem two_syms {l : List Int} (hl : ∀ x ∈ l, 0 ≤ x ∧ x ≤ 15) (hn : 258 ≤ l.length) (h256 : l.getD 256 0 ≠ 0) : ∃ r ∈ rns l, ∃ q ∈ rns l, r.1 ≠ q.1 := by
  refine Classical.byContradiction fun hno => ?_
  have same : ∀ r ∈ rns l, ∀ q ∈ rns l, r.1 = q.1 := fun r hr q hq => Classical.byContradiction fun hne => hno ⟨r, hr, q, hq, hne⟩
  obtain ⟨c, hc, c1, c2, _⟩ := run1_cnt (l := l) (k := 0) (by omega)
  have e0 : rns l = run1 l 0 :: rnK l c := by
    rw [← rnK_zero, rnK_step (by omega) hc, Nat.zero_add]
  have m0 : run1 l 0 ∈ rns l := by rw [e0]; exact List.mem_cons_self
  obtain ⟨x1, x2⟩ := xp_rns hl
  have ok := rns_ok hl _ m0
  by_cases hs : 16 ≤ (run1 l 0).1
  · have hz : ∀ r ∈ rns l, ∀ b, mnt r.1 b = 0 := fun r hr b => by
      have := same r hr _ m0
      have h16 : (run1 l 0).1 ≠ 16 := fun q => by have := (run1_ok (l := l) (k := 0) (by omega) hl).2 q; omega
      unfold mnt
      rw [if_neg (by omega), if_neg (by omega)]
    obtain ⟨n, e⟩ := lays_const (rns l) [] hz
    rw [x2, List.nil_append] at e
    apply h256
    rw [e, List.getD_eq_getElem?_getD, List.getElem?_replicate]
    split <;> rfl
  · have hz : ∀ r ∈ rns l, ∀ b, mnt r.1 b = (run1 l 0).1 := fun r hr b => by
      have := same r hr _ m0
      unfold mnt
      rw [if_pos (by omega)]
      exact this
    obtain ⟨n, e⟩ := lays_const (rns l) [] hz
    rw [x2, List.nil_append] at e
    obtain ⟨v, hv⟩ : ∃ v, v = (run1 l 0).1 := ⟨_, rfl⟩
    rw [← hv] at e hz hs
    have hn' : n = l.length := by rw [e]; simp
    have v0 : v ≠ 0 := fun q => by
      apply h256
      rw [e, q, List.getD_eq_getElem?_getD, List.getElem?_replicate]
      split <;> rfl
    have g0 : l.getD 0 0 = v := by rw [e, List.getD_eq_getElem?_getD, List.getElem?_replicate, if_pos (by omega)]; rfl
    have g1 : l.getD 1 0 = v := by rw [e, List.getD_eq_getElem?_getD, List.getElem?_replicate, if_pos (by omega)]; rfl
    have r0 : run1 l 0 = (v, 1) := by
      unfold run1
      rw [g0, if_neg (fun q => v0 q.1), if_neg (fun q => v0 q.1), if_neg (fun q => by omega)]
    have c1' : c = 1 := by rw [r0] at hc; simp only at hc; omega
    have hd : eqn v (l.drop 1) = l.length - 1 := by rw [← hn', e, List.drop_replicate, eqn_rep]
    have r1 : (run1 l 1).1 = 16 := by
      unfold run1
      rw [g1, if_neg (fun q => v0 q.1), if_neg (fun q => v0 q.1), if_pos ⟨v0, by omega, g0, by rw [hd]; omega⟩]
    obtain ⟨c', hc', _⟩ := run1_cnt (l := l) (k := 1) (by omega)
    have m1 : run1 l 1 ∈ rns l := by
      rw [e0, c1', rnK_step (by omega) hc']
      exact List.mem_cons_of_mem _ List.mem_cons_self
    have := same _ m1 _ m0
    rw [r1, r0] at this
    simp only at this
    omega

theorem used_of {R : List Rn} {s : Nat} (hs : s < 19) (h : ∃ r ∈ R, r.1 = (s : Int)) : s ∈ us6 (usg R) := by
  obtain ⟨r, hr, e⟩ := h
  refine mem_us.2 ⟨by rw [usg_len]; exact hs, ?_⟩
  rw [usg_at R hs]
  have : 0 < (R.map (·.1)).count (s : Int) := List.count_pos_iff.2 (List.mem_map.2 ⟨r, hr, e⟩)
  omega

theorem two_used {l : List Int} (hl : ∀ x ∈ l, 0 ≤ x ∧ x ≤ 15) (hn : 258 ≤ l.length) (h256 : l.getD 256 0 ≠ 0) : 2 ≤ (us6 (usg (rns l))).length := by
  obtain ⟨r, hr, q, hq, hne⟩ := two_syms hl hn h256
  obtain ⟨s, c, e1, hs, _⟩ := okr_parts (rns_ok hl r hr)
  obtain ⟨t, c', e2, ht, _⟩ := okr_parts (rns_ok hl q hq)
  have m1 : s ∈ us6 (usg (rns l)) := used_of hs ⟨r, hr, by rw [e1]⟩
  have m2 : t ∈ us6 (usg (rns l)) := used_of ht ⟨q, hq, by rw [e2]⟩
  have hst : s ≠ t := fun z => hne (by rw [e1, e2, z])
  match h : us6 (usg (rns l)), m1, m2 with
  | [], m1, _ => cases m1
  | [x], m1, m2 =>
    rw [List.mem_singleton] at m1 m2
    exact absurd (m1.trans m2.symm) hst
  | x :: y :: z, _, _ => simp

/-- The small code is complete. -/
theorem small_full {l : List Int} (hl : ∀ x ∈ l, 0 ≤ x ∧ x ≤ 15) (hn : 258 ≤ l.length) (hm : l.length ≤ 316) (h256 : l.getD 256 0 ≠ 0) : usum (lmt (usg (rns l)) 7) = 32768 ∧ ∀ r ∈ rns l, (lmt (usg (rns l)) 7).getD r.1.toNat 0 ≠ 0 := by
  have hR : (rns l).length ≤ 1048576 := by have := rns_len l; omega
  have g := gd_lmt (usg_sound hR) (L := 7) (by omega) (usg_us (rns l))
  obtain ⟨t1, t2⟩ := lmt7 hR
  have h1 := g.all (two_used hl hn h256)
  refine ⟨?_, fun r hr => ?_⟩
  · have e1 : kr (nn (lmt (usg (rns l)) 7)) (us6 (usg (rns l))) = 2 ^ 45 * ((us6 (usg (rns l))).map fun s => wt ((lmt (usg (rns l)) 7).getD s 0)).sum := by
      unfold kr
      have : ∀ L : List Nat, (∀ s ∈ L, 1 ≤ (lmt (usg (rns l)) 7).getD s 0 ∧ (lmt (usg (rns l)) 7).getD s 0 ≤ 7) → (L.map fun s => 2 ^ (60 - nn (lmt (usg (rns l)) 7) s)).sum = 2 ^ 45 * (L.map fun s => wt ((lmt (usg (rns l)) 7).getD s 0)).sum := by
        intro L hL
        induction L with
        | nil => rfl
        | cons a L ih =>
          have h := hL a List.mem_cons_self
          rw [List.map_cons, List.map_cons, List.sum_cons, List.sum_cons, ih (fun s hs => hL s (List.mem_cons_of_mem _ hs)), Nat.mul_add]
          congr 1
          unfold nn wt
          rw [if_pos (by omega), ← Nat.pow_add]
          congr 1
          omega
      exact this _ (fun s hs => by have := g.ok s hs; omega)
    have e2 : ((us6 (usg (rns l))).map fun s => wt ((lmt (usg (rns l)) 7).getD s 0)).sum = usum (lmt (usg (rns l)) 7) := by
      rw [usum_range, t1]
      unfold us6 usk
      rw [usg_len]
      refine sum_filter _ (fun s => wt ((lmt (usg (rns l)) 7).getD s 0)) _ (fun s hs q => ?_)
      simp only [decide_eq_false_iff_not] at q
      have hs' := List.mem_range.1 hs
      have := usg_le (rns l) s hs'
      rw [g.zero s (by rw [usg_len]; exact hs') (by omega)]
      rfl
    rw [e1, e2] at h1
    have : (2 : Nat) ^ 60 = 2 ^ 45 * 32768 := by decide
    rw [this] at h1
    exact Nat.eq_of_mul_eq_mul_left (by decide) h1
  · obtain ⟨s, c, e1, hs, _⟩ := okr_parts (rns_ok hl r hr)
    have := g.ok s (used_of hs ⟨r, hr, by rw [e1]⟩)
    rw [e1]
    simp only [Int.toNat_natCast]
    omega

/-- How many are written, from the front. -/
def wfw (C : List Int) : Nat → Nat
  | 0 => 4
  | n + 1 => if 0 < C.getD (zor.getD n 0).toNat 0 ∧ wfw C n < n + 1 then n + 1 else wfw C n
theorem wfw_low (C : List Int) : ∀ n, n ≤ 4 → wfw C n = 4
  | 0, _ => rfl
  | n + 1, h => by simp only [wfw]; rw [wfw_low C n (by omega), if_neg (by omega)]
theorem wfw_wrn {C : List Int} (hC : ∀ s, 0 ≤ C.getD s 0) : ∀ n, 4 ≤ n → wfw C n = wrn C n ∧ wfw C n ≤ n
  | 0, h => by omega
  | n + 1, h => by
    by_cases q : n + 1 = 4
    · have : n = 3 := by omega
      subst this
      rw [wfw_low C 4 (by omega)]
      simp only [wrn]
      rw [if_neg (by omega)]
      exact ⟨rfl, Nat.le_refl _⟩
    · obtain ⟨i1, i2⟩ := wfw_wrn hC n (by omega)
      have := hC (zor.getD n 0).toNat
      simp only [wfw, wrn]
      by_cases z : C.getD (zor.getD n 0).toNat 0 = 0
      · rw [if_neg (by omega), if_pos ⟨by omega, z⟩]
        exact ⟨i1, by omega⟩
      · rw [if_pos ⟨by omega, by omega⟩, if_neg (fun t => z t.2)]
        exact ⟨rfl, Nat.le_refl _⟩
theorem wfw_wrt {C : List Int} (hC : ∀ s, 0 ≤ C.getD s 0) : wfw C 19 = wrt C := (wfw_wrn hC 19 (by omega)).1
end Go.Proofs.YtfdhffcdkmklbaaDoor

namespace Go.Proofs.YtfdhffcdkmklbaaDoor
open Go.RowKit Go.Maps
set_option linter.unusedVariables false

theorem lays_ge : ∀ (R : List Rn) (a : List Int), a.length ≤ (lays a R).length
  | [], a => Nat.le_refl _
  | r :: R, a => by
    have := lays_ge R (lay a r)
    rw [lay_len] at this
    show a.length ≤ (lays (lay a r) R).length
    omega

theorem drop_more {row x y : List Int} {p : Nat} (h : row.drop p = x ++ y) : row.drop (p + x.length) = y := by
  rw [← List.drop_drop, h, List.drop_left]

theorem okr_fit' {s : Nat} {c : Int} (h : Okr ((s : Int), c)) : 0 ≤ c - lst s ∧ c - lst s < 2 ^ frt s := by
  obtain ⟨h1, h2, h3, h4⟩ := h
  simp only at h1 h2 h3 h4
  by_cases q : s < 16
  · have e1 : lst s = 1 := by unfold lst; rw [if_pos (by omega)]
    have e2 : frt s = 0 := by unfold frt; rw [if_pos (by omega)]
    have e3 : mst s = 1 := by unfold mst; rw [if_pos (by omega)]
    rw [e1] at h3
    rw [e3] at h4
    rw [e1, e2]
    exact ⟨by omega, by show c - 1 < 1; omega⟩
  · obtain q | q | q : s = 16 ∨ s = 17 ∨ s = 18 := by omega
    · subst q
      have h3' : (3 : Int) ≤ c := h3
      have h4' : c ≤ 6 := h4
      exact ⟨by show 0 ≤ c - 3; omega, by show c - 3 < 4; omega⟩
    · subst q
      have h3' : (3 : Int) ≤ c := h3
      have h4' : c ≤ 10 := h4
      exact ⟨by show 0 ≤ c - 3; omega, by show c - 3 < 8; omega⟩
    · subst q
      have h3' : (11 : Int) ≤ c := h3
      have h4' : c ≤ 138 := h4
      exact ⟨by show 0 ≤ c - 11; omega, by show c - 11 < 128; omega⟩

/-- Runs that were put are taken. -/
theorem rl_back {C row : List Int} (hd : dcE C = 0) (hb : Bit row) (want : Nat) : ∀ (R : List Rn) (f : Nat) (acc : List Int) (p : Nat) (rest : List Int), (∀ r ∈ R, Okr r ∧ Has C r.1.toNat) → row.drop p = hdR C R ++ rest → xpE acc R = 0 → (lays acc R).length = want → want - acc.length ≤ f → rl C row want f acc p = (0, lays acc R, p + (hdR C R).length)
  | [], f, acc, p, rest, _, _, _, hl, _ => by
    have hl' : acc.length = want := hl
    cases f with
    | zero => rfl
    | succ f => rw [rl, if_neg (by omega)]; rfl
  | r :: R, f, acc, p, rest, hR, hr, hx, hl, hf => by
    obtain ⟨hok, hhas⟩ := hR r (by simp)
    obtain ⟨s, c, rfl, hs, h1, h2, h3, h4⟩ := okr_parts hok
    have hfit := okr_fit' hok
    simp only [Int.toNat_natCast] at hhas
    have hge := lays_ge R (lay acc ((s : Int), (c : Int)))
    have hll : (lays (lay acc ((s : Int), (c : Int))) R).length = want := hl
    rw [lay_len, hll] at hge
    simp only [Int.toNat_natCast] at hge
    obtain ⟨f, rfl⟩ : ∃ g, f = g + 1 := ⟨f - 1, by omega⟩
    have hr1 : row.drop p = wb C s ++ (bts ((c : Int) - lst s) (frt s) ++ (hdR C R ++ rest)) := by
      rw [hr]
      show (bts (wd C s) (ln C s)).reverse ++ bts ((c : Int) - lst s) (frt s) ++ hdR C R ++ rest = _
      simp only [List.append_assoc]
      rfl
    obtain ⟨n1, n2, n3⟩ := nx_word hd hhas hb hr1
    have hr2 : row.drop (p + ln C s) = bts ((c : Int) - lst s) (frt s) ++ (hdR C R ++ rest) := by
      have := drop_more hr1
      rwa [wb_len] at this
    have hr3 : row.drop (p + ln C s + frt s) = hdR C R ++ rest := by
      have := drop_more hr2
      rwa [length_bts] at this
    have hln := hhas.2
    have hL : p + ln C s + frt s ≤ row.length := by
      have h := congrArg List.length hr1
      rw [List.length_drop, List.length_append, List.length_append, wb_len, length_bts] at h
      omega
    have hA : ahead row (p + ln C s) (frt s) = (c : Int) - lst s := by
      rw [ahead_at hr2 (length_bts _ _)]
      exact val_bts_in hfit.1 hfit.2
    have ht1 : trE C row p = 0 := by unfold trE; rw [if_neg (by simp [n1]), n2, n3, if_neg (by omega)]
    have ht2 : trC C row p = c := by unfold trC; rw [n2, n3, hA]; omega
    have ht3 : trP C row p = p + ln C s + frt s := by unfold trP; rw [n2, n3]
    have hx1 : ¬ ((s : Int) = 16 ∧ acc = []) ∧ xpE (lay acc ((s : Int), (c : Int))) R = 0 := by
      rw [xpE, if_pos hok] at hx
      by_cases q : (s : Int) = 16 ∧ acc = []
      · rw [if_pos q] at hx; omega
      · rw [if_neg q] at hx; exact ⟨q, hx⟩
    rw [rl, if_pos (by omega), if_neg (by simp [ht1]), n2, ht2, if_neg (fun q => hx1.1 ⟨by omega, q.2⟩), if_neg (by omega), ht3]
    rw [rl_back hd hb want R f _ _ rest (fun q hq => hR q (by simp [hq])) hr3 hx1.2 hll (by rw [lay_len]; simp only [Int.toNat_natCast]; omega)]
    show _ = ((0 : Int), lays (lay acc ((s : Int), (c : Int))) R, _)
    congr 2
    show _ = p + ((bts (wd C s) (ln C s)).reverse ++ bts ((c : Int) - lst s) (frt s) ++ hdR C R).length
    rw [List.length_append, List.length_append, List.length_reverse, length_bts, length_bts]
    omega

theorem hdS_cut (C : List Int) : ∀ n k, k < n → ∃ t, hdS C n = hdS C k ++ (bts (C.getD (zor.getD k 0).toNat 0) 3 ++ t)
  | 0, k, h => by omega
  | n + 1, k, h => by
    by_cases e : k = n
    · subst e
      exact ⟨[], by simp [hdS]⟩
    · obtain ⟨t, ht⟩ := hdS_cut C n k (by omega)
      refine ⟨t ++ bts (C.getD (zor.getD n 0).toNat 0) 3, ?_⟩
      rw [hdS, ht]
      simp only [List.append_assoc]

theorem zor_all : ∀ s : Fin 19, ∃ j : Fin 19, (zor.getD j.val 0).toNat = s.val := by decide

theorem wrn_zero (c : List Int) : ∀ n j, wrn c n ≤ j → j < n → c.getD (zor.getD j 0).toNat 0 = 0
  | 0, j, _, h => by omega
  | n + 1, j, h1, h2 => by
    rw [wrn] at h1
    by_cases q : 4 < n + 1 ∧ c.getD (zor.getD n 0).toNat 0 = 0
    · rw [if_pos q] at h1
      by_cases e : j = n
      · subst e; exact q.2
      · exact wrn_zero c n j h1 (by omega)
    · rw [if_neg q] at h1; omega

theorem smC_len (row : List Int) (p : Nat) : ∀ n, (smC row p n).length = 19
  | 0 => by simp [smC]
  | n + 1 => by simp [smC, smC_len row p n]

theorem getD_set19 {l : List Int} {z s : Nat} {v : Int} (hl : l.length = 19) (hz : z < 19) : (l.set z v).getD s 0 = if z = s then v else l.getD s 0 := by
  rw [List.getD_eq_getElem?_getD, List.getElem?_set]
  by_cases e : z = s
  · subst e; simp [hl, hz]
  · simp [e]

theorem smC_at {C row : List Int} {p n : Nat} {rest : List Int} (hC : ∀ s, 0 ≤ C.getD s 0 ∧ C.getD s 0 ≤ 7) (hr : row.drop p = hdS C n ++ rest) (hn : n ≤ 19) : ∀ k, k ≤ n → (∀ j, j < k → (smC row p k).getD (zor.getD j 0).toNat 0 = C.getD (zor.getD j 0).toNat 0) ∧ ∀ s, (∀ j, j < k → (zor.getD j 0).toNat ≠ s) → (smC row p k).getD s 0 = 0
  | 0, _ => ⟨fun j hj => by omega, fun s _ => by
      show (List.replicate 19 (0 : Int)).getD s 0 = 0
      rw [List.getD_eq_getElem?_getD, List.getElem?_replicate]
      split <;> rfl⟩
  | k + 1, hk => by
    obtain ⟨i1, i2⟩ := smC_at hC hr hn k (by omega)
    obtain ⟨t, ht⟩ := hdS_cut C n k (by omega)
    have hA : ahead row (p + 3 * k) 3 = C.getD (zor.getD k 0).toNat 0 := by
      have h1 : row.drop p = hdS C k ++ (bts (C.getD (zor.getD k 0).toNat 0) 3 ++ (t ++ rest)) := by rw [hr, ht]; simp only [List.append_assoc]
      have h2 := drop_more h1
      rw [hdS_len] at h2
      rw [ahead_at h2 (length_bts _ _)]
      have := hC (zor.getD k 0).toNat
      exact val_bts_in this.1 (by show _ < (8 : Int); omega)
    have hz := zor_at k (by omega)
    have hl := smC_len row p k
    constructor
    · intro j hj
      rw [smC, hA, getD_set19 hl (by omega)]
      split
      · rename_i e; rw [e]
      · rename_i e
        by_cases q : j = k
        · subst q; exact absurd rfl e
        · exact i1 j (by omega)
    · intro s hs
      rw [smC, getD_set19 hl (by omega), if_neg (hs k (by omega))]
      exact i2 s fun j hj => hs j (by omega)

theorem ext19 {a b : List Int} (ha : a.length = 19) (hb : b.length = 19) (h : ∀ s, s < 19 → a.getD s 0 = b.getD s 0) : a = b := by
  apply List.ext_getElem (by omega)
  intro i h1 h2
  have := h i (by omega)
  simpa [h1, h2] using this

/-- The small code's lengths are taken. -/
theorem smC_back {C row rest : List Int} {p : Nat} (h19 : C.length = 19) (hC : ∀ s, 0 ≤ C.getD s 0 ∧ C.getD s 0 ≤ 7) (hr : row.drop p = hdS C (wrt C) ++ rest) : smC row p (wrt C) = C := by
  have hn := wrt_le C
  obtain ⟨i1, i2⟩ := smC_at hC hr hn (wrt C) (Nat.le_refl _)
  refine ext19 (smC_len _ _ _) h19 fun s hs => ?_
  obtain ⟨j, hj⟩ := zor_all ⟨s, hs⟩
  simp only at hj
  by_cases q : ∃ k, k < wrt C ∧ (zor.getD k 0).toNat = s
  · obtain ⟨k, hk, e⟩ := q
    rw [← e]
    exact i1 k hk
  · rw [i2 s fun k hk e => q ⟨k, hk, e⟩]
    have hge : wrt C ≤ j.val := Nat.le_of_not_lt fun h => q ⟨j.val, h, hj⟩
    have := wrn_zero C 19 j.val hge j.isLt
    rw [hj] at this
    exact this.symm

/-- The counts are taken. -/
theorem rc_back {row rest : List Int} {p : Nat} {a b c : Int} (ha : 0 ≤ a ∧ a < 32) (hb : 0 ≤ b ∧ b < 32) (hc : 0 ≤ c ∧ c < 16) (hr : row.drop p = bts a 5 ++ bts b 5 ++ bts c 4 ++ rest) : p + 14 ≤ row.length ∧ ahead row p 14 = a + 32 * b + 1024 * c ∧ row.drop (p + 14) = rest := by
  have hl := congrArg List.length hr
  simp only [List.length_drop, List.length_append, length_bts] at hl
  have h14 : (bts a 5 ++ bts b 5 ++ bts c 4).length = 14 := by simp only [List.length_append, length_bts]
  refine ⟨by omega, ?_, ?_⟩
  · rw [ahead_at hr h14, val_append, val_append, val_bts_in ha.1 (by show a < 32; omega), val_bts_in hb.1 (by show b < 32; omega), val_bts_in hc.1 (by show c < 16; omega), List.length_append, length_bts, length_bts]
    show a + (32 : Int) * b + 1024 * c = _
    rfl
  · have := drop_more hr
    rwa [h14] at this
end Go.Proofs.YtfdhffcdkmklbaaDoor

namespace Go.Proofs.YtfdhffcdkmklbaaDoor
open Go.RowKit Go.Maps
set_option linter.unusedVariables false

/-- A header as bits. -/
def mkB (l d : List Int) : List Int := hdB (mkL l) (mkD d) (mkC l d) (mkR l d)

/-- The small code of a header. -/
theorem mk_small {l d : List Int} (h : mkE l d = 0) : (mkC l d).length = 19 ∧ (∀ s, 0 ≤ (mkC l d).getD s 0 ∧ (mkC l d).getD s 0 ≤ 7) ∧ (∀ r ∈ mkR l d, (mkC l d).getD r.1.toNat 0 ≠ 0) ∧ chkS (mkC l d) = 4 ∧ dcE (mkC l d) = 0 := by
  obtain ⟨f1, f2, f3, f4, f5, f6, f7, f8, f9, f10⟩ := mk_facts h
  have h7 := lmt7 (R := mkR l d) (by omega)
  have h256 : (mkL l ++ mkD d).getD 256 0 ≠ 0 := by rw [List.getD_eq_getElem?_getD, List.getElem?_append_left (by omega), ← List.getD_eq_getElem?_getD]; exact f10
  have hsf := small_full f7 (by rw [List.length_append]; omega) (by rw [List.length_append]; omega) h256
  have e1 : usum (mkC l d) = 32768 := hsf.1
  have e2 : Lens (mkC l d) := ⟨by have := h7.1; show (mkC l d).length ≤ 288; unfold mkC; omega, fun x hx => by
    obtain ⟨i, hi, rfl⟩ := List.getElem_of_mem hx
    have := h7.2 i
    rw [show (lmt (usg (mkR l d)) 7) = mkC l d from rfl, List.getD_eq_getElem?_getD, List.getElem?_eq_getElem hi] at this
    simp only [Option.getD_some] at this
    omega⟩
  have e3 : tsum (mkC l d) ≠ 0 := fun q => by have := tsum_usum q; omega
  have e4 : shp (mkC l d) = 4 := by unfold shp; rw [if_neg e3, if_neg (by omega), if_neg (by omega), if_pos e1]
  refine ⟨h7.1, h7.2, hsf.2, by unfold chkS; rw [if_pos e2]; exact e4, (dcE_iff _).2 ⟨?_, .inr e4⟩⟩
  unfold chkE
  rw [if_neg (by have := e2.1; omega), if_pos e2]

set_option maxHeartbeats 1000000 in
/-- What is written is read back. -/
theorem rd_back {l d row rest : List Int} {p : Nat} (h : mkE l d = 0) (hb : Bit row) (hr : row.drop p = mkB l d ++ rest) : rdA row p = (0, mkL l, mkD d, p + (mkB l d).length) := by
  obtain ⟨f1, f2, f3, f4, f5, f6, f7, f8, f9, f10⟩ := mk_facts h
  obtain ⟨c1, c2, c3, c4, c5⟩ := mk_small h
  have hw1 := wrt_ge (mkC l d)
  have hw2 := wrt_le (mkC l d)
  have hr0 : row.drop p = bts (((mkL l).length : Int) - 257) 5 ++ bts (((mkD d).length : Int) - 1) 5 ++ bts ((wrt (mkC l d) : Int) - 4) 4 ++ (hdS (mkC l d) (wrt (mkC l d)) ++ (hdR (mkC l d) (mkR l d) ++ rest)) := by
    rw [hr]
    unfold mkB hdB
    simp only [List.append_assoc]
  obtain ⟨g1, g2, g3⟩ := rc_back ⟨by omega, by omega⟩ ⟨by omega, by omega⟩ ⟨by omega, by omega⟩ hr0
  have eL : rcL row p = (mkL l).length := by unfold rcL; rw [g2]; omega
  have eD : rcD row p = (mkD d).length := by unfold rcD; rw [g2]; omega
  have eN : rcN row p = wrt (mkC l d) := by unfold rcN; rw [g2]; omega
  have hE : rcE row p = 0 := by unfold rcE; rw [if_neg (by omega), if_neg (by omega)]
  have hC := smC_back c1 c2 g3
  have g4 := drop_more g3
  rw [hdS_len] at g4
  have hlen : p + 14 + 3 * wrt (mkC l d) ≤ row.length := by
    have h := congrArg List.length g3
    rw [List.length_drop, List.length_append, hdS_len] at h
    omega
  have hS : smE row (p + 14) (rcN row p) = 0 := by
    unfold smE
    rw [eN, hC, if_neg (by omega), if_neg (by simp [c4])]
  obtain ⟨x1, x2⟩ := xp_rns f7
  have hx2 : (lays [] (mkR l d)).length = (mkL l).length + (mkD d).length := by show (lays [] (rns (mkL l ++ mkD d))).length = _; rw [x2, List.length_append]
  have hx3 : lays [] (mkR l d) = mkL l ++ mkD d := x2
  have hx1 : xpE [] (mkR l d) = 0 := x1
  have hhas : ∀ r ∈ mkR l d, Okr r ∧ Has (mkC l d) r.1.toNat := fun r hr => ⟨f8 r hr, by
    obtain ⟨s, c, rfl, hs, _⟩ := okr_parts (f8 r hr)
    have q := c3 _ hr
    have q2 := c2 s
    simp only [Int.toNat_natCast] at q ⊢
    exact ⟨by rw [c1]; exact hs, by show 0 < (((mkC l d).getD s 0)).toNat; omega⟩⟩
  have hrl : rl (smC row (p + 14) (rcN row p)) row (rcL row p + rcD row p) (rcL row p + rcD row p) [] (p + 14 + 3 * rcN row p) = (0, mkL l ++ mkD d, p + 14 + 3 * wrt (mkC l d) + (hdR (mkC l d) (mkR l d)).length) := by
    rw [eN, hC, eL, eD]
    have h9 := rl_back c5 hb ((mkL l).length + (mkD d).length) (mkR l d) ((mkL l).length + (mkD d).length) [] _ rest hhas g4 hx1 hx2 (Nat.sub_le _ _)
    rw [hx3] at h9
    exact h9
  rw [rd_l hE hS hrl, if_neg (by simp)]
  simp only
  rw [eL, List.take_left, List.drop_left]
  have hk : hck (mkL l) (mkD d) = 0 := by
    unfold mkE at h
    by_cases hbb : 286 < l.length ∨ 30 < d.length ∨ wthb l = false ∨ wthb d = false
    · rw [if_pos hbb] at h; omega
    · rw [if_neg hbb] at h; exact h
  rw [if_neg (by simp [hk])]
  congr 3
  unfold mkB hdB
  simp only [List.length_append, length_bts, hdS_len]
  omega

theorem rd_cases (row : List Int) (p : Nat) : ((rdA row p).1 ≠ 0 ∧ (rdA row p).2.1 = [] ∧ (rdA row p).2.2.1 = []) ∨ ((rdA row p).1 = 0 ∧ rcE row p = 0 ∧ smE row (p + 14) (rcN row p) = 0 ∧ ∃ x : List Int × Nat, rl (smC row (p + 14) (rcN row p)) row (rcL row p + rcD row p) (rcL row p + rcD row p) [] (p + 14 + 3 * rcN row p) = (0, x.1, x.2) ∧ hck (x.1.take (rcL row p)) (x.1.drop (rcL row p)) = 0 ∧ rdA row p = (0, x.1.take (rcL row p), x.1.drop (rcL row p), x.2)) := by
  by_cases h1 : rcE row p ≠ 0
  · rw [rd_c h1]; exact .inl ⟨h1, rfl, rfl⟩
  have h1' : rcE row p = 0 := by omega
  by_cases h2 : smE row (p + 14) (rcN row p) ≠ 0
  · rw [rd_s h1' h2]; exact .inl ⟨h2, rfl, rfl⟩
  have h2' : smE row (p + 14) (rcN row p) = 0 := by omega
  obtain ⟨x, hx⟩ : ∃ x, rl (smC row (p + 14) (rcN row p)) row (rcL row p + rcD row p) (rcL row p + rcD row p) [] (p + 14 + 3 * rcN row p) = x := ⟨_, rfl⟩
  obtain ⟨e, a, q⟩ := x
  have hr := rd_l h1' h2' hx
  simp only at hr
  by_cases h3 : e ≠ 0
  · rw [if_pos h3] at hr
    rw [hr]
    exact .inl ⟨h3, rfl, rfl⟩
  · rw [if_neg h3] at hr
    by_cases h4 : hck (a.take (rcL row p)) (a.drop (rcL row p)) ≠ 0
    · rw [if_pos h4] at hr
      rw [hr]
      exact .inl ⟨h4, rfl, rfl⟩
    · rw [if_neg h4] at hr
      have h3' : e = 0 := by omega
      subst h3'
      exact .inr ⟨by rw [hr], h1', h2', (a, q), hx, Classical.not_not.1 h4, hr⟩

theorem rd_errs (row : List Int) (p : Nat) : (rdA row p).1 = 0 ∨ (70 ≤ (rdA row p).1 ∧ (rdA row p).1 ≤ 76) := by
  by_cases h1 : rcE row p ≠ 0
  · rw [rd_c h1]
    unfold rcE at h1 ⊢
    split
    · simp
    · split <;> simp
  have h1' : rcE row p = 0 := by omega
  by_cases h2 : smE row (p + 14) (rcN row p) ≠ 0
  · rw [rd_s h1' h2]
    unfold smE at h2 ⊢
    split
    · simp
    · split <;> simp
  have h2' : smE row (p + 14) (rcN row p) = 0 := by omega
  obtain ⟨x, hx⟩ : ∃ x, rl (smC row (p + 14) (rcN row p)) row (rcL row p + rcD row p) (rcL row p + rcD row p) [] (p + 14 + 3 * rcN row p) = x := ⟨_, rfl⟩
  obtain ⟨e, a, q⟩ := x
  have hr := rd_l h1' h2' hx
  simp only at hr
  by_cases h3 : e ≠ 0
  · rw [if_pos h3] at hr
    rw [hr]
    have := rl_err (C := smC row (p + 14) (rcN row p)) (row := row) (rcL row p + rcD row p) (rcL row p + rcD row p) [] (p + 14 + 3 * rcN row p)
    rw [hx] at this
    simp only at this ⊢
    have := this h3
    omega
  · rw [if_neg h3] at hr
    by_cases h4 : hck (a.take (rcL row p)) (a.drop (rcL row p)) ≠ 0
    · rw [if_pos h4] at hr
      rw [hr]
      simp only
      unfold hck at h4 ⊢
      split
      · omega
      · split <;> omega
    · rw [if_neg h4] at hr
      rw [hr]
      exact .inl rfl

/-- What Read takes may be. -/
theorem rd_sound {row : List Int} {p : Nat} (hb : Bit row) (h : (rdA row p).1 = 0) : mkE (rdA row p).2.1 (rdA row p).2.2.1 = 0 ∧ 257 ≤ (rdA row p).2.1.length ∧ (rdA row p).2.1.length ≤ 286 ∧ 1 ≤ (rdA row p).2.2.1.length ∧ (rdA row p).2.2.1.length ≤ 30 := by
  rcases rd_cases row p with ⟨q, _⟩ | ⟨_, h1, h2, ⟨a, q⟩, hx, hk, hr⟩
  · exact absurd h q
  simp only at hx hk hr
  have hf := rl_facts (C := smC row (p + 14) (rcN row p)) hb (rcL row p + rcD row p) (rcL row p + rcD row p) [] (p + 14 + 3 * rcN row p) (by simp) (by simp) (by simp)
  rw [hx] at hf
  obtain ⟨hl, hin⟩ := hf rfl
  simp only at hl hin
  have hc : ¬ (286 < rcL row p ∨ 30 < rcD row p) := fun c => by
    unfold rcE at h1
    by_cases c0 : row.length < p + 14
    · rw [if_pos c0] at h1; omega
    · rw [if_neg c0, if_pos c] at h1; omega
  have hL : 257 ≤ rcL row p := by unfold rcL; omega
  have hD : 1 ≤ rcD row p := by unfold rcD; omega
  rw [hr]
  simp only
  have e1 : (a.take (rcL row p)).length = rcL row p := by rw [List.length_take]; omega
  have e2 : (a.drop (rcL row p)).length = rcD row p := by rw [List.length_drop]; omega
  have i1 : ∀ x ∈ a.take (rcL row p), 0 ≤ x ∧ x ≤ 15 := fun x hx => hin x (List.mem_of_mem_take hx)
  have i2 : ∀ x ∈ a.drop (rcL row p), 0 ≤ x ∧ x ≤ 15 := fun x hx => hin x (List.mem_of_mem_drop hx)
  refine ⟨?_, by omega, by omega, by omega, by omega⟩
  unfold mkE
  rw [if_neg (by
    rintro (c | c | c | c)
    · omega
    · omega
    · rw [wth_iff.2 i1] at c; cases c
    · rw [wth_iff.2 i2] at c; cases c)]
  have c1 : chkS (mkL (a.take (rcL row p))) = chkS (a.take (rcL row p)) := by
    have := chkS_trm (l := a.take (rcL row p)) (f := 257) (by omega) (by omega) i1
    unfold mkL
    rw [this]
    unfold chkS
    rw [if_pos ⟨by omega, i1⟩]
  have c2 : chkS (mkD (a.drop (rcL row p))) = chkS (a.drop (rcL row p)) := by
    have := chkS_trm (l := a.drop (rcL row p)) (f := 1) (by omega) (by omega) i2
    unfold mkD
    rw [this]
    unfold chkS
    rw [if_pos ⟨by omega, i2⟩]
  have c3 : (mkL (a.take (rcL row p))).getD 256 0 = (a.take (rcL row p)).getD 256 0 := trm_getD _ 257 256
  unfold hck at hk ⊢
  rw [c1, c2, c3]
  exact hk

theorem ahead_ext {row t : List Int} {p n : Nat} (h : p + n ≤ row.length) : ahead (row ++ t) p n = ahead row p n := by
  unfold ahead
  rw [List.drop_append_of_le_length (by omega), List.take_append_of_le_length (by rw [List.length_drop]; omega)]

theorem mir_any {row : List Int} (hb : Bit row) (p : Nat) {n : Nat} (h : n ≤ 15) : mir (ahead row p n) n = mir (ahead row p 15) n := by
  have e : ahead row p n = ahead row p 15 % 2 ^ n := by
    unfold ahead
    rw [← val_take ((hb.drop p).take 15), List.take_take, Nat.min_eq_left h]
  unfold mir
  rw [e, bts_mod]

/-- More bits behind change no word that was there. -/
theorem nx_ext {l row t : List Int} {p : Nat} (hl : Lens l) (hb : Bit (row ++ t)) (h : nxE l row p = 0) : nxE l (row ++ t) p = 0 ∧ nxS l (row ++ t) p = nxS l row p ∧ nxP l (row ++ t) p = nxP l row p ∧ nxP l row p ≤ row.length := by
  have hb1 : Bit row := fun x hx => hb x (by simp [hx])
  have hfb : fdB l (rowAt row p) = true := by
    unfold nxE at h
    by_cases c : fdB l (rowAt row p) = true
    · exact c
    · rw [if_neg c] at h; omega
  have hlen : p + ln l (fdS l (rowAt row p)) ≤ row.length := by
    unfold nxE at h
    rw [if_pos hfb] at h
    by_cases c : p + ln l (fdS l (rowAt row p)) ≤ row.length
    · exact c
    · rw [if_neg c] at h; omega
  have hs : nxS l row p = fdS l (rowAt row p) := by unfold nxS; rw [if_pos h]
  have hp : nxP l row p = p + ln l (fdS l (rowAt row p)) := by unfold nxP; rw [if_pos h]
  have hhit := fd_has hl hfb
  obtain ⟨s, hS⟩ : ∃ s, fdS l (rowAt row p) = s := ⟨_, rfl⟩
  rw [hS] at hhit hlen hs hp
  have h15 := (hl.ln s).2
  obtain ⟨hhas, hw⟩ := hit_iff.1 hhit
  have r1 := mir_row (ahead row p 15) h15
  have r2 := mir_row (ahead (row ++ t) p 15) h15
  rw [← mir_any hb1 p h15] at r1
  rw [← mir_any hb p h15, ahead_ext hlen, r1] at r2
  have r3 : rowN (ahead (row ++ t) p 15) / 2 ^ (15 - ln l s) = wd l s := by
    rw [← hw]
    unfold rowAt
    exact_mod_cast r2.symm
  have hhit2 : Hit l (rowAt (row ++ t) p) s := hit_iff.2 ⟨hhas, r3⟩
  obtain ⟨g1, g2⟩ := fd_hit hl hhit2
  have hE : nxE l (row ++ t) p = 0 := by unfold nxE; rw [if_pos g2, g1, if_pos (by rw [List.length_append]; omega)]
  exact ⟨hE, by unfold nxS; rw [if_pos hE, g1]; exact hs.symm.trans (by unfold nxS; rw [if_pos h]) , by unfold nxP; rw [if_pos hE, g1]; exact hp.symm.trans (by unfold nxP; rw [if_pos h]), by rw [hp]; exact hlen⟩

theorem tr_ext {l row t : List Int} {p : Nat} (hl : Lens l) (hb : Bit (row ++ t)) (h : trE l row p = 0) : trE l (row ++ t) p = 0 ∧ nxS l (row ++ t) p = nxS l row p ∧ trC l (row ++ t) p = trC l row p ∧ trP l (row ++ t) p = trP l row p ∧ trP l row p ≤ row.length := by
  have h0 : nxE l row p = 0 := by
    unfold trE at h
    by_cases c : nxE l row p ≠ 0
    · rw [if_pos c] at h; omega
    · omega
  have h1 : nxP l row p + frt (nxS l row p : Nat) ≤ row.length := by
    unfold trE at h
    rw [if_neg (by simp [h0])] at h
    by_cases c : row.length < nxP l row p + frt (nxS l row p : Nat)
    · rw [if_pos c] at h; omega
    · omega
  obtain ⟨e1, e2, e3, e4⟩ := nx_ext hl hb h0
  refine ⟨by unfold trE; rw [if_neg (by simp [e1]), e2, e3, if_neg (by rw [List.length_append]; omega)], e2, by unfold trC; rw [e2, e3, ahead_ext h1], by unfold trP; rw [e2, e3], h1⟩

theorem rl_ext {l row t : List Int} (hl : Lens l) (hb : Bit (row ++ t)) (want : Nat) : ∀ f acc p, p ≤ row.length → (rl l row want f acc p).1 ≠ 70 → rl l (row ++ t) want f acc p = rl l row want f acc p ∧ ((rl l row want f acc p).1 = 0 → (rl l row want f acc p).2.2 ≤ row.length)
  | 0, acc, p, hp, _ => ⟨rfl, fun _ => hp⟩
  | f + 1, acc, p, hp, h => by
    by_cases c : acc.length < want
    · rw [rl, if_pos c] at h
      rw [rl, rl, if_pos c, if_pos c]
      by_cases c1 : trE l row p ≠ 0
      · rw [if_pos c1] at h; exact absurd rfl h
      · rw [if_neg c1] at h
        obtain ⟨e1, e2, e3, e4, e5⟩ := tr_ext hl hb (by omega : trE l row p = 0)
        rw [if_neg (by simp [e1]), if_neg c1, e2, e3, e4]
        by_cases c2 : nxS l row p = 16 ∧ acc = []
        · rw [if_pos c2, if_pos c2]; exact ⟨rfl, fun q => by simp at q⟩
        · rw [if_neg c2] at h
          rw [if_neg c2, if_neg c2]
          by_cases c3 : (want : Int) < acc.length + trC l row p
          · rw [if_pos c3, if_pos c3]; exact ⟨rfl, fun q => by simp at q⟩
          · rw [if_neg c3] at h
            rw [if_neg c3, if_neg c3]
            exact rl_ext hl hb want f _ _ e5 h
    · rw [rl, rl, if_neg c, if_neg c]
      exact ⟨rfl, fun _ => hp⟩

theorem smC_ext {row t : List Int} {p : Nat} : ∀ n, p + 3 * n ≤ row.length → smC (row ++ t) p n = smC row p n
  | 0, _ => rfl
  | n + 1, h => by rw [smC, smC, smC_ext n (by omega), ahead_ext (by omega)]

/-- More bits behind change no answer but that they end. -/
theorem rd_ext {row t : List Int} {p : Nat} (hb : Bit (row ++ t)) (h : (rdA row p).1 ≠ 70) : rdA (row ++ t) p = rdA row p ∧ ((rdA row p).1 = 0 → (rdA row p).2.2.2 ≤ row.length) := by
  have h0 : p + 14 ≤ row.length := by
    by_cases c : row.length < p + 14
    · have e : rcE row p = 70 := by unfold rcE; rw [if_pos c]
      rw [rd_c (by omega)] at h
      exact absurd e h
    · omega
  have hA := ahead_ext (t := t) h0
  have eL : rcL (row ++ t) p = rcL row p := by unfold rcL; rw [hA]
  have eD : rcD (row ++ t) p = rcD row p := by unfold rcD; rw [hA]
  have eN : rcN (row ++ t) p = rcN row p := by unfold rcN; rw [hA]
  have eE : rcE (row ++ t) p = rcE row p := by unfold rcE; rw [eL, eD, if_neg (by rw [List.length_append]; omega), if_neg (c := row.length < p + 14) (by omega)]
  by_cases c1 : rcE row p ≠ 0
  · rw [rd_c c1, rd_c (by rw [eE]; exact c1), eE]
    exact ⟨rfl, fun q => absurd q c1⟩
  have c1' : rcE row p = 0 := by omega
  have h1 : p + 14 + 3 * rcN row p ≤ row.length := by
    by_cases c : row.length < p + 14 + 3 * rcN row p
    · have e : smE row (p + 14) (rcN row p) = 70 := by unfold smE; rw [if_pos c]
      rw [rd_s c1' (by omega)] at h
      exact absurd e h
    · omega
  have eC := smC_ext (t := t) (rcN row p) h1
  have eS : smE (row ++ t) (p + 14) (rcN (row ++ t) p) = smE row (p + 14) (rcN row p) := by unfold smE; rw [eN, eC, if_neg (by rw [List.length_append]; omega), if_neg (c := row.length < p + 14 + 3 * rcN row p) (by omega)]
  by_cases c2 : smE row (p + 14) (rcN row p) ≠ 0
  · rw [rd_s c1' c2, rd_s (by rw [eE]; exact c1') (by rw [eS]; exact c2), eS]
    exact ⟨rfl, fun q => absurd q c2⟩
  have c2' : smE row (p + 14) (rcN row p) = 0 := by omega
  have hlens : Lens (smC row (p + 14) (rcN row p)) := by
    unfold smE at c2'
    rw [if_neg (by omega)] at c2'
    by_cases q : Lens (smC row (p + 14) (rcN row p))
    · exact q
    · rw [if_pos (by unfold chkS; rw [if_neg q]; decide)] at c2'; omega
  obtain ⟨x, hx⟩ : ∃ x, rl (smC row (p + 14) (rcN row p)) row (rcL row p + rcD row p) (rcL row p + rcD row p) [] (p + 14 + 3 * rcN row p) = x := ⟨_, rfl⟩
  have hr := rd_l c1' c2' hx
  have h70 : x.1 ≠ 70 := fun q => by
    rw [if_pos (by omega)] at hr
    rw [hr] at h
    exact h q
  obtain ⟨g1, g2⟩ := rl_ext hlens hb (rcL row p + rcD row p) (rcL row p + rcD row p) [] (p + 14 + 3 * rcN row p) h1 (by rw [hx]; exact h70)
  rw [hx] at g1 g2
  have hr2 := rd_l (row := row ++ t) (p := p) (x := x) (by rw [eE]; exact c1') (by rw [eS]; exact c2') (by rw [eN, eL, eD, eC]; exact g1)
  rw [eL] at hr2
  refine ⟨hr2.trans hr.symm, fun q => ?_⟩
  rw [hr] at q ⊢
  by_cases c3 : x.1 ≠ 0
  · rw [if_pos c3] at q; exact absurd q c3
  · rw [if_neg c3] at q ⊢
    by_cases c4 : hck (x.2.1.take (rcL row p)) (x.2.1.drop (rcL row p)) ≠ 0
    · rw [if_pos c4] at q; exact absurd q c4
    · rw [if_neg c4]
      exact g2 (by omega)

/-- A header that is cut off ends too early. -/
theorem rd_cut {l d row t : List Int} (h : mkE l d = 0) (hb : Bit (row ++ t)) (hB : row ++ t = mkB l d) (ht : t ≠ []) : (rdA row 0).1 = 70 ∧ (rdA row 0).2.1 = [] ∧ (rdA row 0).2.2.1 = [] := by
  have h70 : (rdA row 0).1 = 70 := Classical.byContradiction fun q => by
    obtain ⟨e1, e2⟩ := rd_ext hb q
    have e3 := rd_back (p := 0) (row := row ++ t) (rest := []) h hb (by rw [hB]; simp)
    rw [e1] at e3
    rw [e3] at e2
    have e4 := e2 rfl
    have := congrArg List.length hB
    rw [List.length_append] at this
    simp only at e4
    cases t with
    | nil => exact ht rfl
    | cons a t => simp only [List.length_cons] at this; omega
  rcases rd_cases row 0 with ⟨_, q1, q2⟩ | ⟨q, _⟩
  · exact ⟨h70, q1, q2⟩
  · rw [h70] at q; omega
end Go.Proofs.YtfdhffcdkmklbaaDoor

namespace Go.Proofs.YtfdhffcdkmklbaaDoor
open Go.RowKit Go.Maps
set_option maxRecDepth 20000
set_option linter.unusedVariables false

theorem mkB_len10 {l d : List Int} (h : mkE l d = 0) : ((mkB l d).length : Int) = mkZ l d ∧ (mkB l d).length ≤ 10000 := by
  obtain ⟨f1, f2, f3, f4, f5, f6, f7, f8, f9, f10⟩ := mk_facts h
  obtain ⟨c1, c2, c3, c4, c5⟩ := mk_small h
  have h1 := hdB_len (L := mkL l) (D := mkD d) (C := mkC l d) (R := mkR l d) (fun s => (c2 s).1)
  have h2 := rsz_bound (C := mkC l d) (fun s => ⟨(c2 s).1, by have := (c2 s).2; omega⟩) (mkR l d)
  have h3 := wrt_le (mkC l d)
  have h4 : ((mkB l d).length : Int) = hsz (mkC l d) (mkR l d) := h1
  refine ⟨h4, ?_⟩
  unfold hsz at h4
  omega

/-- A header's size, as Make tells it. -/
noncomputable def hzz (P Q : List Int) : Int := if mkE P Q = 0 then mkZ P Q else 0

theorem hzz_bd (P Q : List Int) : 0 ≤ hzz P Q ∧ hzz P Q ≤ 1000000 := by
  unfold hzz
  split
  · rename_i h
    have := mkB_len10 h
    omega
  · omega

noncomputable def dyz (F G : List Int) : Int := 3 + hzz (lmL F 15) (lmL G 15) + bdz F G (lmL F 15) (lmL G 15)

theorem bdz_bd {F G P Q : List Int} (bF : Bd F 16777217) (bG : Bd G 16777217) : 0 ≤ bdz F G P Q ∧ bdz F G P Q ≤ 900000000000000 := by
  have h1 := cstV_bd F (P.take 286)
  have h2 := cstV_bd G (Q.take 30)
  have h3 := fzL_bd bF 29 (by omega)
  have h4 := fzD_bd bG 30 (by omega)
  unfold bdz
  omega

set_option maxHeartbeats 4000000 in
theorem dynamicSize_any (af ag : Option Addr) (nF cf nG cg : Nat) (F G : List Int) (w : World) (sf : SI w (.slice af nF cf) F) (sg : SI w (.slice ag nG cg) G) (k1 : ∀ k, (Value.slice af nF cf).ownBlock = some k → k < w.heap.size) (k2 : ∀ k, (Value.slice ag nG cg).ownBlock = some k → k < w.heap.size)
    (hF : F.length = 286) (hG : G.length = 30) (bF : Bd F 16777217) (bG : Bd G 16777217) (hP : 286 ≤ (lmL F 15).length) (hQ : 30 ≤ (lmL G 15).length) (T : Ltab w ∧ Dtab w) (TH : Tab w) (O : Odr w) :
    Calls Tryd.prog 20 #[.agg #[.slice af nF cf, .slice ag nG cg]] w fun e w' => e = .returned (.int .i64 (dyz F G)) ∧ Below w.heap.size w w' := by
  obtain ⟨wb, hwb⟩ : ∃ wb, w.alloc (.cells #[.slice af nF cf, .slice ag nG cg] 49) = wb := ⟨_, rfl⟩
  have HB : Hid (Below w.heap.size w wb) := by show Below _ _ _; rw [← hwb]; exact (Below.refl _ _).alloc (Nat.le_refl _) _
  have hbl : w.heap.size < wb.heap.size := by rw [← hwb]; simp
  have d1 : wb.cell? ⟨w.heap.size, 0, none⟩ = some (.slice af nF cf) := by rw [← hwb]; unfold World.cell?; simp only [heap_alloc_new]; rfl
  have d2 : wb.cell? ⟨w.heap.size, 1, none⟩ = some (.slice ag nG cg) := by rw [← hwb]; unfold World.cell?; simp only [heap_alloc_new]; rfl
  have HD : Hid (∀ wx, Below wb.heap.size wb wx → wx.cell? ⟨w.heap.size, 0, none⟩ = some (.slice af nF cf) ∧ wx.cell? ⟨w.heap.size, 1, none⟩ = some (.slice ag nG cg)) := fun wx q => ⟨(q.cell hbl).trans d1, (q.cell hbl).trans d2⟩
  have HSF := hide (sf.below HB.out)
  have HSG := hide (sg.below HB.out)
  have HTR := hide (otrees_any af ag nF cf nG cg F G wb HSF.out HSG.out (fun k hk => by have := k1 k hk; omega) (fun k hk => by have := k2 k hk; omega))
  have HTL : Hid (∀ wx, Below wb.heap.size wb wx → Ltab wx ∧ Dtab wx) := fun wx q => ⟨(T.1.low HB.out).low q, (T.2.low HB.out).low q⟩
  have HTT : Hid (∀ wx, Below wb.heap.size wb wx → Tab wx ∧ Odr wx) := fun wx q => ⟨(TH.mono HB.out).mono q, (O.mono HB.out).mono q⟩
  obtain ⟨P, HP⟩ : ∃ P, Hid (P = lmL F 15) := ⟨_, rfl⟩
  obtain ⟨Q, HQ⟩ : ∃ P, Hid (P = lmL G 15) := ⟨_, rfl⟩
  rw [← HP.out] at HTR hP
  rw [← HQ.out] at HTR hQ
  obtain ⟨nP, HNP⟩ : ∃ n, Hid (n = P.length) := ⟨_, rfl⟩
  obtain ⟨nQ, HNQ⟩ : ∃ n, Hid (n = Q.length) := ⟨_, rfl⟩
  rw [← HNP.out, ← HNQ.out] at HTR
  have HPl := hide hP
  have HQl := hide hQ
  have HFL := hide hF
  have HGL := hide hG
  have HBF := hide bF
  have HBG := hide bG
  have HFI : Hid (∀ wx, Below wb.heap.size wb wx → Below w.heap.size w wx) := fun wx q => HB.out.trans (q.mono HB.out.size)
  obtain ⟨Z, HZ⟩ : ∃ Z, Hid (Z = hzz P Q) := ⟨_, rfl⟩
  obtain ⟨Y, HY⟩ : ∃ Y, Hid (Y = bdz F G P Q) := ⟨_, rfl⟩
  have hz := hzz_bd P Q
  have hy := bdz_bd (P := P) (Q := Q) bF bG
  rw [← HZ.out] at hz
  rw [← HY.out] at hy
  have HDY : Hid (dyz F G = 3 + Z + Y) := by show _ = _; unfold dyz; rw [← HP.out, ← HQ.out, HZ.out, HY.out]
  clear sf sg k1 k2 T TH O hP hQ hF hG bF bG
  go_enter Tryd.func20, Tryd.ntmps20
  go_wp2_with fail
  refine HTR.out.mono ?_
  rintro e w2 ⟨a1, c1, a2, c2, rfl, o1, o2, _, b2⟩
  have HO1 := hide o1.sb
  have HO2 := hide o2.sb
  have HB2 := hide b2
  obtain ⟨w3, hw3⟩ : ∃ w3, w2.alloc (.cells #[.slice a1 nP c1, .slice a2 nQ c2] 49) = w3 := ⟨_, rfl⟩
  have b3 : Below w2.heap.size w2 w3 := by rw [← hw3]; exact (Below.refl _ _).alloc (Nat.le_refl _) _
  have HB3 := hide (HB2.out.trans (b3.mono HB2.out.size))
  have h23 : w2.heap.size < w3.heap.size := by rw [← hw3]; simp
  have e1 : w3.cell? ⟨w2.heap.size, 0, none⟩ = some (.slice a1 nP c1) := by rw [← hw3]; unfold World.cell?; simp only [heap_alloc_new]; rfl
  have e2 : w3.cell? ⟨w2.heap.size, 1, none⟩ = some (.slice a2 nQ c2) := by rw [← hw3]; unfold World.cell?; simp only [heap_alloc_new]; rfl
  have HE : Hid (∀ wx, Below w3.heap.size w3 wx → wx.cell? ⟨w2.heap.size, 0, none⟩ = some (.slice a1 nP c1) ∧ wx.cell? ⟨w2.heap.size, 1, none⟩ = some (.slice a2 nQ c2)) := fun wx q => ⟨(q.cell h23).trans e1, (q.cell h23).trans e2⟩
  have HP3 := hide (HO1.out.below b3)
  have HQ3 := hide (HO2.out.below b3)
  have HMK := hide (make_any _ _ P Q w3 HP3.out HQ3.out (HTT.out _ HB3.out).1 (HTT.out _ HB3.out).2)
  clear o1 o2 b2 b3 d1 d2 hwb HTR HO1 HO2 HTT HB2
  go_wp2_with fail
  refine HMK.out.mono ?_
  rintro e w4 ⟨hyn, b4⟩
  obtain ⟨aL, cL, aD, cD, aC, cC, aR, cR, L, D, C, R, Z', hm, rfl, _⟩ := mrs_of hyn
  have hZ' : Z' = Z := by
    rw [HZ.out]
    unfold hzz
    rcases hm with ⟨h1, -, -, -, -, h2⟩ | ⟨h1, -, -, -, -, h2⟩
    · rw [if_pos h1, h2]
    · rw [if_neg h1, h2]
  subst hZ'
  obtain ⟨EM, HEM⟩ : ∃ E, Hid (E = mkE P Q) := ⟨_, rfl⟩
  rw [← HEM.out]
  have HB4 := hide (HB3.out.trans (b4.mono HB3.out.size))
  obtain ⟨w5, hw5⟩ : ∃ w5, w4.alloc (.cells #[.slice aL L.length cL, .slice aD D.length cD, .slice aC C.length cC, .slice aR R.length cR, .int .i64 Z'] 74) = w5 := ⟨_, rfl⟩
  have b5 : Below w4.heap.size w4 w5 := by rw [← hw5]; exact (Below.refl _ _).alloc (Nat.le_refl _) _
  have HB5 := hide (HB4.out.trans (b5.mono HB4.out.size))
  have h45 : w4.heap.size < w5.heap.size := by rw [← hw5]; simp
  have z1 : w5.cell? ⟨w4.heap.size, 4, none⟩ = some (.int .i64 Z') := by rw [← hw5]; unfold World.cell?; simp only [heap_alloc_new]; rfl
  have HZC : Hid (∀ wx, Below w5.heap.size w5 wx → wx.cell? ⟨w4.heap.size, 4, none⟩ = some (.int .i64 Z')) := fun wx q => (q.cell h45).trans z1
  have HB35 : Hid (Below w3.heap.size w3 w5) := b4.trans (b5.mono b4.size)
  have HBS : Hid (∀ wx, Below w5.heap.size w5 wx → Calls Tryd.prog 18 #[.agg #[.slice af nF cf, .slice ag nG cg], .agg #[.slice a1 nP c1, .slice a2 nQ c2]] wx fun e w' => e = .returned (.int .i64 Y) ∧ Below wx.heap.size wx w') := fun wx q => by
    have h1 := HB5.out.trans (q.mono HB5.out.size)
    have h2 := HB35.out.trans (q.mono HB35.out.size)
    have := bodySize_any _ _ _ _ F G P Q wx (HSF.out.below h1) (HSG.out.below h1) (HP3.out.below h2) (HQ3.out.below h2) HFL.out HGL.out HPl.out HQl.out HBF.out HBG.out (HTL.out _ h1)
    rw [← HY.out] at this
    exact this
  have HW5 := hide hw5
  have hw5' : w4.alloc (.cells #[.slice aL L.length cL, .slice aD D.length cD, .slice aC C.length cC, .slice aR R.length cR, .int .i64 Z'] 74) = w5 := hw5
  obtain ⟨f1, f2⟩ := HD.out w5.drew (HB5.out.trans ((Below.refl _ _).drew))
  obtain ⟨f3, f4⟩ := HE.out w5.drew (HB35.out.trans ((Below.refl _ _).drew))
  have f5 := HZC.out w5.drew ((Below.refl _ _).drew)
  have HBS5 := hide (HBS.out w5.drew ((Below.refl _ _).drew))
  have HZD := hide HZC.out
  clear hyn b4 b5 hm HMK hw5 HW5
  go_wp2
  clear hw5' z1 e1 e2
  have v1 : IntKind.i64.wrap (3 + Z') = 3 + Z' := by rw [IntKind.wrap_i64]; omega
  have v2 : IntKind.i64.wrap (3 + Z' + Y) = 3 + Z' + Y := by rw [IntKind.wrap_i64]; omega
  go_region_with (go_at_call 18; refine HBS5.out.mono ?_; rintro e w6 ⟨rfl, b6⟩; have HB6 : Hid (Below w5.heap.size w5 w6) := ((Below.refl _ _).drew).trans b6; have y6 := HZD.out _ HB6.out; clear b6)
  all_goals
    go_simp
    go_wp2
    go_ret
    rw [HDY.out]
    exact ⟨rfl, HFI.out _ (HB5.out.trans (HB6.out.mono HB5.out.size))⟩
end Go.Proofs.YtfdhffcdkmklbaaDoor

