import Derived.Test.YtfoglaajnlbnbaaGreatDoorG27Vd2
import Derived.Test.YtfoglaajnlbnbaaGreatDoorG23Drr
namespace Go.Proofs.YtfoglaajnlbnbaaGreatDoor
open Go.RowKit Go.Maps
set_option maxRecDepth 20000
set_option linter.unusedVariables false

theorem sum_filter {α : Type} (p : α → Bool) (f : α → Nat) (L : List α) (h : ∀ s ∈ L, p s = false → f s = 0) : ((L.filter p).map f).sum = (L.map f).sum := by
  induction L with
  | nil => rfl
  | cons a L ih =>
    have i := ih fun s hs => h s (List.mem_cons_of_mem _ hs)
    cases q : p a with
    | true => rw [List.filter_cons_of_pos q, List.map_cons, List.map_cons, List.sum_cons, List.sum_cons, i]
    | false =>
      rw [List.filter_cons_of_neg (by simp [q]), List.map_cons, List.sum_cons, i, h a List.mem_cons_self q]
      omega

theorem usum_range (o : List Int) : usum o = ((List.range o.length).map fun s => wt (o.getD s 0)).sum := by
  unfold usum
  congr 1
  apply List.ext_getElem
  · simp
  · intro i h1 h2
    simp at h1
    simp [h1]

end Go.Proofs.YtfoglaajnlbnbaaGreatDoor

namespace Go.Proofs.YtfoglaajnlbnbaaGreatDoor
open Go.RowKit Go.Maps
set_option maxRecDepth 20000
set_option linter.unusedVariables false

theorem mk_facts {l d : List Int} (h : mkE l d = 0) : l.length ≤ 286 ∧ d.length ≤ 30 ∧ 257 ≤ (mkL l).length ∧ (mkL l).length ≤ 286 ∧ 1 ≤ (mkD d).length ∧ (mkD d).length ≤ 30 ∧ (∀ x ∈ mkL l ++ mkD d, 0 ≤ x ∧ x ≤ 15) ∧ (∀ r ∈ mkR l d, Okr r) ∧ (mkR l d).length ≤ 316 ∧ (mkL l).getD 256 0 ≠ 0 := by
  unfold mkE at h
  by_cases hb : 286 < l.length ∨ 30 < d.length ∨ wthb l = false ∨ wthb d = false
  · rw [if_pos hb] at h; omega
  · rw [if_neg hb] at h
    have w1 : wthb l = true := by cases q : wthb l with
      | true => rfl
      | false => exact absurd (.inr (.inr (.inl q))) hb
    have w2 : wthb d = true := by cases q : wthb d with
      | true => rfl
      | false => exact absurd (.inr (.inr (.inr q))) hb
    have h1 := trm_lens (l := l) (f := 257) (by omega) (by omega)
    have h2 := trm_lens (l := d) (f := 1) (by omega) (by omega)
    have h3 : ∀ x ∈ mkL l ++ mkD d, 0 ≤ x ∧ x ≤ 15 := fun x hx => by
      rcases List.mem_append.1 hx with q | q
      · exact trm_all l 257 (wth_iff.1 w1) x q
      · exact trm_all d 1 (wth_iff.1 w2) x q
    have h4 := rns_len (mkL l ++ mkD d)
    rw [List.length_append] at h4
    have h5 : (mkL l).getD 256 0 ≠ 0 := fun q => by unfold hck at h; rw [if_pos (.inl q)] at h; omega
    unfold mkL mkD at *
    exact ⟨by omega, by omega, h1.1, by omega, h2.1, by omega, h3, rns_ok h3, by unfold mkR mkL mkD; omega, h5⟩

end Go.Proofs.YtfoglaajnlbnbaaGreatDoor

namespace Go.Proofs.YtfoglaajnlbnbaaGreatDoor
open Go.RowKit Go.Maps
set_option maxRecDepth 20000
set_option linter.unusedVariables false

theorem lays_const {v : Int} : ∀ (R : List Rn) (a : List Int), (∀ r ∈ R, ∀ b, mnt r.1 b = v) → ∃ n, lays a R = a ++ List.replicate n v
  | [], a, _ => ⟨0, by simp [lays]⟩
  | r :: R, a, h => by
    obtain ⟨n, e⟩ := lays_const R (lay a r) fun x hx => h x (List.mem_cons_of_mem _ hx)
    refine ⟨r.2.toNat + n, ?_⟩
    have : lays a (r :: R) = lays (lay a r) R := rfl
    rw [this, e]
    unfold lay
    rw [h r List.mem_cons_self a, List.append_assoc, List.replicate_append_replicate]

theorem eqn_rep (v : Int) (n : Nat) : eqn v (List.replicate n v) = n := by
  induction n with
  | zero => rfl
  | succ n ih => rw [List.replicate_succ]; simp only [eqn, if_true, ih]

theorem two_syms {l : List Int} (hl : ∀ x ∈ l, 0 ≤ x ∧ x ≤ 15) (hn : 258 ≤ l.length) (h256 : l.getD 256 0 ≠ 0) : ∃ r ∈ rns l, ∃ q ∈ rns l, r.1 ≠ q.1 := by
  refine Classical.byContradiction fun hno => ?_
  have same : ∀ r ∈ rns l, ∀ q ∈ rns l, r.1 = q.1 := fun r hr q hq => Classical.byContradiction fun hne => hno ⟨r, hr, q, hq, hne⟩
  obtain ⟨c, hc, c1, c2, _⟩ := run1_cnt (l := l) (k := 0) (by omega)
  have e0 : rns l = run1 l 0 :: rnK l c := by
    rw [← rnK_zero, rnK_step (by omega) hc, Nat.zero_add]
  have m0 : run1 l 0 ∈ rns l := by rw [e0]; exact List.mem_cons_self
  obtain ⟨x1, x2⟩ := xp_rns hl
  have ok := rns_ok hl _ m0
  by_cases hs : 16 ≤ (run1 l 0).1
  · have hz : ∀ r ∈ rns l, ∀ b, mnt r.1 b = 0 := fun r hr b => by
      have := same r hr _ m0
      have h16 : (run1 l 0).1 ≠ 16 := fun q => by have := (run1_ok (l := l) (k := 0) (by omega) hl).2 q; omega
      unfold mnt
      rw [if_neg (by omega), if_neg (by omega)]
    obtain ⟨n, e⟩ := lays_const (rns l) [] hz
    rw [x2, List.nil_append] at e
    apply h256
    rw [e, List.getD_eq_getElem?_getD, List.getElem?_replicate]
    split <;> rfl
  · have hz : ∀ r ∈ rns l, ∀ b, mnt r.1 b = (run1 l 0).1 := fun r hr b => by
      have := same r hr _ m0
      unfold mnt
      rw [if_pos (by omega)]
      exact this
    obtain ⟨n, e⟩ := lays_const (rns l) [] hz
    rw [x2, List.nil_append] at e
    obtain ⟨v, hv⟩ : ∃ v, v = (run1 l 0).1 := ⟨_, rfl⟩
    rw [← hv] at e hz hs
    have hn' : n = l.length := by rw [e]; simp
    have v0 : v ≠ 0 := fun q => by
      apply h256
      rw [e, q, List.getD_eq_getElem?_getD, List.getElem?_replicate]
      split <;> rfl
    have g0 : l.getD 0 0 = v := by rw [e, List.getD_eq_getElem?_getD, List.getElem?_replicate, if_pos (by omega)]; rfl
    have g1 : l.getD 1 0 = v := by rw [e, List.getD_eq_getElem?_getD, List.getElem?_replicate, if_pos (by omega)]; rfl
    have r0 : run1 l 0 = (v, 1) := by
      unfold run1
      rw [g0, if_neg (fun q => v0 q.1), if_neg (fun q => v0 q.1), if_neg (fun q => by omega)]
    have c1' : c = 1 := by rw [r0] at hc; simp only at hc; omega
    have hd : eqn v (l.drop 1) = l.length - 1 := by rw [← hn', e, List.drop_replicate, eqn_rep]
    have r1 : (run1 l 1).1 = 16 := by
      unfold run1
      rw [g1, if_neg (fun q => v0 q.1), if_neg (fun q => v0 q.1), if_pos ⟨v0, by omega, g0, by rw [hd]; omega⟩]
    obtain ⟨c', hc', _⟩ := run1_cnt (l := l) (k := 1) (by omega)
    have m1 : run1 l 1 ∈ rns l := by
      rw [e0, c1', rnK_step (by omega) hc']
      exact List.mem_cons_of_mem _ List.mem_cons_self
    have := same _ m1 _ m0
    rw [r1, r0] at this
    simp only at this
    omega

theorem used_of {R : List Rn} {s : Nat} (hs : s < 19) (h : ∃ r ∈ R, r.1 = (s : Int)) : s ∈ us6 (usg R) := by
  obtain ⟨r, hr, e⟩ := h
  refine mem_us.2 ⟨by rw [usg_len]; exact hs, ?_⟩
  rw [usg_at R hs]
  have : 0 < (R.map (·.1)).count (s : Int) := List.count_pos_iff.2 (List.mem_map.2 ⟨r, hr, e⟩)
  omega

theorem two_used {l : List Int} (hl : ∀ x ∈ l, 0 ≤ x ∧ x ≤ 15) (hn : 258 ≤ l.length) (h256 : l.getD 256 0 ≠ 0) : 2 ≤ (us6 (usg (rns l))).length := by
  obtain ⟨r, hr, q, hq, hne⟩ := two_syms hl hn h256
  obtain ⟨s, c, e1, hs, _⟩ := okr_parts (rns_ok hl r hr)
  obtain ⟨t, c', e2, ht, _⟩ := okr_parts (rns_ok hl q hq)
  have m1 : s ∈ us6 (usg (rns l)) := used_of hs ⟨r, hr, by rw [e1]⟩
  have m2 : t ∈ us6 (usg (rns l)) := used_of ht ⟨q, hq, by rw [e2]⟩
  have hst : s ≠ t := fun z => hne (by rw [e1, e2, z])
  match h : us6 (usg (rns l)), m1, m2 with
  | [], m1, _ => cases m1
  | [x], m1, m2 =>
    rw [List.mem_singleton] at m1 m2
    exact absurd (m1.trans m2.symm) hst
  | x :: y :: z, _, _ => simp

theorem small_full {l : List Int} (hl : ∀ x ∈ l, 0 ≤ x ∧ x ≤ 15) (hn : 258 ≤ l.length) (hm : l.length ≤ 316) (h256 : l.getD 256 0 ≠ 0) : usum (lmt (usg (rns l)) 7) = 32768 ∧ ∀ r ∈ rns l, (lmt (usg (rns l)) 7).getD r.1.toNat 0 ≠ 0 := by
  have hR : (rns l).length ≤ 1048576 := by have := rns_len l; omega
  have g := gd_lmt (usg_sound hR) (L := 7) (by omega) (usg_us (rns l))
  obtain ⟨t1, t2⟩ := lmt7 hR
  have h1 := g.all (two_used hl hn h256)
  refine ⟨?_, fun r hr => ?_⟩
  · have e1 : kr (nn (lmt (usg (rns l)) 7)) (us6 (usg (rns l))) = 2 ^ 45 * ((us6 (usg (rns l))).map fun s => wt ((lmt (usg (rns l)) 7).getD s 0)).sum := by
      unfold kr
      have : ∀ L : List Nat, (∀ s ∈ L, 1 ≤ (lmt (usg (rns l)) 7).getD s 0 ∧ (lmt (usg (rns l)) 7).getD s 0 ≤ 7) → (L.map fun s => 2 ^ (60 - nn (lmt (usg (rns l)) 7) s)).sum = 2 ^ 45 * (L.map fun s => wt ((lmt (usg (rns l)) 7).getD s 0)).sum := by
        intro L hL
        induction L with
        | nil => rfl
        | cons a L ih =>
          have h := hL a List.mem_cons_self
          rw [List.map_cons, List.map_cons, List.sum_cons, List.sum_cons, ih (fun s hs => hL s (List.mem_cons_of_mem _ hs)), Nat.mul_add]
          congr 1
          unfold nn wt
          rw [if_pos (by omega), ← Nat.pow_add]
          congr 1
          omega
      exact this _ (fun s hs => by have := g.ok s hs; omega)
    have e2 : ((us6 (usg (rns l))).map fun s => wt ((lmt (usg (rns l)) 7).getD s 0)).sum = usum (lmt (usg (rns l)) 7) := by
      rw [usum_range, t1]
      unfold us6 usk
      rw [usg_len]
      refine sum_filter _ (fun s => wt ((lmt (usg (rns l)) 7).getD s 0)) _ (fun s hs q => ?_)
      simp only [decide_eq_false_iff_not] at q
      have hs' := List.mem_range.1 hs
      have := usg_le (rns l) s hs'
      rw [g.zero s (by rw [usg_len]; exact hs') (by omega)]
      rfl
    rw [e1, e2] at h1
    have : (2 : Nat) ^ 60 = 2 ^ 45 * 32768 := by decide
    rw [this] at h1
    exact Nat.eq_of_mul_eq_mul_left (by decide) h1
  · obtain ⟨s, c, e1, hs, _⟩ := okr_parts (rns_ok hl r hr)
    have := g.ok s (used_of hs ⟨r, hr, by rw [e1]⟩)
    rw [e1]
    simp only [Int.toNat_natCast]
    omega

def wfw (C : List Int) : Nat → Nat
  | 0 => 4
  | n + 1 => if 0 < C.getD (zor.getD n 0).toNat 0 ∧ wfw C n < n + 1 then n + 1 else wfw C n
theorem wfw_low (C : List Int) : ∀ n, n ≤ 4 → wfw C n = 4
  | 0, _ => rfl
  | n + 1, h => by simp only [wfw]; rw [wfw_low C n (by omega), if_neg (by omega)]
theorem wfw_wrn {C : List Int} (hC : ∀ s, 0 ≤ C.getD s 0) : ∀ n, 4 ≤ n → wfw C n = wrn C n ∧ wfw C n ≤ n
  | 0, h => by omega
  | n + 1, h => by
    by_cases q : n + 1 = 4
    · have : n = 3 := by omega
      subst this
      rw [wfw_low C 4 (by omega)]
      simp only [wrn]
      rw [if_neg (by omega)]
      exact ⟨rfl, Nat.le_refl _⟩
    · obtain ⟨i1, i2⟩ := wfw_wrn hC n (by omega)
      have := hC (zor.getD n 0).toNat
      simp only [wfw, wrn]
      by_cases z : C.getD (zor.getD n 0).toNat 0 = 0
      · rw [if_neg (by omega), if_pos ⟨by omega, z⟩]
        exact ⟨i1, by omega⟩
      · rw [if_pos ⟨by omega, by omega⟩, if_neg (fun t => z t.2)]
        exact ⟨rfl, Nat.le_refl _⟩
theorem wfw_wrt {C : List Int} (hC : ∀ s, 0 ≤ C.getD s 0) : wfw C 19 = wrt C := (wfw_wrn hC 19 (by omega)).1
end Go.Proofs.YtfoglaajnlbnbaaGreatDoor

namespace Go.Proofs.YtfoglaajnlbnbaaGreatDoor
open Go.RowKit Go.Maps
set_option linter.unusedVariables false

end Go.Proofs.YtfoglaajnlbnbaaGreatDoor

namespace Go.Proofs.YtfoglaajnlbnbaaGreatDoor
open Go.RowKit Go.Maps
set_option linter.unusedVariables false

def mkB (l d : List Int) : List Int := hdB (mkL l) (mkD d) (mkC l d) (mkR l d)

theorem mk_small {l d : List Int} (h : mkE l d = 0) : (mkC l d).length = 19 ∧ (∀ s, 0 ≤ (mkC l d).getD s 0 ∧ (mkC l d).getD s 0 ≤ 7) ∧ (∀ r ∈ mkR l d, (mkC l d).getD r.1.toNat 0 ≠ 0) ∧ chkS (mkC l d) = 4 ∧ dcE (mkC l d) = 0 := by
  obtain ⟨f1, f2, f3, f4, f5, f6, f7, f8, f9, f10⟩ := mk_facts h
  have h7 := lmt7 (R := mkR l d) (by omega)
  have h256 : (mkL l ++ mkD d).getD 256 0 ≠ 0 := by rw [List.getD_eq_getElem?_getD, List.getElem?_append_left (by omega), ← List.getD_eq_getElem?_getD]; exact f10
  have hsf := small_full f7 (by rw [List.length_append]; omega) (by rw [List.length_append]; omega) h256
  have e1 : usum (mkC l d) = 32768 := hsf.1
  have e2 : Lens (mkC l d) := ⟨by have := h7.1; show (mkC l d).length ≤ 288; unfold mkC; omega, fun x hx => by
    obtain ⟨i, hi, rfl⟩ := List.getElem_of_mem hx
    have := h7.2 i
    rw [show (lmt (usg (mkR l d)) 7) = mkC l d from rfl, List.getD_eq_getElem?_getD, List.getElem?_eq_getElem hi] at this
    simp only [Option.getD_some] at this
    omega⟩
  have e3 : tsum (mkC l d) ≠ 0 := fun q => by have := tsum_usum q; omega
  have e4 : shp (mkC l d) = 4 := by unfold shp; rw [if_neg e3, if_neg (by omega), if_neg (by omega), if_pos e1]
  refine ⟨h7.1, h7.2, hsf.2, by unfold chkS; rw [if_pos e2]; exact e4, (dcE_iff _).2 ⟨?_, .inr e4⟩⟩
  unfold chkE
  rw [if_neg (by have := e2.1; omega), if_pos e2]

end Go.Proofs.YtfoglaajnlbnbaaGreatDoor

namespace Go.Proofs.YtfoglaajnlbnbaaGreatDoor
open Go.RowKit Go.Maps
set_option maxRecDepth 20000
set_option linter.unusedVariables false

theorem mkB_len10 {l d : List Int} (h : mkE l d = 0) : ((mkB l d).length : Int) = mkZ l d ∧ (mkB l d).length ≤ 10000 := by
  obtain ⟨f1, f2, f3, f4, f5, f6, f7, f8, f9, f10⟩ := mk_facts h
  obtain ⟨c1, c2, c3, c4, c5⟩ := mk_small h
  have h1 := hdB_len (L := mkL l) (D := mkD d) (C := mkC l d) (R := mkR l d) (fun s => (c2 s).1)
  have h2 := rsz_bound (C := mkC l d) (fun s => ⟨(c2 s).1, by have := (c2 s).2; omega⟩) (mkR l d)
  have h3 := wrt_le (mkC l d)
  have h4 : ((mkB l d).length : Int) = hsz (mkC l d) (mkR l d) := h1
  refine ⟨h4, ?_⟩
  unfold hsz at h4
  omega

noncomputable def hzz (P Q : List Int) : Int := if mkE P Q = 0 then mkZ P Q else 0

end Go.Proofs.YtfoglaajnlbnbaaGreatDoor

