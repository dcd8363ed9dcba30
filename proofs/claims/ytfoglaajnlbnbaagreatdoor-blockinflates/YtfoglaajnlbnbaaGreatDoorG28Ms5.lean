import Derived.Test.YtfoglaajnlbnbaaGreatDoorG27Vd2
import Derived.Test.YtfoglaajnlbnbaaGreatDoorG23Drr
namespace Go.Proofs.YtfoglaajnlbnbaaGreatDoor
open Go.RowKit Go.Maps
set_option maxRecDepth 20000
set_option linter.unusedVariables false

theorem sum_filter {α : Type} (p : α → Bool) (f : α → Nat) (L : List α) (h : ∀ s ∈ L, p s = false → f s = 0) : ((L.filter p).map f).sum = (L.map f).sum := by
  induction L with
  | nil => rfl
  | cons a L ih =>
    have i := ih fun s hs => h s (List.mem_cons_of_mem _ hs)
    cases q : p a with
    | true => rw [List.filter_cons_of_pos q, List.map_cons, List.map_cons, List.sum_cons, List.sum_cons, i]
    | false =>
      rw [List.filter_cons_of_neg (by simp [q]), List.map_cons, List.sum_cons, i, h a List.mem_cons_self q]
      omega

theorem usum_range (o : List Int) : usum o = ((List.range o.length).map fun s => wt (o.getD s 0)).sum := by
  unfold usum
  congr 1
  apply List.ext_getElem
  · simp
  · intro i h1 h2
    simp at h1
    simp [h1]

end Go.Proofs.YtfoglaajnlbnbaaGreatDoor

namespace Go.Proofs.YtfoglaajnlbnbaaGreatDoor
open Go.RowKit Go.Maps
set_option maxRecDepth 20000
set_option linter.unusedVariables false

theorem mk_facts {l d : List Int} (h : mkE l d = 0) : l.length ≤ 286 ∧ d.length ≤ 30 ∧ 257 ≤ (mkL l).length ∧ (mkL l).length ≤ 286 ∧ 1 ≤ (mkD d).length ∧ (mkD d).length ≤ 30 ∧ (∀ x ∈ mkL l ++ mkD d, 0 ≤ x ∧ x ≤ 15) ∧ (∀ r ∈ mkR l d, Okr r) ∧ (mkR l d).length ≤ 316 ∧ (mkL l).getD 256 0 ≠ 0 := by
  unfold mkE at h
  by_cases hb : 286 < l.length ∨ 30 < d.length ∨ wthb l = false ∨ wthb d = false
  · rw [if_pos hb] at h; omega
  · rw [if_neg hb] at h
    have w1 : wthb l = true := by cases q : wthb l with
      | true => rfl
      | false => exact absurd (.inr (.inr (.inl q))) hb
    have w2 : wthb d = true := by cases q : wthb d with
      | true => rfl
      | false => exact absurd (.inr (.inr (.inr q))) hb
    have h1 := trm_lens (l := l) (f := 257) (by omega) (by omega)
    have h2 := trm_lens (l := d) (f := 1) (by omega) (by omega)
    have h3 : ∀ x ∈ mkL l ++ mkD d, 0 ≤ x ∧ x ≤ 15 := fun x hx => by
      rcases List.mem_append.1 hx with q | q
      · exact trm_all l 257 (wth_iff.1 w1) x q
      · exact trm_all d 1 (wth_iff.1 w2) x q
    have h4 := rns_len (mkL l ++ mkD d)
    rw [List.length_append] at h4
    have h5 : (mkL l).getD 256 0 ≠ 0 := fun q => by unfold hck at h; rw [if_pos (.inl q)] at h; omega
    unfold mkL mkD at *
    exact ⟨by omega, by omega, h1.1, by omega, h2.1, by omega, h3, rns_ok h3, by unfold mkR mkL mkD; omega, h5⟩

end Go.Proofs.YtfoglaajnlbnbaaGreatDoor

namespace Go.Proofs.YtfoglaajnlbnbaaGreatDoor
open Go.RowKit Go.Maps
set_option maxRecDepth 20000
set_option linter.unusedVariables false

theorem lays_const {v : Int} : ∀ (R : List Rn) (a : List Int), (∀ r ∈ R, ∀ b, mnt r.1 b = v) → ∃ n, lays a R = a ++ List.replicate n v
  | [], a, _ => ⟨0, by simp [lays]⟩
  | r :: R, a, h => by
    obtain ⟨n, e⟩ := lays_const R (lay a r) fun x hx => h x (List.mem_cons_of_mem _ hx)
    refine ⟨r.2.toNat + n, ?_⟩
    have : lays a (r :: R) = lays (lay a r) R := rfl
    rw [this, e]
    unfold lay
    rw [h r List.mem_cons_self a, List.append_assoc, List.replicate_append_replicate]

theorem eqn_rep (v : Int) (n : Nat) : eqn v (List.replicate n v) = n := by
  induction n with
  | zero => rfl
  | succ n ih => rw [List.replicate_succ]; simp only [eqn, if_true, ih]

theorem two_syms {l : List Int} (hl : ∀ x ∈ l, 0 ≤ x ∧ x ≤ 15) (hn : 258 ≤ l.length) (h256 : l.getD 256 0 ≠ 0) : ∃ r ∈ rns l, ∃ q ∈ rns l, r.1 ≠ q.1 := by
  refine Classical.byContradiction fun hno => ?_
  have same : ∀ r ∈ rns l, ∀ q ∈ rns l, r.1 = q.1 := fun r hr q hq => Classical.byContradiction fun hne => hno ⟨r, hr, q, hq, hne⟩
  obtain ⟨c, hc, c1, c2, _⟩ := run1_cnt (l := l) (k := 0) (by omega)
  have e0 : rns l = run1 l 0 :: rnK l c := by
    rw [← rnK_zero, rnK_step (by omega) hc, Nat.zero_add]
  have m0 : run1 l 0 ∈ rns l := by rw [e0]; exact List.mem_cons_self
  obtain ⟨x1, x2⟩ := xp_rns hl
  have ok := rns_ok hl _ m0
  by_cases hs : 16 ≤ (run1 l 0).1
  · have hz : ∀ r ∈ rns l, ∀ b, mnt r.1 b = 0 := fun r hr b => by
      have := same r hr _ m0
      have h16 : (run1 l 0).1 ≠ 16 := fun q => by have := (run1_ok (l := l) (k := 0) (by omega) hl).2 q; omega
      unfold mnt
      rw [if_neg (by omega), if_neg (by omega)]
    obtain ⟨n, e⟩ := lays_const (rns l) [] hz
    rw [x2, List.nil_append] at e
    apply h256
    rw [e, List.getD_eq_getElem?_getD, List.getElem?_replicate]
    split <;> rfl
  · have hz : ∀ r ∈ rns l, ∀ b, mnt r.1 b = (run1 l 0).1 := fun r hr b => by
      have := same r hr _ m0
      unfold mnt
      rw [if_pos (by omega)]
      exact this
    obtain ⟨n, e⟩ := lays_const (rns l) [] hz
    rw [x2, List.nil_append] at e
    obtain ⟨v, hv⟩ : ∃ v, v = (run1 l 0).1 := ⟨_, rfl⟩
    rw [← hv] at e hz hs
    have hn' : n = l.length := by rw [e]; simp
    have v0 : v ≠ 0 := fun q => by
      apply h256
      rw [e, q, List.getD_eq_getElem?_getD, List.getElem?_replicate]
      split <;> rfl
    have g0 : l.getD 0 0 = v := by rw [e, List.getD_eq_getElem?_getD, List.getElem?_replicate, if_pos (by omega)]; rfl
    have g1 : l.getD 1 0 = v := by rw [e, List.getD_eq_getElem?_getD, List.getElem?_replicate, if_pos (by omega)]; rfl
    have r0 : run1 l 0 = (v, 1) := by
      unfold run1
      rw [g0, if_neg (fun q => v0 q.1), if_neg (fun q => v0 q.1), if_neg (fun q => by omega)]
    have c1' : c = 1 := by rw [r0] at hc; simp only at hc; omega
    have hd : eqn v (l.drop 1) = l.length - 1 := by rw [← hn', e, List.drop_replicate, eqn_rep]
    have r1 : (run1 l 1).1 = 16 := by
      unfold run1
      rw [g1, if_neg (fun q => v0 q.1), if_neg (fun q => v0 q.1), if_pos ⟨v0, by omega, g0, by rw [hd]; omega⟩]
    obtain ⟨c', hc', _⟩ := run1_cnt (l := l) (k := 1) (by omega)
    have m1 : run1 l 1 ∈ rns l := by
      rw [e0, c1', rnK_step (by omega) hc']
      exact List.mem_cons_of_mem _ List.mem_cons_self
    have := same _ m1 _ m0
    rw [r1, r0] at this
    simp only at this
    omega

theorem used_of {R : List Rn} {s : Nat} (hs : s < 19) (h : ∃ r ∈ R, r.1 = (s : Int)) : s ∈ us6 (usg R) := by
  obtain ⟨r, hr, e⟩ := h
  refine mem_us.2 ⟨by rw [usg_len]; exact hs, ?_⟩
  rw [usg_at R hs]
  have : 0 < (R.map (·.1)).count (s : Int) := List.count_pos_iff.2 (List.mem_map.2 ⟨r, hr, e⟩)
  omega

theorem two_used {l : List Int} (hl : ∀ x ∈ l, 0 ≤ x ∧ x ≤ 15) (hn : 258 ≤ l.length) (h256 : l.getD 256 0 ≠ 0) : 2 ≤ (us6 (usg (rns l))).length := by
  obtain ⟨r, hr, q, hq, hne⟩ := two_syms hl hn h256
  obtain ⟨s, c, e1, hs, _⟩ := okr_parts (rns_ok hl r hr)
  obtain ⟨t, c', e2, ht, _⟩ := okr_parts (rns_ok hl q hq)
  have m1 : s ∈ us6 (usg (rns l)) := used_of hs ⟨r, hr, by rw [e1]⟩
  have m2 : t ∈ us6 (usg (rns l)) := used_of ht ⟨q, hq, by rw [e2]⟩
  have hst : s ≠ t := fun z => hne (by rw [e1, e2, z])
  match h : us6 (usg (rns l)), m1, m2 with
  | [], m1, _ => cases m1
  | [x], m1, m2 =>
    rw [List.mem_singleton] at m1 m2
    exact absurd (m1.trans m2.symm) hst
  | x :: y :: z, _, _ => simp

theorem small_full {l : List Int} (hl : ∀ x ∈ l, 0 ≤ x ∧ x ≤ 15) (hn : 258 ≤ l.length) (hm : l.length ≤ 316) (h256 : l.getD 256 0 ≠ 0) : usum (lmt (usg (rns l)) 7) = 32768 ∧ ∀ r ∈ rns l, (lmt (usg (rns l)) 7).getD r.1.toNat 0 ≠ 0 := by
  have hR : (rns l).length ≤ 1048576 := by have := rns_len l; omega
  have g := gd_lmt (usg_sound hR) (L := 7) (by omega) (usg_us (rns l))
  obtain ⟨t1, t2⟩ := lmt7 hR
  have h1 := g.all (two_used hl hn h256)
  refine ⟨?_, fun r hr => ?_⟩
  · have e1 : kr (nn (lmt (usg (rns l)) 7)) (us6 (usg (rns l))) = 2 ^ 45 * ((us6 (usg (rns l))).map fun s => wt ((lmt (usg (rns l)) 7).getD s 0)).sum := by
      unfold kr
      have : ∀ L : List Nat, (∀ s ∈ L, 1 ≤ (lmt (usg (rns l)) 7).getD s 0 ∧ (lmt (usg (rns l)) 7).getD s 0 ≤ 7) → (L.map fun s => 2 ^ (60 - nn (lmt (usg (rns l)) 7) s)).sum = 2 ^ 45 * (L.map fun s => wt ((lmt (usg (rns l)) 7).getD s 0)).sum := by
        intro L hL
        induction L with
        | nil => rfl
        | cons a L ih =>
          have h := hL a List.mem_cons_self
          rw [List.map_cons, List.map_cons, List.sum_cons, List.sum_cons, ih (fun s hs => hL s (List.mem_cons_of_mem _ hs)), Nat.mul_add]
          congr 1
          unfold nn wt
          rw [if_pos (by omega), ← Nat.pow_add]
          congr 1
          omega
      exact this _ (fun s hs => by have := g.ok s hs; omega)
    have e2 : ((us6 (usg (rns l))).map fun s => wt ((lmt (usg (rns l)) 7).getD s 0)).sum = usum (lmt (usg (rns l)) 7) := by
      rw [usum_range, t1]
      unfold us6 usk
      rw [usg_len]
      refine sum_filter _ (fun s => wt ((lmt (usg (rns l)) 7).getD s 0)) _ (fun s hs q => ?_)
      simp only [decide_eq_false_iff_not] at q
      have hs' := List.mem_range.1 hs
      have := usg_le (rns l) s hs'
      rw [g.zero s (by rw [usg_len]; exact hs') (by omega)]
      rfl
    rw [e1, e2] at h1
    have : (2 : Nat) ^ 60 = 2 ^ 45 * 32768 := by decide
    rw [this] at h1
    exact Nat.eq_of_mul_eq_mul_left (by decide) h1
  · obtain ⟨s, c, e1, hs, _⟩ := okr_parts (rns_ok hl r hr)
    have := g.ok s (used_of hs ⟨r, hr, by rw [e1]⟩)
    rw [e1]
    simp only [Int.toNat_natCast]
    omega

end Go.Proofs.YtfoglaajnlbnbaaGreatDoor

namespace Go.Proofs.YtfoglaajnlbnbaaGreatDoor
open Go.RowKit Go.Maps
set_option linter.unusedVariables false

theorem lays_ge : ∀ (R : List Rn) (a : List Int), a.length ≤ (lays a R).length
  | [], a => Nat.le_refl _
  | r :: R, a => by
    have := lays_ge R (lay a r)
    rw [lay_len] at this
    show a.length ≤ (lays (lay a r) R).length
    omega

theorem drop_more {row x y : List Int} {p : Nat} (h : row.drop p = x ++ y) : row.drop (p + x.length) = y := by
  rw [← List.drop_drop, h, List.drop_left]

theorem okr_fit' {s : Nat} {c : Int} (h : Okr ((s : Int), c)) : 0 ≤ c - lst s ∧ c - lst s < 2 ^ frt s := by
  obtain ⟨h1, h2, h3, h4⟩ := h
  simp only at h1 h2 h3 h4
  by_cases q : s < 16
  · have e1 : lst s = 1 := by unfold lst; rw [if_pos (by omega)]
    have e2 : frt s = 0 := by unfold frt; rw [if_pos (by omega)]
    have e3 : mst s = 1 := by unfold mst; rw [if_pos (by omega)]
    rw [e1] at h3
    rw [e3] at h4
    rw [e1, e2]
    exact ⟨by omega, by show c - 1 < 1; omega⟩
  · obtain q | q | q : s = 16 ∨ s = 17 ∨ s = 18 := by omega
    · subst q
      have h3' : (3 : Int) ≤ c := h3
      have h4' : c ≤ 6 := h4
      exact ⟨by show 0 ≤ c - 3; omega, by show c - 3 < 4; omega⟩
    · subst q
      have h3' : (3 : Int) ≤ c := h3
      have h4' : c ≤ 10 := h4
      exact ⟨by show 0 ≤ c - 3; omega, by show c - 3 < 8; omega⟩
    · subst q
      have h3' : (11 : Int) ≤ c := h3
      have h4' : c ≤ 138 := h4
      exact ⟨by show 0 ≤ c - 11; omega, by show c - 11 < 128; omega⟩

theorem rl_back {C row : List Int} (hd : dcE C = 0) (hb : Bit row) (want : Nat) : ∀ (R : List Rn) (f : Nat) (acc : List Int) (p : Nat) (rest : List Int), (∀ r ∈ R, Okr r ∧ Has C r.1.toNat) → row.drop p = hdR C R ++ rest → xpE acc R = 0 → (lays acc R).length = want → want - acc.length ≤ f → rl C row want f acc p = (0, lays acc R, p + (hdR C R).length)
  | [], f, acc, p, rest, _, _, _, hl, _ => by
    have hl' : acc.length = want := hl
    cases f with
    | zero => rfl
    | succ f => rw [rl, if_neg (by omega)]; rfl
  | r :: R, f, acc, p, rest, hR, hr, hx, hl, hf => by
    obtain ⟨hok, hhas⟩ := hR r (by simp)
    obtain ⟨s, c, rfl, hs, h1, h2, h3, h4⟩ := okr_parts hok
    have hfit := okr_fit' hok
    simp only [Int.toNat_natCast] at hhas
    have hge := lays_ge R (lay acc ((s : Int), (c : Int)))
    have hll : (lays (lay acc ((s : Int), (c : Int))) R).length = want := hl
    rw [lay_len, hll] at hge
    simp only [Int.toNat_natCast] at hge
    obtain ⟨f, rfl⟩ : ∃ g, f = g + 1 := ⟨f - 1, by omega⟩
    have hr1 : row.drop p = wb C s ++ (bts ((c : Int) - lst s) (frt s) ++ (hdR C R ++ rest)) := by
      rw [hr]
      show (bts (wd C s) (ln C s)).reverse ++ bts ((c : Int) - lst s) (frt s) ++ hdR C R ++ rest = _
      simp only [List.append_assoc]
      rfl
    obtain ⟨n1, n2, n3⟩ := nx_word hd hhas hb hr1
    have hr2 : row.drop (p + ln C s) = bts ((c : Int) - lst s) (frt s) ++ (hdR C R ++ rest) := by
      have := drop_more hr1
      rwa [wb_len] at this
    have hr3 : row.drop (p + ln C s + frt s) = hdR C R ++ rest := by
      have := drop_more hr2
      rwa [length_bts] at this
    have hln := hhas.2
    have hL : p + ln C s + frt s ≤ row.length := by
      have h := congrArg List.length hr1
      rw [List.length_drop, List.length_append, List.length_append, wb_len, length_bts] at h
      omega
    have hA : ahead row (p + ln C s) (frt s) = (c : Int) - lst s := by
      rw [ahead_at hr2 (length_bts _ _)]
      exact val_bts_in hfit.1 hfit.2
    have ht1 : trE C row p = 0 := by unfold trE; rw [if_neg (by simp [n1]), n2, n3, if_neg (by omega)]
    have ht2 : trC C row p = c := by unfold trC; rw [n2, n3, hA]; omega
    have ht3 : trP C row p = p + ln C s + frt s := by unfold trP; rw [n2, n3]
    have hx1 : ¬ ((s : Int) = 16 ∧ acc = []) ∧ xpE (lay acc ((s : Int), (c : Int))) R = 0 := by
      rw [xpE, if_pos hok] at hx
      by_cases q : (s : Int) = 16 ∧ acc = []
      · rw [if_pos q] at hx; omega
      · rw [if_neg q] at hx; exact ⟨q, hx⟩
    rw [rl, if_pos (by omega), if_neg (by simp [ht1]), n2, ht2, if_neg (fun q => hx1.1 ⟨by omega, q.2⟩), if_neg (by omega), ht3]
    rw [rl_back hd hb want R f _ _ rest (fun q hq => hR q (by simp [hq])) hr3 hx1.2 hll (by rw [lay_len]; simp only [Int.toNat_natCast]; omega)]
    show _ = ((0 : Int), lays (lay acc ((s : Int), (c : Int))) R, _)
    congr 2
    show _ = p + ((bts (wd C s) (ln C s)).reverse ++ bts ((c : Int) - lst s) (frt s) ++ hdR C R).length
    rw [List.length_append, List.length_append, List.length_reverse, length_bts, length_bts]
    omega

theorem hdS_cut (C : List Int) : ∀ n k, k < n → ∃ t, hdS C n = hdS C k ++ (bts (C.getD (zor.getD k 0).toNat 0) 3 ++ t)
  | 0, k, h => by omega
  | n + 1, k, h => by
    by_cases e : k = n
    · subst e
      exact ⟨[], by simp [hdS]⟩
    · obtain ⟨t, ht⟩ := hdS_cut C n k (by omega)
      refine ⟨t ++ bts (C.getD (zor.getD n 0).toNat 0) 3, ?_⟩
      rw [hdS, ht]
      simp only [List.append_assoc]

theorem zor_all : ∀ s : Fin 19, ∃ j : Fin 19, (zor.getD j.val 0).toNat = s.val := by decide

theorem wrn_zero (c : List Int) : ∀ n j, wrn c n ≤ j → j < n → c.getD (zor.getD j 0).toNat 0 = 0
  | 0, j, _, h => by omega
  | n + 1, j, h1, h2 => by
    rw [wrn] at h1
    by_cases q : 4 < n + 1 ∧ c.getD (zor.getD n 0).toNat 0 = 0
    · rw [if_pos q] at h1
      by_cases e : j = n
      · subst e; exact q.2
      · exact wrn_zero c n j h1 (by omega)
    · rw [if_neg q] at h1; omega

theorem smC_len (row : List Int) (p : Nat) : ∀ n, (smC row p n).length = 19
  | 0 => by simp [smC]
  | n + 1 => by simp [smC, smC_len row p n]

theorem getD_set19 {l : List Int} {z s : Nat} {v : Int} (hl : l.length = 19) (hz : z < 19) : (l.set z v).getD s 0 = if z = s then v else l.getD s 0 := by
  rw [List.getD_eq_getElem?_getD, List.getElem?_set]
  by_cases e : z = s
  · subst e; simp [hl, hz]
  · simp [e]

theorem smC_at {C row : List Int} {p n : Nat} {rest : List Int} (hC : ∀ s, 0 ≤ C.getD s 0 ∧ C.getD s 0 ≤ 7) (hr : row.drop p = hdS C n ++ rest) (hn : n ≤ 19) : ∀ k, k ≤ n → (∀ j, j < k → (smC row p k).getD (zor.getD j 0).toNat 0 = C.getD (zor.getD j 0).toNat 0) ∧ ∀ s, (∀ j, j < k → (zor.getD j 0).toNat ≠ s) → (smC row p k).getD s 0 = 0
  | 0, _ => ⟨fun j hj => by omega, fun s _ => by
      show (List.replicate 19 (0 : Int)).getD s 0 = 0
      rw [List.getD_eq_getElem?_getD, List.getElem?_replicate]
      split <;> rfl⟩
  | k + 1, hk => by
    obtain ⟨i1, i2⟩ := smC_at hC hr hn k (by omega)
    obtain ⟨t, ht⟩ := hdS_cut C n k (by omega)
    have hA : ahead row (p + 3 * k) 3 = C.getD (zor.getD k 0).toNat 0 := by
      have h1 : row.drop p = hdS C k ++ (bts (C.getD (zor.getD k 0).toNat 0) 3 ++ (t ++ rest)) := by rw [hr, ht]; simp only [List.append_assoc]
      have h2 := drop_more h1
      rw [hdS_len] at h2
      rw [ahead_at h2 (length_bts _ _)]
      have := hC (zor.getD k 0).toNat
      exact val_bts_in this.1 (by show _ < (8 : Int); omega)
    have hz := zor_at k (by omega)
    have hl := smC_len row p k
    constructor
    · intro j hj
      rw [smC, hA, getD_set19 hl (by omega)]
      split
      · rename_i e; rw [e]
      · rename_i e
        by_cases q : j = k
        · subst q; exact absurd rfl e
        · exact i1 j (by omega)
    · intro s hs
      rw [smC, getD_set19 hl (by omega), if_neg (hs k (by omega))]
      exact i2 s fun j hj => hs j (by omega)

theorem ext19 {a b : List Int} (ha : a.length = 19) (hb : b.length = 19) (h : ∀ s, s < 19 → a.getD s 0 = b.getD s 0) : a = b := by
  apply List.ext_getElem (by omega)
  intro i h1 h2
  have := h i (by omega)
  simpa [h1, h2] using this

theorem smC_back {C row rest : List Int} {p : Nat} (h19 : C.length = 19) (hC : ∀ s, 0 ≤ C.getD s 0 ∧ C.getD s 0 ≤ 7) (hr : row.drop p = hdS C (wrt C) ++ rest) : smC row p (wrt C) = C := by
  have hn := wrt_le C
  obtain ⟨i1, i2⟩ := smC_at hC hr hn (wrt C) (Nat.le_refl _)
  refine ext19 (smC_len _ _ _) h19 fun s hs => ?_
  obtain ⟨j, hj⟩ := zor_all ⟨s, hs⟩
  simp only at hj
  by_cases q : ∃ k, k < wrt C ∧ (zor.getD k 0).toNat = s
  · obtain ⟨k, hk, e⟩ := q
    rw [← e]
    exact i1 k hk
  · rw [i2 s fun k hk e => q ⟨k, hk, e⟩]
    have hge : wrt C ≤ j.val := Nat.le_of_not_lt fun h => q ⟨j.val, h, hj⟩
    have := wrn_zero C 19 j.val hge j.isLt
    rw [hj] at this
    exact this.symm

theorem rc_back {row rest : List Int} {p : Nat} {a b c : Int} (ha : 0 ≤ a ∧ a < 32) (hb : 0 ≤ b ∧ b < 32) (hc : 0 ≤ c ∧ c < 16) (hr : row.drop p = bts a 5 ++ bts b 5 ++ bts c 4 ++ rest) : p + 14 ≤ row.length ∧ ahead row p 14 = a + 32 * b + 1024 * c ∧ row.drop (p + 14) = rest := by
  have hl := congrArg List.length hr
  simp only [List.length_drop, List.length_append, length_bts] at hl
  have h14 : (bts a 5 ++ bts b 5 ++ bts c 4).length = 14 := by simp only [List.length_append, length_bts]
  refine ⟨by omega, ?_, ?_⟩
  · rw [ahead_at hr h14, val_append, val_append, val_bts_in ha.1 (by show a < 32; omega), val_bts_in hb.1 (by show b < 32; omega), val_bts_in hc.1 (by show c < 16; omega), List.length_append, length_bts, length_bts]
    show a + (32 : Int) * b + 1024 * c = _
    rfl
  · have := drop_more hr
    rwa [h14] at this
end Go.Proofs.YtfoglaajnlbnbaaGreatDoor

namespace Go.Proofs.YtfoglaajnlbnbaaGreatDoor
open Go.RowKit Go.Maps
set_option linter.unusedVariables false

def mkB (l d : List Int) : List Int := hdB (mkL l) (mkD d) (mkC l d) (mkR l d)

theorem mk_small {l d : List Int} (h : mkE l d = 0) : (mkC l d).length = 19 ∧ (∀ s, 0 ≤ (mkC l d).getD s 0 ∧ (mkC l d).getD s 0 ≤ 7) ∧ (∀ r ∈ mkR l d, (mkC l d).getD r.1.toNat 0 ≠ 0) ∧ chkS (mkC l d) = 4 ∧ dcE (mkC l d) = 0 := by
  obtain ⟨f1, f2, f3, f4, f5, f6, f7, f8, f9, f10⟩ := mk_facts h
  have h7 := lmt7 (R := mkR l d) (by omega)
  have h256 : (mkL l ++ mkD d).getD 256 0 ≠ 0 := by rw [List.getD_eq_getElem?_getD, List.getElem?_append_left (by omega), ← List.getD_eq_getElem?_getD]; exact f10
  have hsf := small_full f7 (by rw [List.length_append]; omega) (by rw [List.length_append]; omega) h256
  have e1 : usum (mkC l d) = 32768 := hsf.1
  have e2 : Lens (mkC l d) := ⟨by have := h7.1; show (mkC l d).length ≤ 288; unfold mkC; omega, fun x hx => by
    obtain ⟨i, hi, rfl⟩ := List.getElem_of_mem hx
    have := h7.2 i
    rw [show (lmt (usg (mkR l d)) 7) = mkC l d from rfl, List.getD_eq_getElem?_getD, List.getElem?_eq_getElem hi] at this
    simp only [Option.getD_some] at this
    omega⟩
  have e3 : tsum (mkC l d) ≠ 0 := fun q => by have := tsum_usum q; omega
  have e4 : shp (mkC l d) = 4 := by unfold shp; rw [if_neg e3, if_neg (by omega), if_neg (by omega), if_pos e1]
  refine ⟨h7.1, h7.2, hsf.2, by unfold chkS; rw [if_pos e2]; exact e4, (dcE_iff _).2 ⟨?_, .inr e4⟩⟩
  unfold chkE
  rw [if_neg (by have := e2.1; omega), if_pos e2]

set_option maxHeartbeats 1000000 in
theorem rd_back {l d row rest : List Int} {p : Nat} (h : mkE l d = 0) (hb : Bit row) (hr : row.drop p = mkB l d ++ rest) : rdA row p = (0, mkL l, mkD d, p + (mkB l d).length) := by
  obtain ⟨f1, f2, f3, f4, f5, f6, f7, f8, f9, f10⟩ := mk_facts h
  obtain ⟨c1, c2, c3, c4, c5⟩ := mk_small h
  have hw1 := wrt_ge (mkC l d)
  have hw2 := wrt_le (mkC l d)
  have hr0 : row.drop p = bts (((mkL l).length : Int) - 257) 5 ++ bts (((mkD d).length : Int) - 1) 5 ++ bts ((wrt (mkC l d) : Int) - 4) 4 ++ (hdS (mkC l d) (wrt (mkC l d)) ++ (hdR (mkC l d) (mkR l d) ++ rest)) := by
    rw [hr]
    unfold mkB hdB
    simp only [List.append_assoc]
  obtain ⟨g1, g2, g3⟩ := rc_back ⟨by omega, by omega⟩ ⟨by omega, by omega⟩ ⟨by omega, by omega⟩ hr0
  have eL : rcL row p = (mkL l).length := by unfold rcL; rw [g2]; omega
  have eD : rcD row p = (mkD d).length := by unfold rcD; rw [g2]; omega
  have eN : rcN row p = wrt (mkC l d) := by unfold rcN; rw [g2]; omega
  have hE : rcE row p = 0 := by unfold rcE; rw [if_neg (by omega), if_neg (by omega)]
  have hC := smC_back c1 c2 g3
  have g4 := drop_more g3
  rw [hdS_len] at g4
  have hlen : p + 14 + 3 * wrt (mkC l d) ≤ row.length := by
    have h := congrArg List.length g3
    rw [List.length_drop, List.length_append, hdS_len] at h
    omega
  have hS : smE row (p + 14) (rcN row p) = 0 := by
    unfold smE
    rw [eN, hC, if_neg (by omega), if_neg (by simp [c4])]
  obtain ⟨x1, x2⟩ := xp_rns f7
  have hx2 : (lays [] (mkR l d)).length = (mkL l).length + (mkD d).length := by show (lays [] (rns (mkL l ++ mkD d))).length = _; rw [x2, List.length_append]
  have hx3 : lays [] (mkR l d) = mkL l ++ mkD d := x2
  have hx1 : xpE [] (mkR l d) = 0 := x1
  have hhas : ∀ r ∈ mkR l d, Okr r ∧ Has (mkC l d) r.1.toNat := fun r hr => ⟨f8 r hr, by
    obtain ⟨s, c, rfl, hs, _⟩ := okr_parts (f8 r hr)
    have q := c3 _ hr
    have q2 := c2 s
    simp only [Int.toNat_natCast] at q ⊢
    exact ⟨by rw [c1]; exact hs, by show 0 < (((mkC l d).getD s 0)).toNat; omega⟩⟩
  have hrl : rl (smC row (p + 14) (rcN row p)) row (rcL row p + rcD row p) (rcL row p + rcD row p) [] (p + 14 + 3 * rcN row p) = (0, mkL l ++ mkD d, p + 14 + 3 * wrt (mkC l d) + (hdR (mkC l d) (mkR l d)).length) := by
    rw [eN, hC, eL, eD]
    have h9 := rl_back c5 hb ((mkL l).length + (mkD d).length) (mkR l d) ((mkL l).length + (mkD d).length) [] _ rest hhas g4 hx1 hx2 (Nat.sub_le _ _)
    rw [hx3] at h9
    exact h9
  rw [rd_l hE hS hrl, if_neg (by simp)]
  simp only
  rw [eL, List.take_left, List.drop_left]
  have hk : hck (mkL l) (mkD d) = 0 := by
    unfold mkE at h
    by_cases hbb : 286 < l.length ∨ 30 < d.length ∨ wthb l = false ∨ wthb d = false
    · rw [if_pos hbb] at h; omega
    · rw [if_neg hbb] at h; exact h
  rw [if_neg (by simp [hk])]
  congr 3
  unfold mkB hdB
  simp only [List.length_append, length_bts, hdS_len]
  omega

theorem rd_cases (row : List Int) (p : Nat) : ((rdA row p).1 ≠ 0 ∧ (rdA row p).2.1 = [] ∧ (rdA row p).2.2.1 = []) ∨ ((rdA row p).1 = 0 ∧ rcE row p = 0 ∧ smE row (p + 14) (rcN row p) = 0 ∧ ∃ x : List Int × Nat, rl (smC row (p + 14) (rcN row p)) row (rcL row p + rcD row p) (rcL row p + rcD row p) [] (p + 14 + 3 * rcN row p) = (0, x.1, x.2) ∧ hck (x.1.take (rcL row p)) (x.1.drop (rcL row p)) = 0 ∧ rdA row p = (0, x.1.take (rcL row p), x.1.drop (rcL row p), x.2)) := by
  by_cases h1 : rcE row p ≠ 0
  · rw [rd_c h1]; exact .inl ⟨h1, rfl, rfl⟩
  have h1' : rcE row p = 0 := by omega
  by_cases h2 : smE row (p + 14) (rcN row p) ≠ 0
  · rw [rd_s h1' h2]; exact .inl ⟨h2, rfl, rfl⟩
  have h2' : smE row (p + 14) (rcN row p) = 0 := by omega
  obtain ⟨x, hx⟩ : ∃ x, rl (smC row (p + 14) (rcN row p)) row (rcL row p + rcD row p) (rcL row p + rcD row p) [] (p + 14 + 3 * rcN row p) = x := ⟨_, rfl⟩
  obtain ⟨e, a, q⟩ := x
  have hr := rd_l h1' h2' hx
  simp only at hr
  by_cases h3 : e ≠ 0
  · rw [if_pos h3] at hr
    rw [hr]
    exact .inl ⟨h3, rfl, rfl⟩
  · rw [if_neg h3] at hr
    by_cases h4 : hck (a.take (rcL row p)) (a.drop (rcL row p)) ≠ 0
    · rw [if_pos h4] at hr
      rw [hr]
      exact .inl ⟨h4, rfl, rfl⟩
    · rw [if_neg h4] at hr
      have h3' : e = 0 := by omega
      subst h3'
      exact .inr ⟨by rw [hr], h1', h2', (a, q), hx, Classical.not_not.1 h4, hr⟩

end Go.Proofs.YtfoglaajnlbnbaaGreatDoor

namespace Go.Proofs.YtfoglaajnlbnbaaGreatDoor
open Go.RowKit Go.Maps
set_option maxRecDepth 20000
set_option linter.unusedVariables false

theorem mkB_len10 {l d : List Int} (h : mkE l d = 0) : ((mkB l d).length : Int) = mkZ l d ∧ (mkB l d).length ≤ 10000 := by
  obtain ⟨f1, f2, f3, f4, f5, f6, f7, f8, f9, f10⟩ := mk_facts h
  obtain ⟨c1, c2, c3, c4, c5⟩ := mk_small h
  have h1 := hdB_len (L := mkL l) (D := mkD d) (C := mkC l d) (R := mkR l d) (fun s => (c2 s).1)
  have h2 := rsz_bound (C := mkC l d) (fun s => ⟨(c2 s).1, by have := (c2 s).2; omega⟩) (mkR l d)
  have h3 := wrt_le (mkC l d)
  have h4 : ((mkB l d).length : Int) = hsz (mkC l d) (mkR l d) := h1
  refine ⟨h4, ?_⟩
  unfold hsz at h4
  omega

noncomputable def hzz (P Q : List Int) : Int := if mkE P Q = 0 then mkZ P Q else 0

end Go.Proofs.YtfoglaajnlbnbaaGreatDoor

