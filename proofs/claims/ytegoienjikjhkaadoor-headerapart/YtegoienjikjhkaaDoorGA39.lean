import Derived.Test.YtegoienjikjhkaaDoorGA38
import Derived.Test.YtegoienjikjhkaaDoorGSpl
import Derived.Test.YtegoienjikjhkaaDoorGMk5
import Derived.Test.YtegoienjikjhkaaDoorGA33
import Derived.Test.YtegoienjikjhkaaDoorGA04
namespace Go.Proofs.YtegoienjikjhkaaDoor
open Go.RowKit Go.Maps
set_option linter.unusedVariables false

/-- A header as bits. -/
def mkB (l d : List Int) : List Int := hdB (mkL l) (mkD d) (mkC l d) (mkR l d)

/-- The small code of a header. -/
theorem mk_small {l d : List Int} (h : mkE l d = 0) : (mkC l d).length = 19 ∧ (∀ s, 0 ≤ (mkC l d).getD s 0 ∧ (mkC l d).getD s 0 ≤ 7) ∧ (∀ r ∈ mkR l d, (mkC l d).getD r.1.toNat 0 ≠ 0) ∧ chkS (mkC l d) = 4 ∧ dcE (mkC l d) = 0 := by
  obtain ⟨f1, f2, f3, f4, f5, f6, f7, f8, f9, f10⟩ := mk_facts h
  have h7 := lmt7 (R := mkR l d) (by omega)
  have h256 : (mkL l ++ mkD d).getD 256 0 ≠ 0 := by rw [List.getD_eq_getElem?_getD, List.getElem?_append_left (by omega), ← List.getD_eq_getElem?_getD]; exact f10
  have hsf := small_full f7 (by rw [List.length_append]; omega) (by rw [List.length_append]; omega) h256
  have e1 : usum (mkC l d) = 32768 := hsf.1
  have e2 : Lens (mkC l d) := ⟨by have := h7.1; show (mkC l d).length ≤ 288; unfold mkC; omega, fun x hx => by
    obtain ⟨i, hi, rfl⟩ := List.getElem_of_mem hx
    have := h7.2 i
    rw [show (lmt (usg (mkR l d)) 7) = mkC l d from rfl, List.getD_eq_getElem?_getD, List.getElem?_eq_getElem hi] at this
    simp only [Option.getD_some] at this
    omega⟩
  have e3 : tsum (mkC l d) ≠ 0 := fun q => by have := tsum_usum q; omega
  have e4 : shp (mkC l d) = 4 := by unfold shp; rw [if_neg e3, if_neg (by omega), if_neg (by omega), if_pos e1]
  refine ⟨h7.1, h7.2, hsf.2, by unfold chkS; rw [if_pos e2]; exact e4, (dcE_iff _).2 ⟨?_, .inr e4⟩⟩
  unfold chkE
  rw [if_neg (by have := e2.1; omega), if_pos e2]

set_option maxHeartbeats 1000000 in
/-- What is written is read back. -/
theorem rd_back {l d row rest : List Int} {p : Nat} (h : mkE l d = 0) (hb : Bit row) (hr : row.drop p = mkB l d ++ rest) : rdA row p = (0, mkL l, mkD d, p + (mkB l d).length) := by
  obtain ⟨f1, f2, f3, f4, f5, f6, f7, f8, f9, f10⟩ := mk_facts h
  obtain ⟨c1, c2, c3, c4, c5⟩ := mk_small h
  have hw1 := wrt_ge (mkC l d)
  have hw2 := wrt_le (mkC l d)
  have hr0 : row.drop p = bts (((mkL l).length : Int) - 257) 5 ++ bts (((mkD d).length : Int) - 1) 5 ++ bts ((wrt (mkC l d) : Int) - 4) 4 ++ (hdS (mkC l d) (wrt (mkC l d)) ++ (hdR (mkC l d) (mkR l d) ++ rest)) := by
    rw [hr]
    unfold mkB hdB
    simp only [List.append_assoc]
  obtain ⟨g1, g2, g3⟩ := rc_back ⟨by omega, by omega⟩ ⟨by omega, by omega⟩ ⟨by omega, by omega⟩ hr0
  have eL : rcL row p = (mkL l).length := by unfold rcL; rw [g2]; omega
  have eD : rcD row p = (mkD d).length := by unfold rcD; rw [g2]; omega
  have eN : rcN row p = wrt (mkC l d) := by unfold rcN; rw [g2]; omega
  have hE : rcE row p = 0 := by unfold rcE; rw [if_neg (by omega), if_neg (by omega)]
  have hC := smC_back c1 c2 g3
  have g4 := drop_more g3
  rw [hdS_len] at g4
  have hlen : p + 14 + 3 * wrt (mkC l d) ≤ row.length := by
    have h := congrArg List.length g3
    rw [List.length_drop, List.length_append, hdS_len] at h
    omega
  have hS : smE row (p + 14) (rcN row p) = 0 := by
    unfold smE
    rw [eN, hC, if_neg (by omega), if_neg (by simp [c4])]
  obtain ⟨x1, x2⟩ := xp_rns f7
  have hx2 : (lays [] (mkR l d)).length = (mkL l).length + (mkD d).length := by show (lays [] (rns (mkL l ++ mkD d))).length = _; rw [x2, List.length_append]
  have hx3 : lays [] (mkR l d) = mkL l ++ mkD d := x2
  have hx1 : xpE [] (mkR l d) = 0 := x1
  have hhas : ∀ r ∈ mkR l d, Okr r ∧ Has (mkC l d) r.1.toNat := fun r hr => ⟨f8 r hr, by
    obtain ⟨s, c, rfl, hs, _⟩ := okr_parts (f8 r hr)
    have q := c3 _ hr
    have q2 := c2 s
    simp only [Int.toNat_natCast] at q ⊢
    exact ⟨by rw [c1]; exact hs, by show 0 < (((mkC l d).getD s 0)).toNat; omega⟩⟩
  have hrl : rl (smC row (p + 14) (rcN row p)) row (rcL row p + rcD row p) (rcL row p + rcD row p) [] (p + 14 + 3 * rcN row p) = (0, mkL l ++ mkD d, p + 14 + 3 * wrt (mkC l d) + (hdR (mkC l d) (mkR l d)).length) := by
    rw [eN, hC, eL, eD]
    have h9 := rl_back c5 hb ((mkL l).length + (mkD d).length) (mkR l d) ((mkL l).length + (mkD d).length) [] _ rest hhas g4 hx1 hx2 (Nat.sub_le _ _)
    rw [hx3] at h9
    exact h9
  rw [rd_l hE hS hrl, if_neg (by simp)]
  simp only
  rw [eL, List.take_left, List.drop_left]
  have hk : hck (mkL l) (mkD d) = 0 := by
    unfold mkE at h
    by_cases hbb : 286 < l.length ∨ 30 < d.length ∨ wthb l = false ∨ wthb d = false
    · rw [if_pos hbb] at h; omega
    · rw [if_neg hbb] at h; exact h
  rw [if_neg (by simp [hk])]
  congr 3
  unfold mkB hdB
  simp only [List.length_append, length_bts, hdS_len]
  omega

theorem rd_cases (row : List Int) (p : Nat) : ((rdA row p).1 ≠ 0 ∧ (rdA row p).2.1 = [] ∧ (rdA row p).2.2.1 = []) ∨ ((rdA row p).1 = 0 ∧ rcE row p = 0 ∧ smE row (p + 14) (rcN row p) = 0 ∧ ∃ x : List Int × Nat, rl (smC row (p + 14) (rcN row p)) row (rcL row p + rcD row p) (rcL row p + rcD row p) [] (p + 14 + 3 * rcN row p) = (0, x.1, x.2) ∧ hck (x.1.take (rcL row p)) (x.1.drop (rcL row p)) = 0 ∧ rdA row p = (0, x.1.take (rcL row p), x.1.drop (rcL row p), x.2)) := by
  by_cases h1 : rcE row p ≠ 0
  · rw [rd_c h1]; exact .inl ⟨h1, rfl, rfl⟩
  have h1' : rcE row p = 0 := by omega
  by_cases h2 : smE row (p + 14) (rcN row p) ≠ 0
  · rw [rd_s h1' h2]; exact .inl ⟨h2, rfl, rfl⟩
  have h2' : smE row (p + 14) (rcN row p) = 0 := by omega
  obtain ⟨x, hx⟩ : ∃ x, rl (smC row (p + 14) (rcN row p)) row (rcL row p + rcD row p) (rcL row p + rcD row p) [] (p + 14 + 3 * rcN row p) = x := ⟨_, rfl⟩
  obtain ⟨e, a, q⟩ := x
  have hr := rd_l h1' h2' hx
  simp only at hr
  by_cases h3 : e ≠ 0
  · rw [if_pos h3] at hr
    rw [hr]
    exact .inl ⟨h3, rfl, rfl⟩
  · rw [if_neg h3] at hr
    by_cases h4 : hck (a.take (rcL row p)) (a.drop (rcL row p)) ≠ 0
    · rw [if_pos h4] at hr
      rw [hr]
      exact .inl ⟨h4, rfl, rfl⟩
    · rw [if_neg h4] at hr
      have h3' : e = 0 := by omega
      subst h3'
      exact .inr ⟨by rw [hr], h1', h2', (a, q), hx, Classical.not_not.1 h4, hr⟩

theorem rd_errs (row : List Int) (p : Nat) : (rdA row p).1 = 0 ∨ (70 ≤ (rdA row p).1 ∧ (rdA row p).1 ≤ 76) := by
  by_cases h1 : rcE row p ≠ 0
  · rw [rd_c h1]
    unfold rcE at h1 ⊢
    split
    · simp
    · split <;> simp
  have h1' : rcE row p = 0 := by omega
  by_cases h2 : smE row (p + 14) (rcN row p) ≠ 0
  · rw [rd_s h1' h2]
    unfold smE at h2 ⊢
    split
    · simp
    · split <;> simp
  have h2' : smE row (p + 14) (rcN row p) = 0 := by omega
  obtain ⟨x, hx⟩ : ∃ x, rl (smC row (p + 14) (rcN row p)) row (rcL row p + rcD row p) (rcL row p + rcD row p) [] (p + 14 + 3 * rcN row p) = x := ⟨_, rfl⟩
  obtain ⟨e, a, q⟩ := x
  have hr := rd_l h1' h2' hx
  simp only at hr
  by_cases h3 : e ≠ 0
  · rw [if_pos h3] at hr
    rw [hr]
    have := rl_err (C := smC row (p + 14) (rcN row p)) (row := row) (rcL row p + rcD row p) (rcL row p + rcD row p) [] (p + 14 + 3 * rcN row p)
    rw [hx] at this
    simp only at this ⊢
    have := this h3
    omega
  · rw [if_neg h3] at hr
    by_cases h4 : hck (a.take (rcL row p)) (a.drop (rcL row p)) ≠ 0
    · rw [if_pos h4] at hr
      rw [hr]
      simp only
      unfold hck at h4 ⊢
      split
      · omega
      · split <;> omega
    · rw [if_neg h4] at hr
      rw [hr]
      exact .inl rfl

/-- What Read takes may be. -/
theorem rd_sound {row : List Int} {p : Nat} (hb : Bit row) (h : (rdA row p).1 = 0) : mkE (rdA row p).2.1 (rdA row p).2.2.1 = 0 ∧ 257 ≤ (rdA row p).2.1.length ∧ (rdA row p).2.1.length ≤ 286 ∧ 1 ≤ (rdA row p).2.2.1.length ∧ (rdA row p).2.2.1.length ≤ 30 := by
  rcases rd_cases row p with ⟨q, _⟩ | ⟨_, h1, h2, ⟨a, q⟩, hx, hk, hr⟩
  · exact absurd h q
  simp only at hx hk hr
  have hf := rl_facts (C := smC row (p + 14) (rcN row p)) hb (rcL row p + rcD row p) (rcL row p + rcD row p) [] (p + 14 + 3 * rcN row p) (by simp) (by simp) (by simp)
  rw [hx] at hf
  obtain ⟨hl, hin⟩ := hf rfl
  simp only at hl hin
  have hc : ¬ (286 < rcL row p ∨ 30 < rcD row p) := fun c => by
    unfold rcE at h1
    by_cases c0 : row.length < p + 14
    · rw [if_pos c0] at h1; omega
    · rw [if_neg c0, if_pos c] at h1; omega
  have hL : 257 ≤ rcL row p := by unfold rcL; omega
  have hD : 1 ≤ rcD row p := by unfold rcD; omega
  rw [hr]
  simp only
  have e1 : (a.take (rcL row p)).length = rcL row p := by rw [List.length_take]; omega
  have e2 : (a.drop (rcL row p)).length = rcD row p := by rw [List.length_drop]; omega
  have i1 : ∀ x ∈ a.take (rcL row p), 0 ≤ x ∧ x ≤ 15 := fun x hx => hin x (List.mem_of_mem_take hx)
  have i2 : ∀ x ∈ a.drop (rcL row p), 0 ≤ x ∧ x ≤ 15 := fun x hx => hin x (List.mem_of_mem_drop hx)
  refine ⟨?_, by omega, by omega, by omega, by omega⟩
  unfold mkE
  rw [if_neg (by
    rintro (c | c | c | c)
    · omega
    · omega
    · rw [wth_iff.2 i1] at c; cases c
    · rw [wth_iff.2 i2] at c; cases c)]
  have c1 : chkS (mkL (a.take (rcL row p))) = chkS (a.take (rcL row p)) := by
    have := chkS_trm (l := a.take (rcL row p)) (f := 257) (by omega) (by omega) i1
    unfold mkL
    rw [this]
    unfold chkS
    rw [if_pos ⟨by omega, i1⟩]
  have c2 : chkS (mkD (a.drop (rcL row p))) = chkS (a.drop (rcL row p)) := by
    have := chkS_trm (l := a.drop (rcL row p)) (f := 1) (by omega) (by omega) i2
    unfold mkD
    rw [this]
    unfold chkS
    rw [if_pos ⟨by omega, i2⟩]
  have c3 : (mkL (a.take (rcL row p))).getD 256 0 = (a.take (rcL row p)).getD 256 0 := trm_getD _ 257 256
  unfold hck at hk ⊢
  rw [c1, c2, c3]
  exact hk

theorem ahead_ext {row t : List Int} {p n : Nat} (h : p + n ≤ row.length) : ahead (row ++ t) p n = ahead row p n := by
  unfold ahead
  rw [List.drop_append_of_le_length (by omega), List.take_append_of_le_length (by rw [List.length_drop]; omega)]

theorem mir_any {row : List Int} (hb : Bit row) (p : Nat) {n : Nat} (h : n ≤ 15) : mir (ahead row p n) n = mir (ahead row p 15) n := by
  have e : ahead row p n = ahead row p 15 % 2 ^ n := by
    unfold ahead
    rw [← val_take ((hb.drop p).take 15), List.take_take, Nat.min_eq_left h]
  unfold mir
  rw [e, bts_mod]

/-- More bits behind change no word that was there. -/
theorem nx_ext {l row t : List Int} {p : Nat} (hl : Lens l) (hb : Bit (row ++ t)) (h : nxE l row p = 0) : nxE l (row ++ t) p = 0 ∧ nxS l (row ++ t) p = nxS l row p ∧ nxP l (row ++ t) p = nxP l row p ∧ nxP l row p ≤ row.length := by
  have hb1 : Bit row := fun x hx => hb x (by simp [hx])
  have hfb : fdB l (rowAt row p) = true := by
    unfold nxE at h
    by_cases c : fdB l (rowAt row p) = true
    · exact c
    · rw [if_neg c] at h; omega
  have hlen : p + ln l (fdS l (rowAt row p)) ≤ row.length := by
    unfold nxE at h
    rw [if_pos hfb] at h
    by_cases c : p + ln l (fdS l (rowAt row p)) ≤ row.length
    · exact c
    · rw [if_neg c] at h; omega
  have hs : nxS l row p = fdS l (rowAt row p) := by unfold nxS; rw [if_pos h]
  have hp : nxP l row p = p + ln l (fdS l (rowAt row p)) := by unfold nxP; rw [if_pos h]
  have hhit := fd_has hl hfb
  obtain ⟨s, hS⟩ : ∃ s, fdS l (rowAt row p) = s := ⟨_, rfl⟩
  rw [hS] at hhit hlen hs hp
  have h15 := (hl.ln s).2
  obtain ⟨hhas, hw⟩ := hit_iff.1 hhit
  have r1 := mir_row (ahead row p 15) h15
  have r2 := mir_row (ahead (row ++ t) p 15) h15
  rw [← mir_any hb1 p h15] at r1
  rw [← mir_any hb p h15, ahead_ext hlen, r1] at r2
  have r3 : rowN (ahead (row ++ t) p 15) / 2 ^ (15 - ln l s) = wd l s := by
    rw [← hw]
    unfold rowAt
    exact_mod_cast r2.symm
  have hhit2 : Hit l (rowAt (row ++ t) p) s := hit_iff.2 ⟨hhas, r3⟩
  obtain ⟨g1, g2⟩ := fd_hit hl hhit2
  have hE : nxE l (row ++ t) p = 0 := by unfold nxE; rw [if_pos g2, g1, if_pos (by rw [List.length_append]; omega)]
  exact ⟨hE, by unfold nxS; rw [if_pos hE, g1]; exact hs.symm.trans (by unfold nxS; rw [if_pos h]) , by unfold nxP; rw [if_pos hE, g1]; exact hp.symm.trans (by unfold nxP; rw [if_pos h]), by rw [hp]; exact hlen⟩

theorem tr_ext {l row t : List Int} {p : Nat} (hl : Lens l) (hb : Bit (row ++ t)) (h : trE l row p = 0) : trE l (row ++ t) p = 0 ∧ nxS l (row ++ t) p = nxS l row p ∧ trC l (row ++ t) p = trC l row p ∧ trP l (row ++ t) p = trP l row p ∧ trP l row p ≤ row.length := by
  have h0 : nxE l row p = 0 := by
    unfold trE at h
    by_cases c : nxE l row p ≠ 0
    · rw [if_pos c] at h; omega
    · omega
  have h1 : nxP l row p + frt (nxS l row p : Nat) ≤ row.length := by
    unfold trE at h
    rw [if_neg (by simp [h0])] at h
    by_cases c : row.length < nxP l row p + frt (nxS l row p : Nat)
    · rw [if_pos c] at h; omega
    · omega
  obtain ⟨e1, e2, e3, e4⟩ := nx_ext hl hb h0
  refine ⟨by unfold trE; rw [if_neg (by simp [e1]), e2, e3, if_neg (by rw [List.length_append]; omega)], e2, by unfold trC; rw [e2, e3, ahead_ext h1], by unfold trP; rw [e2, e3], h1⟩

theorem rl_ext {l row t : List Int} (hl : Lens l) (hb : Bit (row ++ t)) (want : Nat) : ∀ f acc p, p ≤ row.length → (rl l row want f acc p).1 ≠ 70 → rl l (row ++ t) want f acc p = rl l row want f acc p ∧ ((rl l row want f acc p).1 = 0 → (rl l row want f acc p).2.2 ≤ row.length)
  | 0, acc, p, hp, _ => ⟨rfl, fun _ => hp⟩
  | f + 1, acc, p, hp, h => by
    by_cases c : acc.length < want
    · rw [rl, if_pos c] at h
      rw [rl, rl, if_pos c, if_pos c]
      by_cases c1 : trE l row p ≠ 0
      · rw [if_pos c1] at h; exact absurd rfl h
      · rw [if_neg c1] at h
        obtain ⟨e1, e2, e3, e4, e5⟩ := tr_ext hl hb (by omega : trE l row p = 0)
        rw [if_neg (by simp [e1]), if_neg c1, e2, e3, e4]
        by_cases c2 : nxS l row p = 16 ∧ acc = []
        · rw [if_pos c2, if_pos c2]; exact ⟨rfl, fun q => by simp at q⟩
        · rw [if_neg c2] at h
          rw [if_neg c2, if_neg c2]
          by_cases c3 : (want : Int) < acc.length + trC l row p
          · rw [if_pos c3, if_pos c3]; exact ⟨rfl, fun q => by simp at q⟩
          · rw [if_neg c3] at h
            rw [if_neg c3, if_neg c3]
            exact rl_ext hl hb want f _ _ e5 h
    · rw [rl, rl, if_neg c, if_neg c]
      exact ⟨rfl, fun _ => hp⟩

theorem smC_ext {row t : List Int} {p : Nat} : ∀ n, p + 3 * n ≤ row.length → smC (row ++ t) p n = smC row p n
  | 0, _ => rfl
  | n + 1, h => by rw [smC, smC, smC_ext n (by omega), ahead_ext (by omega)]

/-- More bits behind change no answer but that they end. -/
theorem rd_ext {row t : List Int} {p : Nat} (hb : Bit (row ++ t)) (h : (rdA row p).1 ≠ 70) : rdA (row ++ t) p = rdA row p ∧ ((rdA row p).1 = 0 → (rdA row p).2.2.2 ≤ row.length) := by
  have h0 : p + 14 ≤ row.length := by
    by_cases c : row.length < p + 14
    · have e : rcE row p = 70 := by unfold rcE; rw [if_pos c]
      rw [rd_c (by omega)] at h
      exact absurd e h
    · omega
  have hA := ahead_ext (t := t) h0
  have eL : rcL (row ++ t) p = rcL row p := by unfold rcL; rw [hA]
  have eD : rcD (row ++ t) p = rcD row p := by unfold rcD; rw [hA]
  have eN : rcN (row ++ t) p = rcN row p := by unfold rcN; rw [hA]
  have eE : rcE (row ++ t) p = rcE row p := by unfold rcE; rw [eL, eD, if_neg (by rw [List.length_append]; omega), if_neg (c := row.length < p + 14) (by omega)]
  by_cases c1 : rcE row p ≠ 0
  · rw [rd_c c1, rd_c (by rw [eE]; exact c1), eE]
    exact ⟨rfl, fun q => absurd q c1⟩
  have c1' : rcE row p = 0 := by omega
  have h1 : p + 14 + 3 * rcN row p ≤ row.length := by
    by_cases c : row.length < p + 14 + 3 * rcN row p
    · have e : smE row (p + 14) (rcN row p) = 70 := by unfold smE; rw [if_pos c]
      rw [rd_s c1' (by omega)] at h
      exact absurd e h
    · omega
  have eC := smC_ext (t := t) (rcN row p) h1
  have eS : smE (row ++ t) (p + 14) (rcN (row ++ t) p) = smE row (p + 14) (rcN row p) := by unfold smE; rw [eN, eC, if_neg (by rw [List.length_append]; omega), if_neg (c := row.length < p + 14 + 3 * rcN row p) (by omega)]
  by_cases c2 : smE row (p + 14) (rcN row p) ≠ 0
  · rw [rd_s c1' c2, rd_s (by rw [eE]; exact c1') (by rw [eS]; exact c2), eS]
    exact ⟨rfl, fun q => absurd q c2⟩
  have c2' : smE row (p + 14) (rcN row p) = 0 := by omega
  have hlens : Lens (smC row (p + 14) (rcN row p)) := by
    unfold smE at c2'
    rw [if_neg (by omega)] at c2'
    by_cases q : Lens (smC row (p + 14) (rcN row p))
    · exact q
    · rw [if_pos (by unfold chkS; rw [if_neg q]; decide)] at c2'; omega
  obtain ⟨x, hx⟩ : ∃ x, rl (smC row (p + 14) (rcN row p)) row (rcL row p + rcD row p) (rcL row p + rcD row p) [] (p + 14 + 3 * rcN row p) = x := ⟨_, rfl⟩
  have hr := rd_l c1' c2' hx
  have h70 : x.1 ≠ 70 := fun q => by
    rw [if_pos (by omega)] at hr
    rw [hr] at h
    exact h q
  obtain ⟨g1, g2⟩ := rl_ext hlens hb (rcL row p + rcD row p) (rcL row p + rcD row p) [] (p + 14 + 3 * rcN row p) h1 (by rw [hx]; exact h70)
  rw [hx] at g1 g2
  have hr2 := rd_l (row := row ++ t) (p := p) (x := x) (by rw [eE]; exact c1') (by rw [eS]; exact c2') (by rw [eN, eL, eD, eC]; exact g1)
  rw [eL] at hr2
  refine ⟨hr2.trans hr.symm, fun q => ?_⟩
  rw [hr] at q ⊢
  by_cases c3 : x.1 ≠ 0
  · rw [if_pos c3] at q; exact absurd q c3
  · rw [if_neg c3] at q ⊢
    by_cases c4 : hck (x.2.1.take (rcL row p)) (x.2.1.drop (rcL row p)) ≠ 0
    · rw [if_pos c4] at q; exact absurd q c4
    · rw [if_neg c4]
      exact g2 (by omega)

/-- A header that is cut off ends too early. -/
theorem rd_cut {l d row t : List Int} (h : mkE l d = 0) (hb : Bit (row ++ t)) (hB : row ++ t = mkB l d) (ht : t ≠ []) : (rdA row 0).1 = 70 ∧ (rdA row 0).2.1 = [] ∧ (rdA row 0).2.2.1 = [] := by
  have h70 : (rdA row 0).1 = 70 := Classical.byContradiction fun q => by
    obtain ⟨e1, e2⟩ := rd_ext hb q
    have e3 := rd_back (p := 0) (row := row ++ t) (rest := []) h hb (by rw [hB]; simp)
    rw [e1] at e3
    rw [e3] at e2
    have e4 := e2 rfl
    have := congrArg List.length hB
    rw [List.length_append] at this
    simp only at e4
    cases t with
    | nil => exact ht rfl
    | cons a t => simp only [List.length_cons] at this; omega
  rcases rd_cases row 0 with ⟨_, q1, q2⟩ | ⟨q, _⟩
  · exact ⟨h70, q1, q2⟩
  · rw [h70] at q; omega
end Go.Proofs.YtegoienjikjhkaaDoor

namespace Go.Proofs.YtegoienjikjhkaaDoor
open Go.RowKit Go.Maps
set_option maxRecDepth 20000
set_option linter.unusedVariables false

/-- What Write answers, and what is written then. -/
noncomputable def wrE (l d row : List Int) : Int := if mkE l d ≠ 0 then mkE l d else joinE row (mkB l d)
noncomputable def wrR (l d row : List Int) : List Int := if mkE l d ≠ 0 then row else joinRow row (mkB l d)

set_option maxHeartbeats 2000000 in
theorem hwrite {W w : World} {xs : List ((Nat → Nat) × Thing)} (H : Herd W w xs) (i : Nat) {K : Nat → Nat} {g : Nat} {row : List Int} (hi : xs[i]? = some (K, tw g row)) (v1 v2 : Value) (l d : List Int) (s1 : SI w v1 l) (s2 : SI w v2 d) (T : Tab W) (O : Odr W) :
    Calls Tryd.prog 8 #[.pointer (some ⟨g, 0, none⟩), v1, v2] w fun e w' => e = .returned (.int .i64 (wrE l d row)) ∧ ∃ K', Herd W w' (xs.set i (K', tw g (wrR l d row))) := by
  have HH := hide H
  have HI := hide hi
  have HMK := hide (make_any v1 v2 l d w s1 s2 (T.mono H.bel) (O.mono H.bel))
  have HT := hide T
  have HO := hide O
  obtain ⟨a1, c1, rfl, -, -⟩ := s1.open
  obtain ⟨a2, c2, rfl, -, -⟩ := s2.open
  clear H hi s1 s2 T O
  go_enter Tryd.func8, Tryd.ntmps8
  go_wp2_with fail
  refine HMK.out.mono ?_
  rintro e w1 ⟨hyn, b1⟩
  have H1 := hide (HH.out.below b1)
  rcases hyn with ⟨hne, hno⟩ | ⟨h0, vL, vD, vC, vR, rfl, hmk⟩
  · unfold MkNo at hno
    subst hno
    have HF : Hid (wrE l d row = mkE l d ∧ wrR l d row = row) := ⟨if_pos hne, if_pos hne⟩
    have g0 : (mkE l d != 0) = true := by simpa using hne
    clear b1
    go_wp2
    go_ret
    rw [HF.out.1, HF.out.2]
    exact ⟨rfl, K, (H1.out.below ((Below.refl _ _).alloc (Nat.le_refl _) _)).same HI.out⟩
  · obtain ⟨aL, cL, rfl⟩ := hmk.l.shape
    obtain ⟨aD, cD, rfl⟩ := hmk.d.shape
    obtain ⟨aC, cC, rfl⟩ := hmk.c.shape
    obtain ⟨aR, cR, rfl, hr1, hr2⟩ := hmk.r.shape
    have HMK2 := hide hmk
    obtain ⟨wb, hwb⟩ : ∃ wb, w1.alloc (.cells #[.slice aL (mkL l).length cL, .slice aD (mkD d).length cD, .slice aC (mkC l d).length cC, .slice aR (mkR l d).length cR, .int .i64 (mkZ l d)] 29) = wb := ⟨_, rfl⟩
    have hb0 : Below w1.heap.size w1 wb := by rw [← hwb]; exact (Below.refl _ _).alloc (Nat.le_refl _) _
    have hbx : Hbox wb w1.heap.size (.slice aL (mkL l).length cL) (.slice aD (mkD d).length cD) (.slice aC (mkC l d).length cC) (.slice aR (mkR l d).length cR) (.int .i64 (mkZ l d)) := by rw [← hwb]; exact heap_alloc_new w1 _
    have H2 := hide (H1.out.below hb0)
    have hmk2 := hmk.below hb0
    obtain ⟨f1, f2, f3, f4, f5, f6, f7, f8, f9, f10⟩ := mk_facts h0
    obtain ⟨k1, k2, k3, k4, k5⟩ := mk_small h0
    have HSP := hide (spell_any aL aD aC aR cL cD cC cR (mkZ l d) (mkL l) (mkD d) (mkC l d) (mkR l d) wb hmk2.c.sb hmk2.r.sr (HT.out.mono H2.out.bel) (HO.out.mono H2.out.bel) k1 k2 f8 k3 (dc_bk k5) f9 f3 f4 f5 f6)
    have HF : Hid (wrE l d row = joinE row (mkB l d) ∧ wrR l d row = joinRow row (mkB l d)) := ⟨if_neg (by simp [h0]), if_neg (by simp [h0])⟩
    have HWB := hide hwb
    obtain ⟨x0, x1, x2, x3, x4⟩ := hbx.cells
    clear hwb hb0 hbx hmk2 hmk f1 f2 f3 f4 f5 f6 f7 f8 f9 f10 k1 k2 k3 k4 k5 h0 b1
    go_wp2_with fail
    rw [HWB.out]
    refine HSP.out.mono ?_
    rintro e w2 ⟨gx, Kx, rfl, hwp, hup, hbl⟩
    have H3 := hide (H2.out.push hbl (x := tw gx (mkB l d)) hwp hup)
    have HJ := hide (hjoin H3.out i xs.length (get_front HI.out) (get_last _ _) (by have := (List.getElem?_eq_some_iff.1 HI.out).1; omega))
    clear hwp hup hbl
    go_wp2_with fail
    refine HJ.out.mono ?_
    rintro e w3 ⟨rfl, K', H4⟩
    rw [setf HI.out] at H4
    have HH4 := hide H4.front
    clear H4
    go_wp2
    go_ret
    rw [HF.out.1, HF.out.2]
    exact ⟨rfl, K', HH4.out⟩
end Go.Proofs.YtegoienjikjhkaaDoor

namespace Go.Proofs.YtegoienjikjhkaaDoor
open Go.RowKit Go.Maps
set_option maxRecDepth 20000
set_option linter.unusedVariables false

theorem getD_out {l : List Int} {k : Nat} (h : ¬ k < l.length) : l.getD k 0 = 0 := by rw [List.getD_eq_getElem?_getD, List.getElem?_eq_none (by omega)]; rfl

end Go.Proofs.YtegoienjikjhkaaDoor

