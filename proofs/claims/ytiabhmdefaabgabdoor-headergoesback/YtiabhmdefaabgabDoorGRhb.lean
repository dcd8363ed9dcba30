import Derived.Test.YtiabhmdefaabgabDoorGRhn
import Derived.Test.YtiabhmdefaabgabDoorGHlm
namespace Go.Proofs.YtiabhmdefaabgabDoor
open Go.RowKit Go.Maps
set_option linter.unusedVariables false

theorem lays_ge : ∀ (R : List Rn) (a : List Int), a.length ≤ (lays a R).length
  | [], a => Nat.le_refl _
  | r :: R, a => by
    have := lays_ge R (lay a r)
    rw [lay_len] at this
    show a.length ≤ (lays (lay a r) R).length
    omega

theorem drop_more {row x y : List Int} {p : Nat} (h : row.drop p = x ++ y) : row.drop (p + x.length) = y := by
  rw [← List.drop_drop, h, List.drop_left]

theorem okr_fit' {s : Nat} {c : Int} (h : Okr ((s : Int), c)) : 0 ≤ c - lst s ∧ c - lst s < 2 ^ frt s := by
  obtain ⟨h1, h2, h3, h4⟩ := h
  simp only at h1 h2 h3 h4
  by_cases q : s < 16
  · have e1 : lst s = 1 := by unfold lst; rw [if_pos (by omega)]
    have e2 : frt s = 0 := by unfold frt; rw [if_pos (by omega)]
    have e3 : mst s = 1 := by unfold mst; rw [if_pos (by omega)]
    rw [e1] at h3
    rw [e3] at h4
    rw [e1, e2]
    exact ⟨by omega, by show c - 1 < 1; omega⟩
  · obtain q | q | q : s = 16 ∨ s = 17 ∨ s = 18 := by omega
    · subst q
      have h3' : (3 : Int) ≤ c := h3
      have h4' : c ≤ 6 := h4
      exact ⟨by show 0 ≤ c - 3; omega, by show c - 3 < 4; omega⟩
    · subst q
      have h3' : (3 : Int) ≤ c := h3
      have h4' : c ≤ 10 := h4
      exact ⟨by show 0 ≤ c - 3; omega, by show c - 3 < 8; omega⟩
    · subst q
      have h3' : (11 : Int) ≤ c := h3
      have h4' : c ≤ 138 := h4
      exact ⟨by show 0 ≤ c - 11; omega, by show c - 11 < 128; omega⟩

/-- Runs that were put are taken. -/
theorem rl_back {C row : List Int} (hd : dcE C = 0) (hb : Bit row) (want : Nat) : ∀ (R : List Rn) (f : Nat) (acc : List Int) (p : Nat) (rest : List Int), (∀ r ∈ R, Okr r ∧ Has C r.1.toNat) → row.drop p = hdR C R ++ rest → xpE acc R = 0 → (lays acc R).length = want → want - acc.length ≤ f → rl C row want f acc p = (0, lays acc R, p + (hdR C R).length)
  | [], f, acc, p, rest, _, _, _, hl, _ => by
    have hl' : acc.length = want := hl
    cases f with
    | zero => rfl
    | succ f => rw [rl, if_neg (by omega)]; rfl
  | r :: R, f, acc, p, rest, hR, hr, hx, hl, hf => by
    obtain ⟨hok, hhas⟩ := hR r (by simp)
    obtain ⟨s, c, rfl, hs, h1, h2, h3, h4⟩ := okr_parts hok
    have hfit := okr_fit' hok
    simp only [Int.toNat_natCast] at hhas
    have hge := lays_ge R (lay acc ((s : Int), (c : Int)))
    have hll : (lays (lay acc ((s : Int), (c : Int))) R).length = want := hl
    rw [lay_len, hll] at hge
    simp only [Int.toNat_natCast] at hge
    obtain ⟨f, rfl⟩ : ∃ g, f = g + 1 := ⟨f - 1, by omega⟩
    have hr1 : row.drop p = wb C s ++ (bts ((c : Int) - lst s) (frt s) ++ (hdR C R ++ rest)) := by
      rw [hr]
      show (bts (wd C s) (ln C s)).reverse ++ bts ((c : Int) - lst s) (frt s) ++ hdR C R ++ rest = _
      simp only [List.append_assoc]
      rfl
    obtain ⟨n1, n2, n3⟩ := nx_word hd hhas hb hr1
    have hr2 : row.drop (p + ln C s) = bts ((c : Int) - lst s) (frt s) ++ (hdR C R ++ rest) := by
      have := drop_more hr1
      rwa [wb_len] at this
    have hr3 : row.drop (p + ln C s + frt s) = hdR C R ++ rest := by
      have := drop_more hr2
      rwa [length_bts] at this
    have hln := hhas.2
    have hL : p + ln C s + frt s ≤ row.length := by
      have h := congrArg List.length hr1
      rw [List.length_drop, List.length_append, List.length_append, wb_len, length_bts] at h
      omega
    have hA : ahead row (p + ln C s) (frt s) = (c : Int) - lst s := by
      rw [ahead_at hr2 (length_bts _ _)]
      exact val_bts_in hfit.1 hfit.2
    have ht1 : trE C row p = 0 := by unfold trE; rw [if_neg (by simp [n1]), n2, n3, if_neg (by omega)]
    have ht2 : trC C row p = c := by unfold trC; rw [n2, n3, hA]; omega
    have ht3 : trP C row p = p + ln C s + frt s := by unfold trP; rw [n2, n3]
    have hx1 : ¬ ((s : Int) = 16 ∧ acc = []) ∧ xpE (lay acc ((s : Int), (c : Int))) R = 0 := by
      rw [xpE, if_pos hok] at hx
      by_cases q : (s : Int) = 16 ∧ acc = []
      · rw [if_pos q] at hx; omega
      · rw [if_neg q] at hx; exact ⟨q, hx⟩
    rw [rl, if_pos (by omega), if_neg (by simp [ht1]), n2, ht2, if_neg (fun q => hx1.1 ⟨by omega, q.2⟩), if_neg (by omega), ht3]
    rw [rl_back hd hb want R f _ _ rest (fun q hq => hR q (by simp [hq])) hr3 hx1.2 hll (by rw [lay_len]; simp only [Int.toNat_natCast]; omega)]
    show _ = ((0 : Int), lays (lay acc ((s : Int), (c : Int))) R, _)
    congr 2
    show _ = p + ((bts (wd C s) (ln C s)).reverse ++ bts ((c : Int) - lst s) (frt s) ++ hdR C R).length
    rw [List.length_append, List.length_append, List.length_reverse, length_bts, length_bts]
    omega

theorem hdS_cut (C : List Int) : ∀ n k, k < n → ∃ t, hdS C n = hdS C k ++ (bts (C.getD (zor.getD k 0).toNat 0) 3 ++ t)
  | 0, k, h => by omega
  | n + 1, k, h => by
    by_cases e : k = n
    · subst e
      exact ⟨[], by simp [hdS]⟩
    · obtain ⟨t, ht⟩ := hdS_cut C n k (by omega)
      refine ⟨t ++ bts (C.getD (zor.getD n 0).toNat 0) 3, ?_⟩
      rw [hdS, ht]
      simp only [List.append_assoc]

theorem zor_all : ∀ s : Fin 19, ∃ j : Fin 19, (zor.getD j.val 0).toNat = s.val := by decide

theorem wrn_zero (c : List Int) : ∀ n j, wrn c n ≤ j → j < n → c.getD (zor.getD j 0).toNat 0 = 0
  | 0, j, _, h => by omega
  | n + 1, j, h1, h2 => by
    rw [wrn] at h1
    by_cases q : 4 < n + 1 ∧ c.getD (zor.getD n 0).toNat 0 = 0
    · rw [if_pos q] at h1
      by_cases e : j = n
      · subst e; exact q.2
      · exact wrn_zero c n j h1 (by omega)
    · rw [if_neg q] at h1; omega

theorem smC_len (row : List Int) (p : Nat) : ∀ n, (smC row p n).length = 19
  | 0 => by simp [smC]
  | n + 1 => by simp [smC, smC_len row p n]

theorem getD_set19 {l : List Int} {z s : Nat} {v : Int} (hl : l.length = 19) (hz : z < 19) : (l.set z v).getD s 0 = if z = s then v else l.getD s 0 := by
  rw [List.getD_eq_getElem?_getD, List.getElem?_set]
  by_cases e : z = s
  · subst e; simp [hl, hz]
  · simp [e]

theorem smC_at {C row : List Int} {p n : Nat} {rest : List Int} (hC : ∀ s, 0 ≤ C.getD s 0 ∧ C.getD s 0 ≤ 7) (hr : row.drop p = hdS C n ++ rest) (hn : n ≤ 19) : ∀ k, k ≤ n → (∀ j, j < k → (smC row p k).getD (zor.getD j 0).toNat 0 = C.getD (zor.getD j 0).toNat 0) ∧ ∀ s, (∀ j, j < k → (zor.getD j 0).toNat ≠ s) → (smC row p k).getD s 0 = 0
  | 0, _ => ⟨fun j hj => by omega, fun s _ => by
      show (List.replicate 19 (0 : Int)).getD s 0 = 0
      rw [List.getD_eq_getElem?_getD, List.getElem?_replicate]
      split <;> rfl⟩
  | k + 1, hk => by
    obtain ⟨i1, i2⟩ := smC_at hC hr hn k (by omega)
    obtain ⟨t, ht⟩ := hdS_cut C n k (by omega)
    have hA : ahead row (p + 3 * k) 3 = C.getD (zor.getD k 0).toNat 0 := by
      have h1 : row.drop p = hdS C k ++ (bts (C.getD (zor.getD k 0).toNat 0) 3 ++ (t ++ rest)) := by rw [hr, ht]; simp only [List.append_assoc]
      have h2 := drop_more h1
      rw [hdS_len] at h2
      rw [ahead_at h2 (length_bts _ _)]
      have := hC (zor.getD k 0).toNat
      exact val_bts_in this.1 (by show _ < (8 : Int); omega)
    have hz := zor_at k (by omega)
    have hl := smC_len row p k
    constructor
    · intro j hj
      rw [smC, hA, getD_set19 hl (by omega)]
      split
      · rename_i e; rw [e]
      · rename_i e
        by_cases q : j = k
        · subst q; exact absurd rfl e
        · exact i1 j (by omega)
    · intro s hs
      rw [smC, getD_set19 hl (by omega), if_neg (hs k (by omega))]
      exact i2 s fun j hj => hs j (by omega)

theorem ext19 {a b : List Int} (ha : a.length = 19) (hb : b.length = 19) (h : ∀ s, s < 19 → a.getD s 0 = b.getD s 0) : a = b := by
  apply List.ext_getElem (by omega)
  intro i h1 h2
  have := h i (by omega)
  simpa [h1, h2] using this

/-- The small code's lengths are taken. -/
theorem smC_back {C row rest : List Int} {p : Nat} (h19 : C.length = 19) (hC : ∀ s, 0 ≤ C.getD s 0 ∧ C.getD s 0 ≤ 7) (hr : row.drop p = hdS C (wrt C) ++ rest) : smC row p (wrt C) = C := by
  have hn := wrt_le C
  obtain ⟨i1, i2⟩ := smC_at hC hr hn (wrt C) (Nat.le_refl _)
  refine ext19 (smC_len _ _ _) h19 fun s hs => ?_
  obtain ⟨j, hj⟩ := zor_all ⟨s, hs⟩
  simp only at hj
  by_cases q : ∃ k, k < wrt C ∧ (zor.getD k 0).toNat = s
  · obtain ⟨k, hk, e⟩ := q
    rw [← e]
    exact i1 k hk
  · rw [i2 s fun k hk e => q ⟨k, hk, e⟩]
    have hge : wrt C ≤ j.val := Nat.le_of_not_lt fun h => q ⟨j.val, h, hj⟩
    have := wrn_zero C 19 j.val hge j.isLt
    rw [hj] at this
    exact this.symm

/-- The counts are taken. -/
theorem rc_back {row rest : List Int} {p : Nat} {a b c : Int} (ha : 0 ≤ a ∧ a < 32) (hb : 0 ≤ b ∧ b < 32) (hc : 0 ≤ c ∧ c < 16) (hr : row.drop p = bts a 5 ++ bts b 5 ++ bts c 4 ++ rest) : p + 14 ≤ row.length ∧ ahead row p 14 = a + 32 * b + 1024 * c ∧ row.drop (p + 14) = rest := by
  have hl := congrArg List.length hr
  simp only [List.length_drop, List.length_append, length_bts] at hl
  have h14 : (bts a 5 ++ bts b 5 ++ bts c 4).length = 14 := by simp only [List.length_append, length_bts]
  refine ⟨by omega, ?_, ?_⟩
  · rw [ahead_at hr h14, val_append, val_append, val_bts_in ha.1 (by show a < 32; omega), val_bts_in hb.1 (by show b < 32; omega), val_bts_in hc.1 (by show c < 16; omega), List.length_append, length_bts, length_bts]
    show a + (32 : Int) * b + 1024 * c = _
    rfl
  · have := drop_more hr
    rwa [h14] at this
end Go.Proofs.YtiabhmdefaabgabDoor

