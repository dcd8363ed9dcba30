import Derived.Test.YtfoglaajnlbnbaaGreatDoorG32Wbz
import Derived.Test.YtfoglaajnlbnbaaGreatDoorG33Rhl
namespace Go.Proofs.YtfoglaajnlbnbaaGreatDoor
open Go.RowKit Go.Maps
set_option maxRecDepth 20000
set_option linter.unusedVariables false
set_option linter.unusedSimpArgs false

/-! What a block's bits say is read. -/
theorem cpy_front (x : List Int) (d : Nat) : ∀ n, cpy x d (n + 1) = cpy (x ++ [x.getD (x.length - d) 0]) d n
  | 0 => rfl
  | n + 1 => by rw [cpy, cpy_front x d n]; rfl

theorem cpy_is (d : Nat) : ∀ n (x : List Int), cpy8 d n x = cpy x d n
  | 0, x => rfl
  | n + 1, x => by rw [cpy8, cpy_is d n, cpy_front]

theorem ln_tab : ∀ i : Nat, i < 29 → lnF (257 + i) = LF i ∧ lnB (257 + i) = LB i := by decide +kernel
theorem ds_tab : ∀ i : Nat, i < 30 → dsF i = DF i ∧ dsB i = DB i := by decide +kernel

theorem ahead_bts {row rest : List Int} {p n : Nat} {v : Int} (h : row.drop p = bts v n ++ rest) (h0 : 0 ≤ v) (h1 : v < 2 ^ n) : ahead row p n = v := by
  rw [ahead_at h (length_bts v n), val_bts_in h0 h1]

theorem drop_len {row x rest : List Int} {p : Nat} (h : row.drop p = x ++ rest) (hx : 0 < x.length) : p + x.length + rest.length = row.length := by
  have := congrArg List.length h
  rw [List.length_drop, List.length_append] at this
  omega

theorem drop_mo10 {row x rest : List Int} {p : Nat} (h : row.drop p = x ++ rest) : row.drop (p + x.length) = rest := by
  rw [← List.drop_drop, h, List.drop_left]

theorem sy_ok {l row rest : List Int} {p s : Nat} (hd : dcE l = 0) (hs : lnI l (s : Int) ≠ 0) (hb : Bit row) (hr : row.drop p = wb l s ++ rest) : syE l row p = 0 ∧ nxS l row p = s ∧ nxP l row p = p + (wb l s).length ∧ 0 < (wb l s).length := by
  obtain ⟨h1, h2, h3⟩ := lnI_has hs
  rw [Int.toNat_natCast] at h1 h3
  obtain ⟨e1, e2, e3⟩ := nx_word hd h1 hb hr
  refine ⟨?_, e2, by rw [e3, wb_len], by rw [wb_len]; exact h1.2⟩
  unfold syE
  rw [if_pos e1]

theorem sy_tok {P Q row rest out : List Int} {L p : Nat} {t : Tk} (dP : dcE P = 0) (dQ : t.1 ≠ 0 → dcE Q = 0) (hb : Bit row) (hs : Snd t) (hbt : Bt t) (hw : lnI P (litS t : Int) ≠ 0) (hq : t.1 ≠ 0 → lnI Q (dsy t.2.1.toNat : Int) ≠ 0)
    (hr : row.drop p = tokB P Q t ++ rest) (hn : t.2.1 ≤ (out.length : Int)) (hL : out.length + says t ≤ L) : sy1 P Q row L p out = (0, false, p + (tokB P Q t).length, ptk out t) := by
  unfold Snd at hs
  unfold Bt at hbt
  unfold says at hL
  by_cases c : t.1 = 0
  · rw [if_pos c] at hs
    have et : tokB P Q t = wb P (litS t) := by unfold tokB; rw [if_pos c]
    rw [et] at hr ⊢
    obtain ⟨e1, e2, e3, e4⟩ := sy_ok dP hw hb hr
    have el : litS t = t.2.2.toNat := by unfold litS; rw [if_pos c]
    unfold sy1
    rw [if_neg (by rw [e1]; simp), e2, if_pos (by rw [el]; omega), if_neg (by omega), e3]
    unfold ptk
    rw [if_pos c, el, Int.toNat_of_nonneg hbt.1]
  · rw [if_neg c] at hs
    obtain ⟨s1, s2, s3, s4, s5⟩ := hs
    have hli := lsy_spec (x := t.1.toNat) (by omega)
    have hdi := dsy_spec (x := t.2.1.toNat) (by omega)
    have bl := lsy_bitsW hli (by omega)
    have bd := dsy_bitsW hdi (by omega)
    obtain ⟨f1, f2⟩ := ln_tab _ hli.1
    obtain ⟨g1, g2⟩ := ds_tab _ hdi.1
    have hl2 := hli.2.1
    have hd2 := hdi.2.1
    have hl1 := hli.1
    have hd1 := hdi.1
    have el : litS t = 257 + lsy t.1.toNat := by unfold litS; rw [if_neg c]
    have et : tokB P Q t = wb P (litS t) ++ (bts (t.1 - (LB (lsy t.1.toNat) : Int)) (LF (lsy t.1.toNat)) ++ (wb Q (dsy t.2.1.toNat) ++ bts (t.2.1 - (DB (dsy t.2.1.toNat) : Int)) (DF (dsy t.2.1.toNat)))) := by
      unfold tokB; rw [if_neg c, List.append_assoc]
    obtain ⟨i, hi⟩ : ∃ i, lsy t.1.toNat = i := ⟨_, rfl⟩
    obtain ⟨j, hj⟩ : ∃ j, dsy t.2.1.toNat = j := ⟨_, rfl⟩
    have hq' := hq c
    rw [hi] at f1 f2 hl2 hl1 bl el et
    rw [hj] at g1 g2 hd2 hd1 bd et hq'
    rw [el] at et hw
    rw [et, List.append_assoc, List.append_assoc, List.append_assoc] at hr
    obtain ⟨e1, e2, e3, e4⟩ := sy_ok dP hw hb hr
    have r1 := drop_mo10 hr
    have r2 := drop_mo10 r1
    obtain ⟨x1, x2, x3, x4⟩ := sy_ok (dQ c) hq' hb r2
    have r3 := drop_mo10 r2
    have n1 := drop_len hr e4
    rw [length_bts] at r2 r3 x1 x2 x3
    have hv1 : ahead row (p + (wb P (257 + i)).length) (LF i) = t.1 - (LB i : Int) := by
      refine ahead_bts r1 (by omega) ?_
      have : ((t.1.toNat - LB i : Nat) : Int) < ((2 ^ LF i : Nat) : Int) := Int.ofNat_lt.2 bl
      rw [Int.natCast_pow] at this
      have e : ((t.1.toNat - LB i : Nat) : Int) = t.1 - (LB i : Int) := by omega
      rw [e] at this
      exact this
    have hv2 : ahead row (p + (wb P (257 + i)).length + LF i + (wb Q j).length) (DF j) = t.2.1 - (DB j : Int) := by
      refine ahead_bts (rest := rest) r3 (by omega) ?_
      have : ((t.2.1.toNat - DB j : Nat) : Int) < ((2 ^ DF j : Nat) : Int) := Int.ofNat_lt.2 bd
      rw [Int.natCast_pow] at this
      have e : ((t.2.1.toNat - DB j : Nat) : Int) = t.2.1 - (DB j : Int) := by omega
      rw [e] at this
      exact this
    simp only [List.length_append, length_bts] at n1
    have hlv : lgV (257 + i) row (p + (wb P (257 + i)).length) = t.1.toNat := by unfold lgV; rw [f1, f2, hv1]; omega
    have hlp : lgP (257 + i) (p + (wb P (257 + i)).length) = p + (wb P (257 + i)).length + LF i := by unfold lgP; rw [f1]
    have hle : lgE (257 + i) row (p + (wb P (257 + i)).length) = 0 := by unfold lgE; rw [if_neg (by omega), if_neg (by rw [f1]; omega)]
    have hde : dtE Q row (p + (wb P (257 + i)).length + LF i) = 0 := by
      unfold dtE
      rw [if_neg (by simp [dQ c]), if_neg (by rw [x1]; simp), x2, if_neg (by omega), x3, g1, if_neg (by omega)]
    have hdv : dtV Q row (p + (wb P (257 + i)).length + LF i) = t.2.1.toNat := by unfold dtV; rw [x2, x3, g1, g2, hv2]; omega
    have hdp : dtP Q row (p + (wb P (257 + i)).length + LF i) = p + (wb P (257 + i)).length + LF i + (wb Q j).length + DF j := by unfold dtP; rw [x2, x3, g1]
    have hag : agE L out t.1.toNat t.2.1.toNat = 0 := by unfold agE; rw [if_neg (by omega), if_neg (by omega)]
    unfold sy1
    rw [if_neg (by rw [e1]; simp), e2, if_neg (by omega), if_neg (by omega), e3, if_neg (by rw [hle]; simp), hlp, if_neg (by rw [hde]; simp), hlv, hdv, if_neg (by rw [hag]; simp), hdp, cpy_is]
    unfold ptk
    rw [if_neg c, et]
    simp only [List.length_append, length_bts, Prod.mk.injEq, true_and, and_true]
    omega

theorem sys_body {P Q row : List Int} {L : Nat} (dP : dcE P = 0) (hb : Bit row) : ∀ (R : List Tk) (p : Nat) (out rest : List Int), (∀ t ∈ R, Snd t ∧ Bt t) → (∀ t ∈ R, t.1 ≠ 0 → dcE Q = 0) → Wds P Q R → exE (L : Int) out R = 0 → row.drop p = bodB P Q R ++ wb P 256 ++ rest →
    Sys P Q row L p out 0 (p + (bodB P Q R ++ wb P 256).length) (exT out R)
  | [], p, out, rest, hs, hq, hw, hx, hr => by
    have e : bodB P Q [] = [] := rfl
    rw [e, List.nil_append] at hr ⊢
    obtain ⟨e1, e2, e3, e4⟩ := sy_ok dP hw.1 hb hr
    refine .fin (o := out) ?_
    unfold sy1
    rw [if_neg (by rw [e1]; simp), e2, if_neg (show ¬ (256 : Nat) < 256 by omega), if_pos (show (256 : Nat) = 256 from rfl), e3]
    (try rfl)
  | t :: R, p, out, rest, hs, hq, hw, hx, hr => by
    have e : bodB P Q (t :: R) = tokB P Q t ++ bodB P Q R := by simp [bodB]
    rw [e] at hr ⊢
    have ht := hs t (by simp)
    simp only [exE] at hx
    by_cases h1 : stE (L : Int) out t = 0
    · rw [if_pos h1] at hx
      unfold stE at h1
      rw [if_pos ht.1] at h1
      have h2 : ¬ (out.length : Int) < t.2.1 := fun q => by rw [if_pos q] at h1; omega
      rw [if_neg h2] at h1
      have h3 : ¬ (L : Int) < (out.length : Int) + (says t : Nat) := fun q => by rw [if_pos q] at h1; omega
      have hr1 : row.drop p = tokB P Q t ++ (bodB P Q R ++ wb P 256 ++ rest) := by rw [hr]; simp only [List.append_assoc]
      have g := sy_tok (L := L) (out := out) dP (hq t (by simp)) hb ht.1 ht.2 (hw.2 t (by simp)).1 (hw.2 t (by simp)).2 hr1 (by omega) (by omega)
      have ih := sys_body dP hb R (p + (tokB P Q t).length) (ptk out t) rest (fun u hu => hs u (by simp [hu])) (fun u hu => hq u (by simp [hu])) ⟨hw.1, fun u hu => hw.2 u (by simp [hu])⟩ hx (drop_mo10 hr1)
      have el : p + (tokB P Q t ++ bodB P Q R ++ wb P 256).length = p + (tokB P Q t).length + (bodB P Q R ++ wb P 256).length := by simp only [List.length_append]; omega
      rw [el]
      exact .go g ih
    · rw [if_neg h1] at hx; exact absurd hx h1

theorem count_range (x : Int) (hx : x ≠ 0) : ∀ (l : List Int) (N : Nat), l.length ≤ N → l.count x = ((List.range N).filter fun s => l.getD s 0 == x).length
  | [], N, _ => by
    have : (List.range N).filter (fun s => ([] : List Int).getD s 0 == x) = [] := List.filter_eq_nil_iff.2 (fun s _ => by simp; exact fun q => hx q.symm)
    rw [this]; rfl
  | a :: l, 0, h => by simp at h
  | a :: l, N + 1, h => by
    have ih := count_range x hx l N (by simpa using h)
    rw [List.range_succ_eq_map, List.filter_cons, List.filter_map, List.count_cons, ih]
    have e : (fun s => (a :: l).getD s 0 == x) ∘ Nat.succ = fun s => l.getD s 0 == x := by funext s; simp
    rw [e]
    by_cases c : a = x
    · simp [c]
    · simp [c]

theorem wb_same {l k : List Int} (h : ∀ s, l.getD s 0 = k.getD s 0) (h0 : ∀ s, 0 ≤ l.getD s 0) (s : Nat) : wb l s = wb k s := by
  have hl : ∀ s, ln l s = ln k s := fun s => by unfold ln; rw [h s]
  have hc : ∀ n, cn l n = cn k n := fun n => by
    unfold cn
    by_cases c : n = 0
    · rw [if_pos c, if_pos c]
    · rw [if_neg c, if_neg c, count_range (n : Int) (by omega) l (max l.length k.length) (by omega), count_range (n : Int) (by omega) k (max l.length k.length) (by omega)]
      congr 1
      apply List.filter_congr
      intro s _
      rw [h s]
  have hf : ∀ n, fi l n = fi k n := fun n => by
    induction n with
    | zero => rfl
    | succ n ih => simp only [fi]; rw [ih, hc n]
  have hw : wd l s = wd k s := by
    unfold wd
    rw [hl s]
    by_cases c : ln k s = 0
    · rw [if_pos c, if_pos c]
    · rw [if_neg c, if_neg c, hf]
      congr 1
      unfold rk
      rw [h s]
      have hx : k.getD s 0 ≠ 0 := fun q => c (by unfold ln; rw [q]; rfl)
      rw [count_range _ hx (l.take s) s (by simp; omega), count_range _ hx (k.take s) s (by simp; omega)]
      congr 1
      apply List.filter_congr
      intro j hj
      have hj' : j < s := List.mem_range.1 hj
      have e1 : (l.take s).getD j 0 = l.getD j 0 := by simp [List.getD_eq_getElem?_getD, List.getElem?_take, hj']
      have e2 : (k.take s).getD j 0 = k.getD j 0 := by simp [List.getD_eq_getElem?_getD, List.getElem?_take, hj']
      rw [e1, e2, h j]
  unfold wb
  rw [hw, hl s]
end Go.Proofs.YtfoglaajnlbnbaaGreatDoor

