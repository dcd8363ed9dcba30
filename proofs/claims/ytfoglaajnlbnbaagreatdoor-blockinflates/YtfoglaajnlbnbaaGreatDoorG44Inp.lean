import Derived.Test.YtfoglaajnlbnbaaGreatDoorG43Ino
import Derived.Test.YtfoglaajnlbnbaaGreatDoorG18Lsd
namespace Go.Proofs.YtfoglaajnlbnbaaGreatDoor
open Go.RowKit Go.Maps
set_option maxRecDepth 20000
set_option linter.unusedVariables false
set_option linter.unusedSimpArgs false

/-! Rows of blocks. -/
def nrA : Int → List Tk → Bool
  | _, [] => true
  | a, t :: r => (decide (t.1 = 0 ∨ t.2.1 ≤ a)) && nrA (a + lsayT t) r

theorem lsay_cons (t : Tk) (R : List Tk) : lsay (t :: R) = lsayT t + lsay R := by simp [lsay]

theorem nrA_snoc : ∀ (R : List Tk) (a : Int) (t : Tk), nrA a (R ++ [t]) = (nrA a R && decide (t.1 = 0 ∨ t.2.1 ≤ a + lsay R))
  | [], a, t => by simp [nrA, lsay]
  | u :: R, a, t => by
    simp only [List.cons_append, nrA]
    rw [nrA_snoc R, lsay_cons, Bool.and_assoc, Int.add_assoc]

theorem ptk_len10 {out : List Int} {t : Tk} (h : Snd t) : ((ptk out t).length : Int) = out.length + lsayT t ∧ lsayT t = (says t : Nat) := by
  unfold Snd at h
  unfold ptk lsayT says
  by_cases c : t.1 = 0
  · rw [if_pos c, if_pos c, c]; simp
  · rw [if_neg c] at h
    rw [if_neg c, if_neg c, cpy_len]
    omega

theorem ex_ok {lim : Int} : ∀ (R : List Tk) (out : List Int), (∀ t ∈ R, Snd t) → nrA out.length R = true → (out.length : Int) + lsay R ≤ lim → exE lim out R = 0 ∧ ((exT out R).length : Int) = out.length + lsay R
  | [], out, _, _, _ => by simp [exE, exT, lsay]
  | t :: R, out, hs, hn, hl => by
    have ht := hs t (by simp)
    have hr : 0 ≤ lsay R := (lsay_in R (by
      unfold asnd
      exact List.all_eq_true.2 fun u hu => decide_eq_true (hs u (by simp [hu])))).1
    simp only [nrA, Bool.and_eq_true, decide_eq_true_eq] at hn
    rw [lsay_cons] at hl
    obtain ⟨p1, p2⟩ := ptk_len10 (out := out) ht
    have hd : ¬ (out.length : Int) < t.2.1 := by
      rcases hn.1 with c | c
      · have := ht; unfold Snd at this; rw [if_pos c] at this; omega
      · omega
    have hst : stE lim out t = 0 := by
      unfold stE
      rw [if_pos ht, if_neg hd, if_neg (by omega)]
    obtain ⟨q1, q2⟩ := ex_ok (lim := lim) R (ptk out t) (fun u hu => hs u (by simp [hu])) (by rw [p1]; exact hn.2) (by rw [p1]; omega)
    refine ⟨by simp only [exE]; rw [if_pos hst]; exact q1, ?_⟩
    simp only [exT]
    rw [q2, p1, lsay_cons]
    omega

theorem pre_ptk10 (out : List Int) (t : Tk) : (ptk out t).take out.length = out := by
  unfold ptk
  by_cases c : t.1 = 0
  · rw [if_pos c]; simp
  · rw [if_neg c]
    induction t.1.toNat with
    | zero => simp [cpy]
    | succ n ih =>
      rw [cpy, List.take_append_of_le_length (by rw [cpy_len]; omega)]
      exact ih

theorem pre_exT10 : ∀ (R : List Tk) (out : List Int), out.length ≤ (exT out R).length ∧ (exT out R).take out.length = out
  | [], out => by simp [exT]
  | t :: R, out => by
    obtain ⟨h1, h2⟩ := pre_exT10 R (ptk out t)
    have hl : out.length ≤ (ptk out t).length := by
      have := congrArg List.length (pre_ptk10 out t)
      rw [List.length_take] at this
      omega
    simp only [exT]
    refine ⟨by omega, ?_⟩
    have e : (exT (ptk out t) R).take out.length = ((exT (ptk out t) R).take (ptk out t).length).take out.length := by rw [List.take_take, Nat.min_eq_left hl]
    rw [e, h2, pre_ptk10]

noncomputable def rowB (out : List Int) (at0 : Nat) : List (List Tk × Nat) → List Int
  | [] => []
  | [(R, k)] => blkB k true R ((exT out R).drop out.length) at0
  | (R, k) :: r => blkB k false R ((exT out R).drop out.length) at0 ++ rowB (exT out R) (at0 + (blkB k false R ((exT out R).drop out.length) at0).length) r

def rowT (out : List Int) (ps : List (List Tk × Nat)) : List Int := exT out (ps.flatMap (·.1))

def rowOk (L : Nat) : Nat → List (List Tk × Nat) → Prop
  | _, [] => True
  | a, (R, k) :: r => sdE R = 0 ∧ (∀ t ∈ R, Bt t) ∧ k ≤ 2 ∧ nrA a R = true ∧ (a : Int) + lsay R ≤ L ∧ rowOk L (a + (lsay R).toNat) r

theorem bit_bytes_ptk {out : List Int} {t : Tk} (h : Byt out) (hb : Bt t) : Byt (ptk out t) := by
  unfold ptk
  by_cases c : t.1 = 0
  · rw [if_pos c]
    exact byt_append h (fun i => by
      cases i with
      | zero => exact hb
      | succ i => simp)
  · rw [if_neg c]
    induction t.1.toNat with
    | zero => exact h
    | succ n ih => exact byt_append ih (fun i => by
        cases i with
        | zero => exact ih _
        | succ i => simp)

theorem byt_exT : ∀ (R : List Tk) (out : List Int), Byt out → (∀ t ∈ R, Bt t) → Byt (exT out R)
  | [], out, h, _ => h
  | t :: R, out, h, hb => byt_exT R _ (bit_bytes_ptk h (hb t (by simp))) (fun u hu => hb u (by simp [hu]))

theorem row_read {row : List Int} {L : Nat} (hb : Bit row) : ∀ (ps : List (List Tk × Nat)) (out : List Int) (p : Nat) (rest : List Int), ps ≠ [] → Byt out → rowOk L out.length ps → row.drop p = rowB out p ps ++ rest →
    ∃ pcs, Txt row L p out pcs 0 (p + (rowB out p ps).length) (rowT out ps)
  | [], out, p, rest, h, _, _, _ => absurd rfl h
  | (R, k) :: r, out, p, rest, _, hB, ho, hr => by
    obtain ⟨o1, o2, o3, o4, o5, o6⟩ := ho
    obtain ⟨d1, d2, d3, d4, d5⟩ := sd_ok o1
    have hs := fun t ht => (asnd_all10 d1 o2 t ht).1
    obtain ⟨x1, x2⟩ := ex_ok (lim := L) R out hs o4 o5
    obtain ⟨y1, y2⟩ := pre_exT10 R out
    have hl : (((exT out R).drop out.length).length : Int) = lsay R := by rw [List.length_drop]; omega
    have hsay : exT out R = out ++ (exT out R).drop out.length := by
      have := (List.take_append_drop out.length (exT out R)).symm
      rwa [y2] at this
    have hBl : Byt ((exT out R).drop out.length) := byt_drop (byt_exT R out hB o2) _
    cases r with
    | nil =>
      simp only [rowB] at hr ⊢
      have hk := blk_read (out := out) (L := L) (f := true) hb o3 o1 o2 hl hBl x1 (by omega) hsay hr
      have e : rowT out [(R, k)] = exT out R := by simp [rowT]
      rw [e]
      exact ⟨_, .last hk⟩
    | cons q r =>
      simp only [rowB] at hr ⊢
      rw [List.append_assoc] at hr
      have hk := blk_read (out := out) (L := L) (f := false) hb o3 o1 o2 hl hBl x1 (by omega) hsay hr
      have hlen : (exT out R).length = out.length + (lsay R).toNat := by omega
      obtain ⟨pcs, ih⟩ := row_read hb (q :: r) (exT out R) (p + (blkB k false R ((exT out R).drop out.length) p).length) rest (by simp) (byt_exT R out hB o2) (by rw [hlen]; exact o6) (drop_mo10 hr)
      have e : rowT out ((R, k) :: q :: r) = rowT (exT out R) (q :: r) := by
        unfold rowT
        rw [List.flatMap_cons, ext_app]
      rw [e, List.length_append, ← Nat.add_assoc]
      exact ⟨_, .go hk ih⟩
end Go.Proofs.YtfoglaajnlbnbaaGreatDoor

