import Derived.Test.YtiabhmdefaabgaaDoorGWpn
import Derived.Test.YtiabhmdefaabgaaDoorGNx
namespace Go.Proofs.YtiabhmdefaabgaaDoor
open Go.RowKit Go.Maps
set_option linter.unusedVariables false

/-- The three counts, and their error. -/
def rcL (row : List Int) (p : Nat) : Nat := 257 + (ahead row p 14 % 32).toNat
def rcD (row : List Int) (p : Nat) : Nat := 1 + (ahead row p 14 / 32 % 32).toNat
def rcN (row : List Int) (p : Nat) : Nat := 4 + (ahead row p 14 / 1024).toNat
def rcE (row : List Int) (p : Nat) : Int := if row.length < p + 14 then 70 else if 286 < rcL row p ∨ 30 < rcD row p then 71 else 0

/-- The small code's lengths, and their error. -/
def smC (row : List Int) (p : Nat) : Nat → List Int
  | 0 => List.replicate 19 0
  | n + 1 => (smC row p n).set (zor.getD n 0).toNat (ahead row (p + 3 * n) 3)
def smE (row : List Int) (p n : Nat) : Int := if row.length < p + 3 * n then 70 else if chkS (smC row p n) ≠ 4 then 72 else 0

/-- One run: its error, its count, where it ends. -/
noncomputable def trE (C row : List Int) (p : Nat) : Int := if nxE C row p ≠ 0 then 70 else if row.length < nxP C row p + frt (nxS C row p : Nat) then 70 else 0
noncomputable def trC (C row : List Int) (p : Nat) : Int := lst (nxS C row p : Nat) + ahead row (nxP C row p) (frt (nxS C row p : Nat))
noncomputable def trP (C row : List Int) (p : Nat) : Nat := nxP C row p + frt (nxS C row p : Nat)

/-- The lengths, run by run. -/
noncomputable def rl (C row : List Int) (want : Nat) : Nat → List Int → Nat → Int × List Int × Nat
  | 0, acc, p => (0, acc, p)
  | f + 1, acc, p =>
    if acc.length < want then
      if trE C row p ≠ 0 then (70, [], p)
      else if nxS C row p = 16 ∧ acc = [] then (73, [], p)
      else if (want : Int) < acc.length + trC C row p then (74, [], p)
      else rl C row want f (lay acc ((nxS C row p : Nat), trC C row p)) (trP C row p)
    else (0, acc, p)

/-- What Read answers: the error, the two lists, where it stands then. -/
noncomputable def rdA (row : List Int) (p : Nat) : Int × List Int × List Int × Nat :=
  if rcE row p ≠ 0 then (rcE row p, [], [], p) else
  if smE row (p + 14) (rcN row p) ≠ 0 then (smE row (p + 14) (rcN row p), [], [], p) else
  if (rl (smC row (p + 14) (rcN row p)) row (rcL row p + rcD row p) (rcL row p + rcD row p) [] (p + 14 + 3 * rcN row p)).1 ≠ 0 then ((rl (smC row (p + 14) (rcN row p)) row (rcL row p + rcD row p) (rcL row p + rcD row p) [] (p + 14 + 3 * rcN row p)).1, [], [], p) else
  if hck ((rl (smC row (p + 14) (rcN row p)) row (rcL row p + rcD row p) (rcL row p + rcD row p) [] (p + 14 + 3 * rcN row p)).2.1.take (rcL row p)) ((rl (smC row (p + 14) (rcN row p)) row (rcL row p + rcD row p) (rcL row p + rcD row p) [] (p + 14 + 3 * rcN row p)).2.1.drop (rcL row p)) ≠ 0 then (hck ((rl (smC row (p + 14) (rcN row p)) row (rcL row p + rcD row p) (rcL row p + rcD row p) [] (p + 14 + 3 * rcN row p)).2.1.take (rcL row p)) ((rl (smC row (p + 14) (rcN row p)) row (rcL row p + rcD row p) (rcL row p + rcD row p) [] (p + 14 + 3 * rcN row p)).2.1.drop (rcL row p)), [], [], p) else
  (0, (rl (smC row (p + 14) (rcN row p)) row (rcL row p + rcD row p) (rcL row p + rcD row p) [] (p + 14 + 3 * rcN row p)).2.1.take (rcL row p), (rl (smC row (p + 14) (rcN row p)) row (rcL row p + rcD row p) (rcL row p + rcD row p) [] (p + 14 + 3 * rcN row p)).2.1.drop (rcL row p), (rl (smC row (p + 14) (rcN row p)) row (rcL row p + rcD row p) (rcL row p + rcD row p) [] (p + 14 + 3 * rcN row p)).2.2)

theorem rd_c {row : List Int} {p : Nat} (h : rcE row p ≠ 0) : rdA row p = (rcE row p, [], [], p) := by unfold rdA; rw [if_pos h]
theorem rd_s {row : List Int} {p : Nat} (h : rcE row p = 0) (h2 : smE row (p + 14) (rcN row p) ≠ 0) : rdA row p = (smE row (p + 14) (rcN row p), [], [], p) := by unfold rdA; rw [if_neg (by simp [h]), if_pos h2]
theorem rd_l {row : List Int} {p : Nat} {x : Int × List Int × Nat} (h : rcE row p = 0) (h2 : smE row (p + 14) (rcN row p) = 0) (hx : rl (smC row (p + 14) (rcN row p)) row (rcL row p + rcD row p) (rcL row p + rcD row p) [] (p + 14 + 3 * rcN row p) = x) :
    rdA row p = if x.1 ≠ 0 then (x.1, [], [], p) else if hck (x.2.1.take (rcL row p)) (x.2.1.drop (rcL row p)) ≠ 0 then (hck (x.2.1.take (rcL row p)) (x.2.1.drop (rcL row p)), [], [], p) else (0, x.2.1.take (rcL row p), x.2.1.drop (rcL row p), x.2.2) := by
  unfold rdA
  rw [if_neg (by simp [h]), if_neg (by simp [h2]), hx]

theorem lst_pos (s : Int) : 1 ≤ lst s ∧ lst s ≤ 11 := by unfold lst; split <;> (try split) <;> omega

theorem tr_bound {C row : List Int} (hb : Bit row) (p : Nat) : 1 ≤ trC C row p ∧ trC C row p ≤ 138 := by
  unfold trC
  have h1 := ahead_bound hb (nxP C row p) (frt (nxS C row p : Nat))
  have h2 := lst_pos (nxS C row p : Nat)
  refine ⟨by omega, ?_⟩
  by_cases c : ((nxS C row p : Nat) : Int) < 16
  · have e1 : frt (nxS C row p : Nat) = 0 := by unfold frt; rw [if_pos c]
    rw [e1] at h1 ⊢
    have := h1.2
    simp at this
    omega
  · by_cases c2 : ((nxS C row p : Nat) : Int) < 18
    · have e1 : frt (nxS C row p : Nat) ≤ 3 := by unfold frt; rw [if_neg c]; split; omega; split <;> omega
      have := pow_le e1
      have e3 : (2 : Int) ^ 3 = 8 := by decide
      omega
    · have e1 : frt (nxS C row p : Nat) = 7 := by unfold frt; rw [if_neg c, if_neg (by omega), if_neg (by omega)]
      rw [e1] at h1 ⊢
      have e3 : (2 : Int) ^ 7 = 128 := by decide
      omega

theorem lay_in {a : List Int} {r : Rn} (h : ∀ x ∈ a, 0 ≤ x ∧ x ≤ 15) (h0 : 0 ≤ r.1) : ∀ x ∈ lay a r, 0 ≤ x ∧ x ≤ 15 := by
  intro x hx
  unfold lay at hx
  rcases List.mem_append.1 hx with q | q
  · exact h x q
  · rw [List.eq_of_mem_replicate q]
    unfold mnt
    split
    · omega
    · split
      · rw [List.getD_eq_getElem?_getD]
        cases e : a[a.length - 1]? with
        | none => simp
        | some y => exact h y (List.mem_of_getElem? e)
      · omega

/-- What comes of it: so many lengths, each of them one. -/
theorem rl_facts {C row : List Int} (hb : Bit row) (want : Nat) : ∀ f acc p, want - acc.length ≤ f → acc.length ≤ want → (∀ x ∈ acc, 0 ≤ x ∧ x ≤ 15) → (rl C row want f acc p).1 = 0 → (rl C row want f acc p).2.1.length = want ∧ ∀ x ∈ (rl C row want f acc p).2.1, 0 ≤ x ∧ x ≤ 15
  | 0, acc, p, hf, hl, ha, _ => ⟨by show acc.length = want; omega, ha⟩
  | f + 1, acc, p, hf, hl, ha, h0 => by
    by_cases c : acc.length < want
    · rw [rl, if_pos c] at h0 ⊢
      by_cases c1 : trE C row p ≠ 0
      · rw [if_pos c1] at h0; simp at h0
      · rw [if_neg c1] at h0 ⊢
        by_cases c2 : nxS C row p = 16 ∧ acc = []
        · rw [if_pos c2] at h0; simp at h0
        · rw [if_neg c2] at h0 ⊢
          by_cases c3 : (want : Int) < acc.length + trC C row p
          · rw [if_pos c3] at h0; simp at h0
          · rw [if_neg c3] at h0 ⊢
            have ht := tr_bound (C := C) hb p
            refine rl_facts hb want f _ _ ?_ ?_ (lay_in ha (by show (0 : Int) ≤ (nxS C row p : Nat); omega)) h0
            · rw [lay_len]; show want - (acc.length + (trC C row p).toNat) ≤ f; omega
            · rw [lay_len]; show acc.length + (trC C row p).toNat ≤ want; omega
    · rw [rl, if_neg c]
      exact ⟨by show acc.length = want; omega, ha⟩

theorem rl_err {C row : List Int} (want : Nat) : ∀ f acc p, (rl C row want f acc p).1 ≠ 0 → (rl C row want f acc p).1 = 70 ∨ (rl C row want f acc p).1 = 73 ∨ (rl C row want f acc p).1 = 74
  | 0, acc, p, h => by simp [rl] at h
  | f + 1, acc, p, h => by
    by_cases c : acc.length < want
    · rw [rl, if_pos c] at h ⊢
      by_cases c1 : trE C row p ≠ 0
      · rw [if_pos c1]; simp
      · rw [if_neg c1] at h ⊢
        by_cases c2 : nxS C row p = 16 ∧ acc = []
        · rw [if_pos c2]; simp
        · rw [if_neg c2] at h ⊢
          by_cases c3 : (want : Int) < acc.length + trC C row p
          · rw [if_pos c3]; simp
          · rw [if_neg c3] at h ⊢
            exact rl_err want f _ _ h
    · rw [rl, if_neg c] at h; simp at h
end Go.Proofs.YtiabhmdefaabgaaDoor

