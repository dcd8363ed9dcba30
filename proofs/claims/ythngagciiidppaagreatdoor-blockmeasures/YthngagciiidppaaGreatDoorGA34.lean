import Derived.Test.YthngagciiidppaaGreatDoorGA29
import Derived.Test.YthngagciiidppaaGreatDoorGA33
import Derived.Test.YthngagciiidppaaGreatDoorGA28
namespace Go.Proofs.YthngagciiidppaaGreatDoor
open Go.RowKit Go.Maps
set_option linter.unusedVariables false

/-- The three counts, and their error. -/
def rcL (row : List Int) (p : Nat) : Nat := 257 + (ahead row p 14 % 32).toNat
def rcD (row : List Int) (p : Nat) : Nat := 1 + (ahead row p 14 / 32 % 32).toNat
def rcN (row : List Int) (p : Nat) : Nat := 4 + (ahead row p 14 / 1024).toNat
def rcE (row : List Int) (p : Nat) : Int := if row.length < p + 14 then 70 else if 286 < rcL row p ∨ 30 < rcD row p then 71 else 0

/-- The small code's lengths, and their error. -/
def smC (row : List Int) (p : Nat) : Nat → List Int
  | 0 => List.replicate 19 0
  | n + 1 => (smC row p n).set (zor.getD n 0).toNat (ahead row (p + 3 * n) 3)
def smE (row : List Int) (p n : Nat) : Int := if row.length < p + 3 * n then 70 else if chkS (smC row p n) ≠ 4 then 72 else 0

/-- One run: its error, its count, where it ends. -/
noncomputable def trE (C row : List Int) (p : Nat) : Int := if nxE C row p ≠ 0 then 70 else if row.length < nxP C row p + frt (nxS C row p : Nat) then 70 else 0
noncomputable def trC (C row : List Int) (p : Nat) : Int := lst (nxS C row p : Nat) + ahead row (nxP C row p) (frt (nxS C row p : Nat))
noncomputable def trP (C row : List Int) (p : Nat) : Nat := nxP C row p + frt (nxS C row p : Nat)

/-- The lengths, run by run. -/
noncomputable def rl (C row : List Int) (want : Nat) : Nat → List Int → Nat → Int × List Int × Nat
  | 0, acc, p => (0, acc, p)
  | f + 1, acc, p =>
    if acc.length < want then
      if trE C row p ≠ 0 then (70, [], p)
      else if nxS C row p = 16 ∧ acc = [] then (73, [], p)
      else if (want : Int) < acc.length + trC C row p then (74, [], p)
      else rl C row want f (lay acc ((nxS C row p : Nat), trC C row p)) (trP C row p)
    else (0, acc, p)

/-- What Read answers: the error, the two lists, where it stands then. -/
noncomputable def rdA (row : List Int) (p : Nat) : Int × List Int × List Int × Nat :=
  if rcE row p ≠ 0 then (rcE row p, [], [], p) else
  if smE row (p + 14) (rcN row p) ≠ 0 then (smE row (p + 14) (rcN row p), [], [], p) else
  if (rl (smC row (p + 14) (rcN row p)) row (rcL row p + rcD row p) (rcL row p + rcD row p) [] (p + 14 + 3 * rcN row p)).1 ≠ 0 then ((rl (smC row (p + 14) (rcN row p)) row (rcL row p + rcD row p) (rcL row p + rcD row p) [] (p + 14 + 3 * rcN row p)).1, [], [], p) else
  if hck ((rl (smC row (p + 14) (rcN row p)) row (rcL row p + rcD row p) (rcL row p + rcD row p) [] (p + 14 + 3 * rcN row p)).2.1.take (rcL row p)) ((rl (smC row (p + 14) (rcN row p)) row (rcL row p + rcD row p) (rcL row p + rcD row p) [] (p + 14 + 3 * rcN row p)).2.1.drop (rcL row p)) ≠ 0 then (hck ((rl (smC row (p + 14) (rcN row p)) row (rcL row p + rcD row p) (rcL row p + rcD row p) [] (p + 14 + 3 * rcN row p)).2.1.take (rcL row p)) ((rl (smC row (p + 14) (rcN row p)) row (rcL row p + rcD row p) (rcL row p + rcD row p) [] (p + 14 + 3 * rcN row p)).2.1.drop (rcL row p)), [], [], p) else
  (0, (rl (smC row (p + 14) (rcN row p)) row (rcL row p + rcD row p) (rcL row p + rcD row p) [] (p + 14 + 3 * rcN row p)).2.1.take (rcL row p), (rl (smC row (p + 14) (rcN row p)) row (rcL row p + rcD row p) (rcL row p + rcD row p) [] (p + 14 + 3 * rcN row p)).2.1.drop (rcL row p), (rl (smC row (p + 14) (rcN row p)) row (rcL row p + rcD row p) (rcL row p + rcD row p) [] (p + 14 + 3 * rcN row p)).2.2)

theorem rd_c {row : List Int} {p : Nat} (h : rcE row p ≠ 0) : rdA row p = (rcE row p, [], [], p) := by unfold rdA; rw [if_pos h]
theorem rd_s {row : List Int} {p : Nat} (h : rcE row p = 0) (h2 : smE row (p + 14) (rcN row p) ≠ 0) : rdA row p = (smE row (p + 14) (rcN row p), [], [], p) := by unfold rdA; rw [if_neg (by simp [h]), if_pos h2]
theorem rd_l {row : List Int} {p : Nat} {x : Int × List Int × Nat} (h : rcE row p = 0) (h2 : smE row (p + 14) (rcN row p) = 0) (hx : rl (smC row (p + 14) (rcN row p)) row (rcL row p + rcD row p) (rcL row p + rcD row p) [] (p + 14 + 3 * rcN row p) = x) :
    rdA row p = if x.1 ≠ 0 then (x.1, [], [], p) else if hck (x.2.1.take (rcL row p)) (x.2.1.drop (rcL row p)) ≠ 0 then (hck (x.2.1.take (rcL row p)) (x.2.1.drop (rcL row p)), [], [], p) else (0, x.2.1.take (rcL row p), x.2.1.drop (rcL row p), x.2.2) := by
  unfold rdA
  rw [if_neg (by simp [h]), if_neg (by simp [h2]), hx]

theorem lst_pos (s : Int) : 1 ≤ lst s ∧ lst s ≤ 11 := by unfold lst; split <;> (try split) <;> omega

theorem tr_bound {C row : List Int} (hb : Bit row) (p : Nat) : 1 ≤ trC C row p ∧ trC C row p ≤ 138 := by
  unfold trC
  have h1 := ahead_bound hb (nxP C row p) (frt (nxS C row p : Nat))
  have h2 := lst_pos (nxS C row p : Nat)
  refine ⟨by omega, ?_⟩
  by_cases c : ((nxS C row p : Nat) : Int) < 16
  · have e1 : frt (nxS C row p : Nat) = 0 := by unfold frt; rw [if_pos c]
    rw [e1] at h1 ⊢
    have := h1.2
    simp at this
    omega
  · by_cases c2 : ((nxS C row p : Nat) : Int) < 18
    · have e1 : frt (nxS C row p : Nat) ≤ 3 := by unfold frt; rw [if_neg c]; split; omega; split <;> omega
      have := pow_le e1
      have e3 : (2 : Int) ^ 3 = 8 := by decide
      omega
    · have e1 : frt (nxS C row p : Nat) = 7 := by unfold frt; rw [if_neg c, if_neg (by omega), if_neg (by omega)]
      rw [e1] at h1 ⊢
      have e3 : (2 : Int) ^ 7 = 128 := by decide
      omega

theorem lay_in {a : List Int} {r : Rn} (h : ∀ x ∈ a, 0 ≤ x ∧ x ≤ 15) (h0 : 0 ≤ r.1) : ∀ x ∈ lay a r, 0 ≤ x ∧ x ≤ 15 := by
  intro x hx
  unfold lay at hx
  rcases List.mem_append.1 hx with q | q
  · exact h x q
  · rw [List.eq_of_mem_replicate q]
    unfold mnt
    split
    · omega
    · split
      · rw [List.getD_eq_getElem?_getD]
        cases e : a[a.length - 1]? with
        | none => simp
        | some y => exact h y (List.mem_of_getElem? e)
      · omega

/-- What comes of it: so many lengths, each of them one. -/
theorem rl_facts {C row : List Int} (hb : Bit row) (want : Nat) : ∀ f acc p, want - acc.length ≤ f → acc.length ≤ want → (∀ x ∈ acc, 0 ≤ x ∧ x ≤ 15) → (rl C row want f acc p).1 = 0 → (rl C row want f acc p).2.1.length = want ∧ ∀ x ∈ (rl C row want f acc p).2.1, 0 ≤ x ∧ x ≤ 15
  | 0, acc, p, hf, hl, ha, _ => ⟨by show acc.length = want; omega, ha⟩
  | f + 1, acc, p, hf, hl, ha, h0 => by
    by_cases c : acc.length < want
    · rw [rl, if_pos c] at h0 ⊢
      by_cases c1 : trE C row p ≠ 0
      · rw [if_pos c1] at h0; simp at h0
      · rw [if_neg c1] at h0 ⊢
        by_cases c2 : nxS C row p = 16 ∧ acc = []
        · rw [if_pos c2] at h0; simp at h0
        · rw [if_neg c2] at h0 ⊢
          by_cases c3 : (want : Int) < acc.length + trC C row p
          · rw [if_pos c3] at h0; simp at h0
          · rw [if_neg c3] at h0 ⊢
            have ht := tr_bound (C := C) hb p
            refine rl_facts hb want f _ _ ?_ ?_ (lay_in ha (by show (0 : Int) ≤ (nxS C row p : Nat); omega)) h0
            · rw [lay_len]; show want - (acc.length + (trC C row p).toNat) ≤ f; omega
            · rw [lay_len]; show acc.length + (trC C row p).toNat ≤ want; omega
    · rw [rl, if_neg c]
      exact ⟨by show acc.length = want; omega, ha⟩

theorem rl_err {C row : List Int} (want : Nat) : ∀ f acc p, (rl C row want f acc p).1 ≠ 0 → (rl C row want f acc p).1 = 70 ∨ (rl C row want f acc p).1 = 73 ∨ (rl C row want f acc p).1 = 74
  | 0, acc, p, h => by simp [rl] at h
  | f + 1, acc, p, h => by
    by_cases c : acc.length < want
    · rw [rl, if_pos c] at h ⊢
      by_cases c1 : trE C row p ≠ 0
      · rw [if_pos c1]; simp
      · rw [if_neg c1] at h ⊢
        by_cases c2 : nxS C row p = 16 ∧ acc = []
        · rw [if_pos c2]; simp
        · rw [if_neg c2] at h ⊢
          by_cases c3 : (want : Int) < acc.length + trC C row p
          · rw [if_pos c3]; simp
          · rw [if_neg c3] at h ⊢
            exact rl_err want f _ _ h
    · rw [rl, if_neg c] at h; simp at h
end Go.Proofs.YthngagciiidppaaGreatDoor

namespace Go.Proofs.YthngagciiidppaaGreatDoor
open Go.RowKit Go.Maps
set_option maxRecDepth 20000
set_option linter.unusedVariables false

theorem lay_more (a : List Int) (k : Nat) (x : Int) : a ++ List.replicate (k + 1) x = (a ++ List.replicate k x) ++ [x] := by
  rw [List.replicate_succ', List.append_assoc]

/-- How many lengths runs stand for. -/
def tot (R : List Rn) : Nat := (lays [] R).length

theorem tot_snoc (R : List Rn) (p : Rn) : tot (R ++ [p]) = tot R + p.2.toNat := by unfold tot; rw [lays_snoc, lay_len]
theorem rn_snoc {R : List Rn} {k : Nat} (h : k < R.length) : R.take (k + 1) = R.take k ++ [R.getD k rn0] := by
  rw [List.take_succ_eq_append_getElem h]
  simp [h]

theorem xpE_snoc : ∀ (S : List Rn) (a : List Int) (r : Rn), xpE a S = 0 → xpE a (S ++ [r]) = if Okr r then if r.1 = 16 ∧ lays a S = [] then 73 else 0 else 77
  | [], a, r, _ => rfl
  | q :: S, a, r, h => by
    simp only [xpE] at h
    by_cases h1 : Okr q
    · rw [if_pos h1] at h
      by_cases h2 : q.1 = 16 ∧ a = []
      · rw [if_pos h2] at h; omega
      · rw [if_neg h2] at h
        have := xpE_snoc S (lay a q) r h
        simp only [List.cons_append, xpE]
        rw [if_pos h1, if_neg h2]
        exact this
    · rw [if_neg h1] at h; omega

theorem xpE_front : ∀ (S T : List Rn) (a : List Int), xpE a S ≠ 0 → xpE a (S ++ T) = xpE a S
  | [], T, a, h => absurd rfl h
  | q :: S, T, a, h => by
    simp only [List.cons_append, xpE] at h ⊢
    by_cases h1 : Okr q
    · rw [if_pos h1] at h ⊢
      by_cases h2 : q.1 = 16 ∧ a = []
      · rw [if_pos h2]; rw [if_pos h1, if_pos h2]
      · rw [if_neg h2] at h ⊢
        rw [if_pos h1, if_neg h2]
        exact xpE_front S T (lay a q) h
    · rw [if_neg h1, if_neg h1]

/-- The first run that has an error tells it. -/
theorem xpE_at {R : List Rn} {k : Nat} (hk : k < R.length) (h0 : xpE [] (R.take k) = 0) :
    (¬ Okr (R.getD k rn0) → xpE [] R = 77) ∧ (Okr (R.getD k rn0) → (R.getD k rn0).1 = 16 → tot (R.take k) = 0 → xpE [] R = 73) ∧ (Okr (R.getD k rn0) → ((R.getD k rn0).1 = 16 → tot (R.take k) ≠ 0) → xpE [] (R.take (k + 1)) = 0) := by
  have e := xpE_snoc (R.take k) [] (R.getD k rn0) h0
  rw [← rn_snoc hk] at e
  have ez : lays [] (R.take k) = [] ↔ tot (R.take k) = 0 := by unfold tot; exact List.length_eq_zero_iff.symm
  have key : xpE [] (R.take (k + 1)) ≠ 0 → xpE [] R = xpE [] (R.take (k + 1)) := fun h => by
    have := xpE_front (R.take (k + 1)) (R.drop (k + 1)) [] h
    rwa [List.take_append_drop] at this
  refine ⟨fun h => ?_, fun h h1 h2 => ?_, fun h h1 => ?_⟩
  · rw [if_neg h] at e
    rw [key (by omega), e]
  · rw [if_pos h, if_pos ⟨h1, ez.2 h2⟩] at e
    rw [key (by omega), e]
  · rw [if_pos h, if_neg (fun q => h1 q.1 (ez.1 q.2))] at e
    exact e

theorem okr_parts {r : Rn} (h : Okr r) : ∃ s c : Nat, r = ((s : Int), (c : Int)) ∧ s < 19 ∧ lst s ≤ c ∧ (c : Int) ≤ mst s ∧ 1 ≤ c ∧ c ≤ 138 := by
  obtain ⟨a, b⟩ := r
  obtain ⟨h1, h2, h3, h4⟩ := h
  simp only at h1 h2 h3 h4
  obtain ⟨s, rfl⟩ := Int.eq_ofNat_of_zero_le h1
  have hs : s < 19 := by omega
  have hb : 1 ≤ b ∧ b ≤ 138 := by
    rcases tab_cases s hs with ⟨x, _, y⟩ | ⟨x, _, y⟩ | ⟨x, _, y⟩ | ⟨x, _, y⟩ <;> rw [x] at h3 <;> rw [y] at h4 <;> omega
  obtain ⟨c, rfl⟩ := Int.eq_ofNat_of_zero_le (show 0 ≤ b by omega)
  exact ⟨s, c, rfl, hs, h3, h4, by omega, by omega⟩

theorem tot_lem {R : List Rn} (h : xpE [] R = 0) : ∀ k, k ≤ R.length → xpE [] (R.take k) = 0 ∧ tot (R.take k) ≤ 138 * k := by
  intro k
  induction k with
  | zero => intro _; exact ⟨rfl, by simp [tot, lays]⟩
  | succ k ih =>
    intro hk
    obtain ⟨i1, i2⟩ := ih (by omega)
    obtain ⟨x1, x2, x3⟩ := xpE_at (k := k) (by omega) i1
    by_cases ok : Okr (R.getD k rn0)
    · obtain ⟨s, c, e, _, _, _, _, hc⟩ := okr_parts ok
      by_cases z : (R.getD k rn0).1 = 16 ∧ tot (R.take k) = 0
      · have := x2 ok z.1 z.2; omega
      · refine ⟨x3 ok (fun q q2 => z ⟨q, q2⟩), ?_⟩
        rw [rn_snoc (by omega), tot_snoc, e]
        simp only [Int.toNat_natCast]
        omega
    · have := x1 ok; omega

end Go.Proofs.YthngagciiidppaaGreatDoor

namespace Go.Proofs.YthngagciiidppaaGreatDoor
open Go.RowKit Go.Maps
set_option maxRecDepth 20000
set_option linter.unusedVariables false

theorem xlengths_any (v : Value) (l : List Int) (w : World) (h : SI w v l) :
    Calls Tryz.prog 35 #[v] w fun e w' => e = .returned (.bool (wthb l)) ∧ w' = w := by
  have HS := hide h
  obtain ⟨ao, cap, rfl, hlc, hcm⟩ := h.open
  clear h
  go_enter Tryz.func35, Tryz.ntmps35
  go_wp2
  go_loopw [3] (fun i wr => ∃ k : Nat, k ≤ l.length ∧ i = .int .i64 k ∧ wr = w ∧ Hid (∀ x ∈ l.take k, 0 ≤ x ∧ x ≤ 15)) (fun i _ => l.length - (intOf i).toNat)
  case atStart => exact ⟨0, Nat.zero_le _, rfl, rfl, fun x hx => by simp at hx⟩
  case round =>
    obtain ⟨k, hk, rfl, hw, HA⟩ := hrel
    subst hw
    by_cases hlt : k < l.length
    · have hlt' : (k : Int) < (l.length : Int) := by omega
      obtain ⟨b, o, rfl, hc⟩ := HS.out.get (Below.refl _ _) hlt
      have HN := hide (fun q => all_snoc hlt HA.out q)
      have HB := hide (fun q => wth_bad hlt q)
      obtain ⟨y, HY⟩ : ∃ y, Hid (y = l.getD k 0) := ⟨_, rfl⟩
      rw [← HY.out] at hc HN HB
      by_cases h0 : y < 0
      · have HF : Hid (wthb l = false) := HB.out (by omega)
        go_wp2
        go_ret
        rw [HF.out]
        exact ⟨rfl, rfl⟩
      · by_cases h15 : 15 < y
        · have HF : Hid (wthb l = false) := HB.out (by omega)
          go_wp2
          go_ret
          rw [HF.out]
          exact ⟨rfl, rfl⟩
        · have HN2 := hide (HN.out ⟨by omega, by omega⟩)
          go_wp2
          go_roundw
          case rel => exact ⟨k + 1, by omega, by go_num, trivial, HN2⟩
          case measure => simp [intOf]; omega
    · obtain rfl : k = l.length := by omega
      have hlt' : ¬ (l.length : Int) < (l.length : Int) := by omega
      have HF : Hid (wthb l = true) := wth_iff.2 (by have := HA.out; rwa [List.take_of_length_le (Nat.le_refl _)] at this)
      go_wp2
      go_ret
      rw [HF.out]
      exact ⟨rfl, rfl⟩

theorem lesser_any (a b : Nat) (w : World) : Calls Tryz.prog 84 #[.int .i64 a, .int .i64 b] w fun e w' => e = .returned (.int .i64 (min a b : Nat)) ∧ w' = w := by
  by_cases h : a < b
  · have h' : (a : Int) < (b : Int) := by omega
    have HM : Hid (min a b = a) := by show _ = _; omega
    go_enter Tryz.func84, Tryz.ntmps84
    go_wp2
    go_ret
    rw [HM.out]
    exact ⟨rfl, rfl⟩
  · have h' : ¬ (a : Int) < (b : Int) := by omega
    have HM : Hid (min a b = b) := by show _ = _; omega
    go_enter Tryz.func84, Tryz.ntmps84
    go_wp2
    go_ret
    rw [HM.out]
    exact ⟨rfl, rfl⟩

set_option maxHeartbeats 1000000 in
theorem equals_any (k : Nat) (v : Value) (l : List Int) (w : World) (h : SI w v l) (hk : k < l.length) (hn : l.length ≤ 1048576) :
    Calls Tryz.prog 83 #[v, .int .i64 k] w fun e w' => e = .returned (.int .i64 (eqn (l.getD k 0) (l.drop k) : Nat)) ∧ ∃ q, w' = w.drewN q := by
  have HS := hide h
  obtain ⟨ao, cap, rfl, hlc, hcm⟩ := h.open
  clear h
  obtain ⟨b, o, rfl, c0⟩ := HS.out.get (Below.refl _ _) hk
  have HG : Hid (∀ j, k + j < l.length → w.cell? ⟨b, o + (k + j), none⟩ = some (.int .i64 ((l.drop k).getD j 0))) := fun j hj => by
    obtain ⟨b', o', e, c⟩ := HS.out.get (Below.refl _ _) hj
    simp only [Option.some.injEq, Addr.mk.injEq, and_true] at e
    obtain ⟨rfl, rfl⟩ := e
    rw [c]
    simp only [List.getD_eq_getElem?_getD, List.getElem?_drop]
  obtain ⟨V, HV⟩ : ∃ V, Hid (V = l.getD k 0) := ⟨_, rfl⟩
  rw [← HV.out] at c0 ⊢
  obtain ⟨D, HD⟩ : ∃ D, Hid (D = l.drop k) := ⟨_, rfl⟩
  rw [← HD.out] at HG ⊢
  have HDL : Hid (D.length = l.length - k) := by show _ = _; rw [HD.out, List.length_drop]
  clear HV HD HS
  go_enter Tryz.func83, Tryz.ntmps83
  go_wp2
  go_loopw [5] (fun i wr => ∃ j q : Nat, k + j ≤ l.length ∧ i = .int .i64 j ∧ wr = w.drewN q ∧ Hid (j ≤ eqn V D)) (fun i _ => l.length - (intOf i).toNat)
  case atStart => exact ⟨0, 0, by omega, rfl, rfl, Nat.zero_le _⟩
  case round =>
    obtain ⟨j, q, hj, rfl, hw, HJ⟩ := hrel
    subst hw
    by_cases hlt : k + j < l.length
    · have hlt' : (k : Int) + (j : Int) < (l.length : Int) := by omega
      have hk' : (k : Int) < (l.length : Int) := by omega
      have cj : (w.drewN q).cell? ⟨b, o + (k + j), none⟩ = some (.int .i64 (D.getD j 0)) := HG.out j hlt
      have cj2 : w.cell? ⟨b, o + (k + j), none⟩ = some (.int .i64 (D.getD j 0)) := cj
      have HGO := hide (eqn_go HJ.out (by rw [HDL.out]; omega))
      obtain ⟨y, HY⟩ : ∃ y, Hid (y = D.getD j 0) := ⟨_, rfl⟩
      rw [← HY.out] at cj cj2 HGO
      have en : ((k : Int) + (j : Int)).toNat = k + j := by omega
      by_cases hy : y = V
      · subst hy
        have HJ2 := hide (HGO.out.1 rfl)
        go_wp2
        go_quiet (fail)
        go_wp2
        go_roundw
        case rel => exact ⟨j + 1, _, by omega, by go_num, by (try simp only [World.drewN_drewN]); rfl, HJ2⟩
        case measure => simp [intOf]; omega
      · have hy' : (y == V) = false := by simpa using hy
        have HE : Hid (eqn V D = j) := HGO.out.2 hy
        go_wp2
        go_quiet (fail)
        go_wp2
        go_ret
        rw [HE.out]
        exact ⟨rfl, _, by (try simp only [World.drewN_drewN]); rfl⟩
    · have hlt' : ¬ (k : Int) + (j : Int) < (l.length : Int) := by omega
      have hd : decide ((k : Int) + (j : Int) < (l.length : Int)) = false := decide_eq_false hlt'
      have HE : Hid (eqn V D = j) := by
        show _ = _
        have := eqn_le V D
        have h1 := HJ.out
        have h2 := HDL.out
        omega
      go_wp2
      go_quiet (fail)
      go_wp2
      go_ret
      rw [HE.out]
      exact ⟨rfl, _, by (try simp only [World.drewN_drewN]); rfl⟩
end Go.Proofs.YthngagciiidppaaGreatDoor

namespace Go.Proofs.YthngagciiidppaaGreatDoor
open Go.RowKit Go.Maps
set_option maxRecDepth 20000
set_option linter.unusedVariables false

theorem shr_div : ∀ y : Fin 16, (32768 : Int) / 2 ^ y.val = ((2 ^ (15 - y.val) : Nat) : Int) := by decide

theorem sums_snoc {l : List Int} {k : Nat} (h : k < l.length) : usum (l.take (k + 1)) = usum (l.take k) + wt (l.getD k 0) ∧ tsum (l.take (k + 1)) = tsum (l.take k) + one (l.getD k 0) := by
  have e : l.take (k + 1) = l.take k ++ [l.getD k 0] := by rw [List.take_succ_eq_append_getElem h]; simp [h]
  rw [e]
  simp [usum, tsum]

theorem sums_le (l : List Int) : usum l ≤ l.length * 32768 ∧ tsum l ≤ l.length := by
  induction l with
  | nil => simp [usum, tsum]
  | cons a l ih =>
    have h1 : wt a ≤ 32768 := by
      unfold wt
      split
      · exact Nat.pow_le_pow_right (n := 2) (by decide) (show 15 - a.toNat ≤ 15 by omega)
      · omega
    have h2 : one a ≤ 1 := by unfold one; split <;> omega
    simp only [usum, tsum, List.map_cons, List.sum_cons, List.length_cons] at ih ⊢
    omega

/-- Is the code complete, or a single word of one bit? -/
def ful (l : List Int) : Bool := decide (usum l = 32768 ∨ (tsum l = 1 ∧ usum l = 16384))

/-- The error that Make must answer, by Kraft's sum alone. -/
def vdE (l d : List Int) : Int := if 286 < l.length ∨ 30 < d.length ∨ wthb l = false ∨ wthb d = false then 1 else if l.length < 257 ∨ l.getD 256 0 = 0 ∨ ful l = false then 75 else if 0 < tsum d ∧ ful d = false then 76 else 0
end Go.Proofs.YthngagciiidppaaGreatDoor

