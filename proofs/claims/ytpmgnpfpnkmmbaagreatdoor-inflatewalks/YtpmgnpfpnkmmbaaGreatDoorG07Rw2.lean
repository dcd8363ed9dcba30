import Derived.Test.YtpmgnpfpnkmmbaaGreatDoorG06Dcd
import Derived.Test.YtpmgnpfpnkmmbaaGreatDoorG03Drr
import Derived.Test.YtpmgnpfpnkmmbaaGreatDoorG00Ints
import Derived.Test.YtpmgnpfpnkmmbaaGreatDoorG02Mk2
namespace Go.Proofs.YtpmgnpfpnkmmbaaGreatDoor
open Go.RowKit Go.Maps
set_option maxRecDepth 20000

theorem putOk_of {row : List Int} {v : Int} {n : Nat} (h1 : v < 2 ^ n) (h2 : n ≤ 32) (h3 : row.length + n ≤ 268435456) : putOk row v n := ⟨⟨⟨by omega, by omega⟩, by simpa using h1⟩, by omega⟩

theorem putE_ok {row : List Int} {v : Int} {n : Nat} (h : putOk row v n) : putE row v n = 0 ∧ putRow row v n = row ++ bts v n := ⟨if_pos h, by unfold putRow; rw [if_pos h]; rfl⟩

theorem takeOk_of {row : List Int} {p n : Nat} (h1 : n ≤ 32) (h2 : p + n ≤ row.length) : takeOk row p n := ⟨⟨by omega, by omega⟩, by omega⟩

theorem take_ok {row : List Int} {p n : Nat} (h : takeOk row p n) : takeE row p n = 0 ∧ takeV row p n = ahead row p n ∧ takeP row p n = p + n :=
  ⟨by unfold takeE; rw [if_pos h.1, if_pos h.2], by unfold takeV; rw [if_pos h]; rfl, by unfold takeP; rw [if_pos h]; rfl⟩

theorem skip_ok {row : List Int} {p n : Nat} (h : p + n ≤ row.length) : skipE row p n = 0 ∧ skipP row p n = p + n :=
  ⟨by unfold skipE; rw [if_neg (by omega), if_pos (by omega)], by unfold skipP; rw [if_neg (by omega), if_pos (by omega)]; rfl⟩

theorem ahead_at {row : List Int} {p n : Nat} {x y : List Int} (h : row.drop p = x ++ y) (hx : x.length = n) : ahead row p n = val x := by
  unfold ahead
  rw [h, List.take_append_of_le_length (by omega), List.take_of_length_le (by omega)]

/-- A number within n bits. -/
theorem low_in (v : Int) {n : Nat} (hn : n ≤ 32) : 0 ≤ v % 2 ^ n ∧ v % 2 ^ n < 2 ^ n ∧ v % 2 ^ n < 4294967296 := by
  have hp32 : (2 : Int) ^ n ≤ 2 ^ 32 := pow_le hn
  have hpn := pow_pos n
  have h1 : 0 ≤ v % 2 ^ n := Int.emod_nonneg _ (by omega)
  have h2 : v % 2 ^ n < 2 ^ n := Int.emod_lt_of_pos _ hpn
  exact ⟨h1, h2, by omega⟩

theorem bts_get (v : Int) {n j : Nat} (h : j < n) : (bts v n)[j]? = some (v / 2 ^ j % 2) := by
  have hs := bts_split v j (n - j)
  rw [show j + (n - j) = n by omega] at hs
  rw [hs, List.getElem?_append_right (by rw [length_bts]; omega), length_bts, Nat.sub_self]
  obtain ⟨m, hm⟩ : ∃ m, n - j = m + 1 := ⟨n - j - 1, by omega⟩
  rw [hm]
  rfl

theorem unpack_get {l : List Int} {k j : Nat} {b : Int} (hk : l[k]? = some b) (hj : j < 8) : (unpack l)[8 * k + j]? = some (b / 2 ^ j % 2) := by
  obtain ⟨hkl, rfl⟩ := List.getElem?_eq_some_iff.1 hk
  have e : unpack l = unpack (l.take k) ++ (bts l[k] 8 ++ unpack (l.drop (k + 1))) := by
    conv => lhs; rw [← List.take_append_drop k l]
    rw [unpack_append, List.drop_eq_getElem_cons hkl, unpack_cons]
  have hl : (unpack (l.take k)).length = 8 * k := by rw [length_unpack, List.length_take]; omega
  rw [e, List.getElem?_append_right (by omega), hl, show 8 * k + j - 8 * k = j by omega, List.getElem?_append_left (by rw [length_bts]; exact hj)]
  exact bts_get _ hj

theorem ahead_one {U : List Int} {p : Nat} {x : Int} (h : U[p]? = some x) : ahead U p 1 = x := by
  obtain ⟨hp, rfl⟩ := List.getElem?_eq_some_iff.1 h
  rw [ahead_at (n := 1) (x := [U[p]]) (y := U.drop (p + 1)) (by rw [List.drop_eq_getElem_cons hp]; rfl) rfl]
  simp [val]

theorem take_one {U : List Int} {p : Nat} {x : Int} (h : U[p]? = some x) : U.take (p + 1) = U.take p ++ [x] := by
  obtain ⟨hp, rfl⟩ := List.getElem?_eq_some_iff.1 h
  exact List.take_succ_eq_append_getElem hp

/-- A byte of a list that was there. -/
theorem SB.byte {W w : World} {ao : Option Addr} {cap : Nat} {l : List Int} (h : SB W (.slice ao l.length cap) l) (hb : Below W.heap.size W w) {k : Nat} (hk : k < l.length) : ∃ b o, ao = some ⟨b, o, none⟩ ∧ w.cell? ⟨b, o + k, none⟩ = some (.int .u8 (l.getD k 0)) := by
  obtain ⟨ao', cap', hue, hc1, hc2, hc3, hc4⟩ := h
  simp only [Value.slice.injEq] at hue
  obtain ⟨rfl, -, rfl⟩ := hue
  cases ao with
  | none => have := hc3 rfl; omega
  | some x0 =>
    obtain ⟨b, o, rfl⟩ := addr_lit (hc4 x0 rfl 0 (by omega))
    have hc := hc4 _ rfl k hk
    have hbl := World.block_lt_of_cell? _ _ hc
    rw [Addr.add_lit] at hc hbl
    exact ⟨b, o, rfl, (hb.cell hbl).trans hc⟩

theorem SB.cap {W : World} {ao : Option Addr} {cap : Nat} {l : List Int} (h : SB W (.slice ao l.length cap) l) : l.length ≤ cap ∧ cap ≤ 9223372036854775807 := by
  obtain ⟨ao', cap', hue, hc1, hc2, _⟩ := h
  simp only [Value.slice.injEq] at hue
  obtain ⟨-, -, rfl⟩ := hue
  unfold maxLen at hc2
  exact ⟨hc1, hc2⟩

end Go.Proofs.YtpmgnpfpnkmmbaaGreatDoor

namespace Go.Proofs.YtpmgnpfpnkmmbaaGreatDoor
open Go.RowKit Go.Maps
set_option linter.unusedVariables false

/-- The three counts, and their error. -/
def rcL (row : List Int) (p : Nat) : Nat := 257 + (ahead row p 14 % 32).toNat
def rcD (row : List Int) (p : Nat) : Nat := 1 + (ahead row p 14 / 32 % 32).toNat
def rcN (row : List Int) (p : Nat) : Nat := 4 + (ahead row p 14 / 1024).toNat
def rcE (row : List Int) (p : Nat) : Int := if row.length < p + 14 then 70 else if 286 < rcL row p ∨ 30 < rcD row p then 71 else 0

/-- The small code's lengths, and their error. -/
def smC (row : List Int) (p : Nat) : Nat → List Int
  | 0 => List.replicate 19 0
  | n + 1 => (smC row p n).set (zor.getD n 0).toNat (ahead row (p + 3 * n) 3)
def smE (row : List Int) (p n : Nat) : Int := if row.length < p + 3 * n then 70 else if chkS (smC row p n) ≠ 4 then 72 else 0

/-- One run: its error, its count, where it ends. -/
noncomputable def trE (C row : List Int) (p : Nat) : Int := if nxE C row p ≠ 0 then 70 else if row.length < nxP C row p + frt (nxS C row p : Nat) then 70 else 0
noncomputable def trC (C row : List Int) (p : Nat) : Int := lst (nxS C row p : Nat) + ahead row (nxP C row p) (frt (nxS C row p : Nat))
noncomputable def trP (C row : List Int) (p : Nat) : Nat := nxP C row p + frt (nxS C row p : Nat)

/-- The lengths, run by run. -/
noncomputable def rl (C row : List Int) (want : Nat) : Nat → List Int → Nat → Int × List Int × Nat
  | 0, acc, p => (0, acc, p)
  | f + 1, acc, p =>
    if acc.length < want then
      if trE C row p ≠ 0 then (70, [], p)
      else if nxS C row p = 16 ∧ acc = [] then (73, [], p)
      else if (want : Int) < acc.length + trC C row p then (74, [], p)
      else rl C row want f (lay acc ((nxS C row p : Nat), trC C row p)) (trP C row p)
    else (0, acc, p)

/-- What Read answers: the error, the two lists, where it stands then. -/
noncomputable def rdA (row : List Int) (p : Nat) : Int × List Int × List Int × Nat :=
  if rcE row p ≠ 0 then (rcE row p, [], [], p) else
  if smE row (p + 14) (rcN row p) ≠ 0 then (smE row (p + 14) (rcN row p), [], [], p) else
  if (rl (smC row (p + 14) (rcN row p)) row (rcL row p + rcD row p) (rcL row p + rcD row p) [] (p + 14 + 3 * rcN row p)).1 ≠ 0 then ((rl (smC row (p + 14) (rcN row p)) row (rcL row p + rcD row p) (rcL row p + rcD row p) [] (p + 14 + 3 * rcN row p)).1, [], [], p) else
  if hck ((rl (smC row (p + 14) (rcN row p)) row (rcL row p + rcD row p) (rcL row p + rcD row p) [] (p + 14 + 3 * rcN row p)).2.1.take (rcL row p)) ((rl (smC row (p + 14) (rcN row p)) row (rcL row p + rcD row p) (rcL row p + rcD row p) [] (p + 14 + 3 * rcN row p)).2.1.drop (rcL row p)) ≠ 0 then (hck ((rl (smC row (p + 14) (rcN row p)) row (rcL row p + rcD row p) (rcL row p + rcD row p) [] (p + 14 + 3 * rcN row p)).2.1.take (rcL row p)) ((rl (smC row (p + 14) (rcN row p)) row (rcL row p + rcD row p) (rcL row p + rcD row p) [] (p + 14 + 3 * rcN row p)).2.1.drop (rcL row p)), [], [], p) else
  (0, (rl (smC row (p + 14) (rcN row p)) row (rcL row p + rcD row p) (rcL row p + rcD row p) [] (p + 14 + 3 * rcN row p)).2.1.take (rcL row p), (rl (smC row (p + 14) (rcN row p)) row (rcL row p + rcD row p) (rcL row p + rcD row p) [] (p + 14 + 3 * rcN row p)).2.1.drop (rcL row p), (rl (smC row (p + 14) (rcN row p)) row (rcL row p + rcD row p) (rcL row p + rcD row p) [] (p + 14 + 3 * rcN row p)).2.2)

theorem rd_c {row : List Int} {p : Nat} (h : rcE row p ≠ 0) : rdA row p = (rcE row p, [], [], p) := by unfold rdA; rw [if_pos h]
theorem rd_s {row : List Int} {p : Nat} (h : rcE row p = 0) (h2 : smE row (p + 14) (rcN row p) ≠ 0) : rdA row p = (smE row (p + 14) (rcN row p), [], [], p) := by unfold rdA; rw [if_neg (by simp [h]), if_pos h2]
theorem rd_l {row : List Int} {p : Nat} {x : Int × List Int × Nat} (h : rcE row p = 0) (h2 : smE row (p + 14) (rcN row p) = 0) (hx : rl (smC row (p + 14) (rcN row p)) row (rcL row p + rcD row p) (rcL row p + rcD row p) [] (p + 14 + 3 * rcN row p) = x) :
    rdA row p = if x.1 ≠ 0 then (x.1, [], [], p) else if hck (x.2.1.take (rcL row p)) (x.2.1.drop (rcL row p)) ≠ 0 then (hck (x.2.1.take (rcL row p)) (x.2.1.drop (rcL row p)), [], [], p) else (0, x.2.1.take (rcL row p), x.2.1.drop (rcL row p), x.2.2) := by
  unfold rdA
  rw [if_neg (by simp [h]), if_neg (by simp [h2]), hx]

theorem lst_pos (s : Int) : 1 ≤ lst s ∧ lst s ≤ 11 := by unfold lst; split <;> (try split) <;> omega

theorem tr_bound {C row : List Int} (hb : Bit row) (p : Nat) : 1 ≤ trC C row p ∧ trC C row p ≤ 138 := by
  unfold trC
  have h1 := ahead_bound hb (nxP C row p) (frt (nxS C row p : Nat))
  have h2 := lst_pos (nxS C row p : Nat)
  refine ⟨by omega, ?_⟩
  by_cases c : ((nxS C row p : Nat) : Int) < 16
  · have e1 : frt (nxS C row p : Nat) = 0 := by unfold frt; rw [if_pos c]
    rw [e1] at h1 ⊢
    have := h1.2
    simp at this
    omega
  · by_cases c2 : ((nxS C row p : Nat) : Int) < 18
    · have e1 : frt (nxS C row p : Nat) ≤ 3 := by unfold frt; rw [if_neg c]; split; omega; split <;> omega
      have := pow_le e1
      have e3 : (2 : Int) ^ 3 = 8 := by decide
      omega
    · have e1 : frt (nxS C row p : Nat) = 7 := by unfold frt; rw [if_neg c, if_neg (by omega), if_neg (by omega)]
      rw [e1] at h1 ⊢
      have e3 : (2 : Int) ^ 7 = 128 := by decide
      omega

theorem lay_in {a : List Int} {r : Rn} (h : ∀ x ∈ a, 0 ≤ x ∧ x ≤ 15) (h0 : 0 ≤ r.1) : ∀ x ∈ lay a r, 0 ≤ x ∧ x ≤ 15 := by
  intro x hx
  unfold lay at hx
  rcases List.mem_append.1 hx with q | q
  · exact h x q
  · rw [List.eq_of_mem_replicate q]
    unfold mnt
    split
    · omega
    · split
      · rw [List.getD_eq_getElem?_getD]
        cases e : a[a.length - 1]? with
        | none => simp
        | some y => exact h y (List.mem_of_getElem? e)
      · omega

/-- What comes of it: so many lengths, each of them one. -/
theorem rl_facts {C row : List Int} (hb : Bit row) (want : Nat) : ∀ f acc p, want - acc.length ≤ f → acc.length ≤ want → (∀ x ∈ acc, 0 ≤ x ∧ x ≤ 15) → (rl C row want f acc p).1 = 0 → (rl C row want f acc p).2.1.length = want ∧ ∀ x ∈ (rl C row want f acc p).2.1, 0 ≤ x ∧ x ≤ 15
  | 0, acc, p, hf, hl, ha, _ => ⟨by show acc.length = want; omega, ha⟩
  | f + 1, acc, p, hf, hl, ha, h0 => by
    by_cases c : acc.length < want
    · rw [rl, if_pos c] at h0 ⊢
      by_cases c1 : trE C row p ≠ 0
      · rw [if_pos c1] at h0; simp at h0
      · rw [if_neg c1] at h0 ⊢
        by_cases c2 : nxS C row p = 16 ∧ acc = []
        · rw [if_pos c2] at h0; simp at h0
        · rw [if_neg c2] at h0 ⊢
          by_cases c3 : (want : Int) < acc.length + trC C row p
          · rw [if_pos c3] at h0; simp at h0
          · rw [if_neg c3] at h0 ⊢
            have ht := tr_bound (C := C) hb p
            refine rl_facts hb want f _ _ ?_ ?_ (lay_in ha (by show (0 : Int) ≤ (nxS C row p : Nat); omega)) h0
            · rw [lay_len]; show want - (acc.length + (trC C row p).toNat) ≤ f; omega
            · rw [lay_len]; show acc.length + (trC C row p).toNat ≤ want; omega
    · rw [rl, if_neg c]
      exact ⟨by show acc.length = want; omega, ha⟩

theorem rl_err {C row : List Int} (want : Nat) : ∀ f acc p, (rl C row want f acc p).1 ≠ 0 → (rl C row want f acc p).1 = 70 ∨ (rl C row want f acc p).1 = 73 ∨ (rl C row want f acc p).1 = 74
  | 0, acc, p, h => by simp [rl] at h
  | f + 1, acc, p, h => by
    by_cases c : acc.length < want
    · rw [rl, if_pos c] at h ⊢
      by_cases c1 : trE C row p ≠ 0
      · rw [if_pos c1]; simp
      · rw [if_neg c1] at h ⊢
        by_cases c2 : nxS C row p = 16 ∧ acc = []
        · rw [if_pos c2]; simp
        · rw [if_neg c2] at h ⊢
          by_cases c3 : (want : Int) < acc.length + trC C row p
          · rw [if_pos c3]; simp
          · rw [if_neg c3] at h ⊢
            exact rl_err want f _ _ h
    · rw [rl, if_neg c] at h; simp at h
end Go.Proofs.YtpmgnpfpnkmmbaaGreatDoor

namespace Go.Proofs.YtpmgnpfpnkmmbaaGreatDoor
open Go.RowKit Go.Maps
set_option maxRecDepth 20000
set_option linter.unusedVariables false

theorem rd_cases (row : List Int) (p : Nat) : ((rdA row p).1 ≠ 0 ∧ (rdA row p).2.1 = [] ∧ (rdA row p).2.2.1 = []) ∨ ((rdA row p).1 = 0 ∧ rcE row p = 0 ∧ smE row (p + 14) (rcN row p) = 0 ∧ ∃ x : List Int × Nat, rl (smC row (p + 14) (rcN row p)) row (rcL row p + rcD row p) (rcL row p + rcD row p) [] (p + 14 + 3 * rcN row p) = (0, x.1, x.2) ∧ hck (x.1.take (rcL row p)) (x.1.drop (rcL row p)) = 0 ∧ rdA row p = (0, x.1.take (rcL row p), x.1.drop (rcL row p), x.2)) := by
  by_cases h1 : rcE row p ≠ 0
  · rw [rd_c h1]; exact .inl ⟨h1, rfl, rfl⟩
  have h1' : rcE row p = 0 := by omega
  by_cases h2 : smE row (p + 14) (rcN row p) ≠ 0
  · rw [rd_s h1' h2]; exact .inl ⟨h2, rfl, rfl⟩
  have h2' : smE row (p + 14) (rcN row p) = 0 := by omega
  obtain ⟨x, hx⟩ : ∃ x, rl (smC row (p + 14) (rcN row p)) row (rcL row p + rcD row p) (rcL row p + rcD row p) [] (p + 14 + 3 * rcN row p) = x := ⟨_, rfl⟩
  obtain ⟨e, a, q⟩ := x
  have hr := rd_l h1' h2' hx
  simp only at hr
  by_cases h3 : e ≠ 0
  · rw [if_pos h3] at hr
    rw [hr]
    exact .inl ⟨h3, rfl, rfl⟩
  · rw [if_neg h3] at hr
    by_cases h4 : hck (a.take (rcL row p)) (a.drop (rcL row p)) ≠ 0
    · rw [if_pos h4] at hr
      rw [hr]
      exact .inl ⟨h4, rfl, rfl⟩
    · rw [if_neg h4] at hr
      have h3' : e = 0 := by omega
      subst h3'
      exact .inr ⟨by rw [hr], h1', h2', (a, q), hx, Classical.not_not.1 h4, hr⟩

theorem rd_errs (row : List Int) (p : Nat) : (rdA row p).1 = 0 ∨ (70 ≤ (rdA row p).1 ∧ (rdA row p).1 ≤ 76) := by
  by_cases h1 : rcE row p ≠ 0
  · rw [rd_c h1]
    unfold rcE at h1 ⊢
    split
    · simp
    · split <;> simp
  have h1' : rcE row p = 0 := by omega
  by_cases h2 : smE row (p + 14) (rcN row p) ≠ 0
  · rw [rd_s h1' h2]
    unfold smE at h2 ⊢
    split
    · simp
    · split <;> simp
  have h2' : smE row (p + 14) (rcN row p) = 0 := by omega
  obtain ⟨x, hx⟩ : ∃ x, rl (smC row (p + 14) (rcN row p)) row (rcL row p + rcD row p) (rcL row p + rcD row p) [] (p + 14 + 3 * rcN row p) = x := ⟨_, rfl⟩
  obtain ⟨e, a, q⟩ := x
  have hr := rd_l h1' h2' hx
  simp only at hr
  by_cases h3 : e ≠ 0
  · rw [if_pos h3] at hr
    rw [hr]
    have := rl_err (C := smC row (p + 14) (rcN row p)) (row := row) (rcL row p + rcD row p) (rcL row p + rcD row p) [] (p + 14 + 3 * rcN row p)
    rw [hx] at this
    simp only at this ⊢
    have := this h3
    omega
  · rw [if_neg h3] at hr
    by_cases h4 : hck (a.take (rcL row p)) (a.drop (rcL row p)) ≠ 0
    · rw [if_pos h4] at hr
      rw [hr]
      simp only
      unfold hck at h4 ⊢
      split
      · omega
      · split <;> omega
    · rw [if_neg h4] at hr
      rw [hr]
      exact .inl rfl

theorem ahead_ext {row t : List Int} {p n : Nat} (h : p + n ≤ row.length) : ahead (row ++ t) p n = ahead row p n := by
  unfold ahead
  rw [List.drop_append_of_le_length (by omega), List.take_append_of_le_length (by rw [List.length_drop]; omega)]

theorem mir_any {row : List Int} (hb : Bit row) (p : Nat) {n : Nat} (h : n ≤ 15) : mir (ahead row p n) n = mir (ahead row p 15) n := by
  have e : ahead row p n = ahead row p 15 % 2 ^ n := by
    unfold ahead
    rw [← val_take ((hb.drop p).take 15), List.take_take, Nat.min_eq_left h]
  unfold mir
  rw [e, bts_mod]

/-- More bits behind change no word that was there. -/
theorem nx_ext {l row t : List Int} {p : Nat} (hl : Lens l) (hb : Bit (row ++ t)) (h : nxE l row p = 0) : nxE l (row ++ t) p = 0 ∧ nxS l (row ++ t) p = nxS l row p ∧ nxP l (row ++ t) p = nxP l row p ∧ nxP l row p ≤ row.length := by
  have hb1 : Bit row := fun x hx => hb x (by simp [hx])
  have hfb : fdB l (rowAt row p) = true := by
    unfold nxE at h
    by_cases c : fdB l (rowAt row p) = true
    · exact c
    · rw [if_neg c] at h; omega
  have hlen : p + ln l (fdS l (rowAt row p)) ≤ row.length := by
    unfold nxE at h
    rw [if_pos hfb] at h
    by_cases c : p + ln l (fdS l (rowAt row p)) ≤ row.length
    · exact c
    · rw [if_neg c] at h; omega
  have hs : nxS l row p = fdS l (rowAt row p) := by unfold nxS; rw [if_pos h]
  have hp : nxP l row p = p + ln l (fdS l (rowAt row p)) := by unfold nxP; rw [if_pos h]
  have hhit := fd_has hl hfb
  obtain ⟨s, hS⟩ : ∃ s, fdS l (rowAt row p) = s := ⟨_, rfl⟩
  rw [hS] at hhit hlen hs hp
  have h15 := (hl.ln s).2
  obtain ⟨hhas, hw⟩ := hit_iff.1 hhit
  have r1 := mir_row (ahead row p 15) h15
  have r2 := mir_row (ahead (row ++ t) p 15) h15
  rw [← mir_any hb1 p h15] at r1
  rw [← mir_any hb p h15, ahead_ext hlen, r1] at r2
  have r3 : rowN (ahead (row ++ t) p 15) / 2 ^ (15 - ln l s) = wd l s := by
    rw [← hw]
    unfold rowAt
    exact_mod_cast r2.symm
  have hhit2 : Hit l (rowAt (row ++ t) p) s := hit_iff.2 ⟨hhas, r3⟩
  obtain ⟨g1, g2⟩ := fd_hit hl hhit2
  have hE : nxE l (row ++ t) p = 0 := by unfold nxE; rw [if_pos g2, g1, if_pos (by rw [List.length_append]; omega)]
  exact ⟨hE, by unfold nxS; rw [if_pos hE, g1]; exact hs.symm.trans (by unfold nxS; rw [if_pos h]) , by unfold nxP; rw [if_pos hE, g1]; exact hp.symm.trans (by unfold nxP; rw [if_pos h]), by rw [hp]; exact hlen⟩

theorem tr_ext {l row t : List Int} {p : Nat} (hl : Lens l) (hb : Bit (row ++ t)) (h : trE l row p = 0) : trE l (row ++ t) p = 0 ∧ nxS l (row ++ t) p = nxS l row p ∧ trC l (row ++ t) p = trC l row p ∧ trP l (row ++ t) p = trP l row p ∧ trP l row p ≤ row.length := by
  have h0 : nxE l row p = 0 := by
    unfold trE at h
    by_cases c : nxE l row p ≠ 0
    · rw [if_pos c] at h; omega
    · omega
  have h1 : nxP l row p + frt (nxS l row p : Nat) ≤ row.length := by
    unfold trE at h
    rw [if_neg (by simp [h0])] at h
    by_cases c : row.length < nxP l row p + frt (nxS l row p : Nat)
    · rw [if_pos c] at h; omega
    · omega
  obtain ⟨e1, e2, e3, e4⟩ := nx_ext hl hb h0
  refine ⟨by unfold trE; rw [if_neg (by simp [e1]), e2, e3, if_neg (by rw [List.length_append]; omega)], e2, by unfold trC; rw [e2, e3, ahead_ext h1], by unfold trP; rw [e2, e3], h1⟩

theorem rl_ext {l row t : List Int} (hl : Lens l) (hb : Bit (row ++ t)) (want : Nat) : ∀ f acc p, p ≤ row.length → (rl l row want f acc p).1 ≠ 70 → rl l (row ++ t) want f acc p = rl l row want f acc p ∧ ((rl l row want f acc p).1 = 0 → (rl l row want f acc p).2.2 ≤ row.length)
  | 0, acc, p, hp, _ => ⟨rfl, fun _ => hp⟩
  | f + 1, acc, p, hp, h => by
    by_cases c : acc.length < want
    · rw [rl, if_pos c] at h
      rw [rl, rl, if_pos c, if_pos c]
      by_cases c1 : trE l row p ≠ 0
      · rw [if_pos c1] at h; exact absurd rfl h
      · rw [if_neg c1] at h
        obtain ⟨e1, e2, e3, e4, e5⟩ := tr_ext hl hb (by omega : trE l row p = 0)
        rw [if_neg (by simp [e1]), if_neg c1, e2, e3, e4]
        by_cases c2 : nxS l row p = 16 ∧ acc = []
        · rw [if_pos c2, if_pos c2]; exact ⟨rfl, fun q => by simp at q⟩
        · rw [if_neg c2] at h
          rw [if_neg c2, if_neg c2]
          by_cases c3 : (want : Int) < acc.length + trC l row p
          · rw [if_pos c3, if_pos c3]; exact ⟨rfl, fun q => by simp at q⟩
          · rw [if_neg c3] at h
            rw [if_neg c3, if_neg c3]
            exact rl_ext hl hb want f _ _ e5 h
    · rw [rl, rl, if_neg c, if_neg c]
      exact ⟨rfl, fun _ => hp⟩

theorem smC_ext {row t : List Int} {p : Nat} : ∀ n, p + 3 * n ≤ row.length → smC (row ++ t) p n = smC row p n
  | 0, _ => rfl
  | n + 1, h => by rw [smC, smC, smC_ext n (by omega), ahead_ext (by omega)]

/-- More bits behind change no answer but that they end. -/
theorem rd_ext {row t : List Int} {p : Nat} (hb : Bit (row ++ t)) (h : (rdA row p).1 ≠ 70) : rdA (row ++ t) p = rdA row p ∧ ((rdA row p).1 = 0 → (rdA row p).2.2.2 ≤ row.length) := by
  have h0 : p + 14 ≤ row.length := by
    by_cases c : row.length < p + 14
    · have e : rcE row p = 70 := by unfold rcE; rw [if_pos c]
      rw [rd_c (by omega)] at h
      exact absurd e h
    · omega
  have hA := ahead_ext (t := t) h0
  have eL : rcL (row ++ t) p = rcL row p := by unfold rcL; rw [hA]
  have eD : rcD (row ++ t) p = rcD row p := by unfold rcD; rw [hA]
  have eN : rcN (row ++ t) p = rcN row p := by unfold rcN; rw [hA]
  have eE : rcE (row ++ t) p = rcE row p := by unfold rcE; rw [eL, eD, if_neg (by rw [List.length_append]; omega), if_neg (c := row.length < p + 14) (by omega)]
  by_cases c1 : rcE row p ≠ 0
  · rw [rd_c c1, rd_c (by rw [eE]; exact c1), eE]
    exact ⟨rfl, fun q => absurd q c1⟩
  have c1' : rcE row p = 0 := by omega
  have h1 : p + 14 + 3 * rcN row p ≤ row.length := by
    by_cases c : row.length < p + 14 + 3 * rcN row p
    · have e : smE row (p + 14) (rcN row p) = 70 := by unfold smE; rw [if_pos c]
      rw [rd_s c1' (by omega)] at h
      exact absurd e h
    · omega
  have eC := smC_ext (t := t) (rcN row p) h1
  have eS : smE (row ++ t) (p + 14) (rcN (row ++ t) p) = smE row (p + 14) (rcN row p) := by unfold smE; rw [eN, eC, if_neg (by rw [List.length_append]; omega), if_neg (c := row.length < p + 14 + 3 * rcN row p) (by omega)]
  by_cases c2 : smE row (p + 14) (rcN row p) ≠ 0
  · rw [rd_s c1' c2, rd_s (by rw [eE]; exact c1') (by rw [eS]; exact c2), eS]
    exact ⟨rfl, fun q => absurd q c2⟩
  have c2' : smE row (p + 14) (rcN row p) = 0 := by omega
  have hlens : Lens (smC row (p + 14) (rcN row p)) := by
    unfold smE at c2'
    rw [if_neg (by omega)] at c2'
    by_cases q : Lens (smC row (p + 14) (rcN row p))
    · exact q
    · rw [if_pos (by unfold chkS; rw [if_neg q]; decide)] at c2'; omega
  obtain ⟨x, hx⟩ : ∃ x, rl (smC row (p + 14) (rcN row p)) row (rcL row p + rcD row p) (rcL row p + rcD row p) [] (p + 14 + 3 * rcN row p) = x := ⟨_, rfl⟩
  have hr := rd_l c1' c2' hx
  have h70 : x.1 ≠ 70 := fun q => by
    rw [if_pos (by omega)] at hr
    rw [hr] at h
    exact h q
  obtain ⟨g1, g2⟩ := rl_ext hlens hb (rcL row p + rcD row p) (rcL row p + rcD row p) [] (p + 14 + 3 * rcN row p) h1 (by rw [hx]; exact h70)
  rw [hx] at g1 g2
  have hr2 := rd_l (row := row ++ t) (p := p) (x := x) (by rw [eE]; exact c1') (by rw [eS]; exact c2') (by rw [eN, eL, eD, eC]; exact g1)
  rw [eL] at hr2
  refine ⟨hr2.trans hr.symm, fun q => ?_⟩
  rw [hr] at q ⊢
  by_cases c3 : x.1 ≠ 0
  · rw [if_pos c3] at q; exact absurd q c3
  · rw [if_neg c3] at q ⊢
    by_cases c4 : hck (x.2.1.take (rcL row p)) (x.2.1.drop (rcL row p)) ≠ 0
    · rw [if_pos c4] at q; exact absurd q c4
    · rw [if_neg c4]
      exact g2 (by omega)
end Go.Proofs.YtpmgnpfpnkmmbaaGreatDoor

namespace Go.Proofs.YtpmgnpfpnkmmbaaGreatDoor
open Go.RowKit Go.Maps
set_option maxRecDepth 20000
set_option linter.unusedVariables false

/-- A symbol's error, as this layer tells it. -/
noncomputable def syE (l row : List Int) (p : Nat) : Int := if nxE l row p = 0 then 0 else if nxE l row p = 54 then 80 else 83

/-- How many further bits a length's symbol has, and its base. -/
def lnF (s : Nat) : Nat := if s = 285 then 0 else if s < 265 then 0 else (s - 257) / 4 - 1
def lnB (s : Nat) : Nat := if s = 285 then 258 else if s < 265 then s - 254 else 3 + (4 + (s - 257) % 4) * 2 ^ lnF s
/-- The same of a distance's symbol. -/
def dsF (s : Nat) : Nat := if s < 4 then 0 else s / 2 - 1
def dsB (s : Nat) : Nat := if s < 4 then 1 + s else 1 + (2 + s % 2) * 2 ^ dsF s

/-- A length behind its symbol s, at the place q: error, length, place behind. -/
def lgE (s : Nat) (row : List Int) (q : Nat) : Int := if 285 < s then 83 else if row.length < q + lnF s then 80 else 0
def lgV (s : Nat) (row : List Int) (q : Nat) : Nat := lnB s + (ahead row q (lnF s)).toNat
def lgP (s q : Nat) : Nat := q + lnF s

/-- A distance at the place q. -/
noncomputable def dtE (d row : List Int) (q : Nat) : Int := if dcE d ≠ 0 then 83 else if syE d row q ≠ 0 then syE d row q else if 29 < nxS d row q then 83 else if row.length < nxP d row q + dsF (nxS d row q) then 80 else 0
noncomputable def dtV (d row : List Int) (q : Nat) : Nat := dsB (nxS d row q) + (ahead row (nxP d row q) (dsF (nxS d row q))).toNat
noncomputable def dtP (d row : List Int) (q : Nat) : Nat := nxP d row q + dsF (nxS d row q)

/-- A copy, byte by byte. -/
def cpy (d : Nat) : Nat → List Int → List Int
  | 0, out => out
  | n + 1, out => cpy d n (out ++ [out.getD (out.length - d) 0])
def agE (L : Nat) (out : List Int) (n d : Nat) : Int := if out.length < d then 84 else if L < out.length + n then 85 else 0

/-- One symbol with what belongs to it: error, whether the block has ended, place, text. -/
noncomputable def sy1 (l d row : List Int) (L p : Nat) (out : List Int) : Int × Bool × Nat × List Int :=
  if syE l row p ≠ 0 then (syE l row p, false, p, out)
  else if nxS l row p < 256 then (if L < out.length + 1 then (85, false, p, out) else (0, false, nxP l row p, out ++ [(nxS l row p : Int)]))
  else if nxS l row p = 256 then (0, true, nxP l row p, out)
  else if lgE (nxS l row p) row (nxP l row p) ≠ 0 then (lgE (nxS l row p) row (nxP l row p), false, p, out)
  else if dtE d row (lgP (nxS l row p) (nxP l row p)) ≠ 0 then (dtE d row (lgP (nxS l row p) (nxP l row p)), false, p, out)
  else if agE L out (lgV (nxS l row p) row (nxP l row p)) (dtV d row (lgP (nxS l row p) (nxP l row p))) ≠ 0 then (agE L out (lgV (nxS l row p) row (nxP l row p)) (dtV d row (lgP (nxS l row p) (nxP l row p))), false, p, out)
  else (0, false, dtP d row (lgP (nxS l row p) (nxP l row p)), cpy (dtV d row (lgP (nxS l row p) (nxP l row p))) (lgV (nxS l row p) row (nxP l row p)) out)

/-- The symbols of a block up to its end, or up to the first that goes wrong. -/
inductive Sys (l d row : List Int) (L : Nat) : Nat → List Int → Int → Nat → List Int → Prop
  | bad {p : Nat} {out : List Int} {e : Int} {q : Nat} {o : List Int} {b : Bool} : sy1 l d row L p out = (e, b, q, o) → e ≠ 0 → Sys l d row L p out e p out
  | fin {p : Nat} {out : List Int} {q : Nat} {o : List Int} : sy1 l d row L p out = (0, true, q, o) → Sys l d row L p out 0 q o
  | go {p : Nat} {out : List Int} {q : Nat} {o : List Int} {e : Int} {q' : Nat} {o' : List Int} : sy1 l d row L p out = (0, false, q, o) → Sys l d row L q o e q' o' → Sys l d row L p out e q' o'

theorem Sys.det {l d row : List Int} {L p : Nat} {out : List Int} {e : Int} {q : Nat} {o : List Int} (h : Sys l d row L p out e q o) : ∀ {e' : Int} {q' : Nat} {o' : List Int}, Sys l d row L p out e' q' o' → e = e' ∧ q = q' ∧ o = o' := by
  induction h with
  | bad h1 h2 =>
    intro e' q' o' k
    cases k with
    | bad k1 k2 => rw [h1] at k1; cases k1; exact ⟨rfl, rfl, rfl⟩
    | fin k1 => rw [h1] at k1; cases k1; exact absurd rfl h2
    | go k1 k2 => rw [h1] at k1; cases k1; exact absurd rfl h2
  | fin h1 =>
    intro e' q' o' k
    cases k with
    | bad k1 k2 => rw [h1] at k1; cases k1; exact absurd rfl k2
    | fin k1 => rw [h1] at k1; cases k1; exact ⟨rfl, rfl, rfl⟩
    | go k1 k2 => rw [h1] at k1; cases k1
  | go h1 h2 ih =>
    intro e' q' o' k
    cases k with
    | bad k1 k2 => rw [h1] at k1; cases k1; exact absurd rfl k2
    | fin k1 => rw [h1] at k1; cases k1
    | go k1 k2 => rw [h1] at k1; cases k1; exact ih k2

/-- A stored block behind its first three bits. -/
noncomputable def st1 (row : List Int) (L p : Nat) (out : List Int) : Int × Nat × List Int :=
  if row.length < algn p + 32 then (80, p, out)
  else if ahead row (algn p) 16 + ahead row (algn p + 16) 16 ≠ 65535 then (82, p, out)
  else if L < out.length + (ahead row (algn p) 16).toNat then (85, p, out)
  else if row.length < algn p + 32 + 8 * (ahead row (algn p) 16).toNat then (80, p, out)
  else (0, algn p + 32 + 8 * (ahead row (algn p) 16).toNat, out ++ pack ((row.drop (algn p + 32)).take (8 * (ahead row (algn p) 16).toNat)))

/-- The fixed codes. -/
def FL : List Int := List.replicate 144 8 ++ List.replicate 112 9 ++ List.replicate 24 7 ++ List.replicate 8 8
def FD : List Int := List.replicate 32 5

/-- One block: error, whether it is the last one, its kind, place, text. -/
inductive Blk (row : List Int) (L p : Nat) (out : List Int) : Int → Bool → Int → Nat → List Int → Prop
  | short {b : Bool} {k : Int} : row.length < p + 3 → Blk row L p out 80 b k p out
  | three {b : Bool} {k : Int} : p + 3 ≤ row.length → ahead row (p + 1) 2 = 3 → Blk row L p out 81 b k p out
  | stored {e : Int} {q : Nat} {o : List Int} : p + 3 ≤ row.length → ahead row (p + 1) 2 = 0 → st1 row L (p + 3) out = (e, q, o) → Blk row L p out e (ahead row p 1 == 1) 0 q o
  | fixed {e : Int} {q : Nat} {o : List Int} : p + 3 ≤ row.length → ahead row (p + 1) 2 = 1 → Sys FL FD row L (p + 3) out e q o → Blk row L p out e (ahead row p 1 == 1) 1 q o
  | head {b : Bool} {k : Int} : p + 3 ≤ row.length → ahead row (p + 1) 2 = 2 → (rdA row (p + 3)).1 ≠ 0 → Blk row L p out (rdA row (p + 3)).1 b k p out
  | dyn {e : Int} {q : Nat} {o : List Int} : p + 3 ≤ row.length → ahead row (p + 1) 2 = 2 → (rdA row (p + 3)).1 = 0 → Sys (rdA row (p + 3)).2.1 (rdA row (p + 3)).2.2.1 row L (rdA row (p + 3)).2.2.2 out e q o → Blk row L p out e (ahead row p 1 == 1) 2 q o

theorem Blk.det {row : List Int} {L p : Nat} {out : List Int} {e : Int} {b : Bool} {k : Int} {q : Nat} {o : List Int} (h : Blk row L p out e b k q o) {e' : Int} {b' : Bool} {k' : Int} {q' : Nat} {o' : List Int} (h' : Blk row L p out e' b' k' q' o') : e = e' ∧ (e = 0 → b = b' ∧ k = k' ∧ q = q' ∧ o = o') := by
  cases h <;> cases h' <;> first
    | (exfalso; omega)
    | exact ⟨rfl, fun h => absurd h (by decide)⟩
    | skip
  · rename_i h1 h2 h3 k1 k2 k3
    rw [h3] at k3; cases k3
    exact ⟨rfl, fun _ => ⟨rfl, rfl, rfl, rfl⟩⟩
  · rename_i h1 h2 h3 k1 k2 k3
    obtain ⟨rfl, rfl, rfl⟩ := h3.det k3
    exact ⟨rfl, fun _ => ⟨rfl, rfl, rfl, rfl⟩⟩
  · rename_i h1 h2 h3 k1 k2 k3
    exact ⟨rfl, fun h => absurd h h3⟩
  · rename_i h1 h2 h3 h4 k1 k2 k3 k4
    obtain ⟨rfl, rfl, rfl⟩ := h4.det k4
    exact ⟨rfl, fun _ => ⟨rfl, rfl, rfl, rfl⟩⟩

/-- A block as Walk tells it. -/
structure Pc where
  kind : Int
  fin : Bool
  at0 : Nat
  at1 : Nat
  to0 : Nat
  to1 : Nat

/-- The text: its whole blocks, the error, place and bytes. -/
inductive Txt (row : List Int) (L : Nat) : Nat → List Int → List Pc → Int → Nat → List Int → Prop
  | bad {p : Nat} {out : List Int} {e : Int} {b : Bool} {k : Int} {q : Nat} {o : List Int} : Blk row L p out e b k q o → e ≠ 0 → Txt row L p out [] e p out
  | last {p : Nat} {out : List Int} {k : Int} {q : Nat} {o : List Int} : Blk row L p out 0 true k q o → Txt row L p out [⟨k, true, p, q, out.length, o.length⟩] 0 q o
  | go {p : Nat} {out : List Int} {k : Int} {q : Nat} {o : List Int} {ps : List Pc} {e : Int} {q' : Nat} {o' : List Int} : Blk row L p out 0 false k q o → Txt row L q o ps e q' o' → Txt row L p out (⟨k, false, p, q, out.length, o.length⟩ :: ps) e q' o'

theorem Txt.det {row : List Int} {L p : Nat} {out : List Int} {ps : List Pc} {e : Int} {q : Nat} {o : List Int} (h : Txt row L p out ps e q o) : ∀ {ps' : List Pc} {e' : Int} {q' : Nat} {o' : List Int}, Txt row L p out ps' e' q' o' → ps = ps' ∧ e = e' ∧ q = q' ∧ o = o' := by
  induction h with
  | bad h1 h2 =>
    intro ps' e' q' o' k
    cases k with
    | bad k1 k2 => obtain ⟨rfl, _⟩ := h1.det k1; exact ⟨rfl, rfl, rfl, rfl⟩
    | last k1 => exact absurd (h1.det k1).1 h2
    | go k1 k2 => exact absurd (h1.det k1).1 h2
  | last h1 =>
    intro ps' e' q' o' k
    cases k with
    | bad k1 k2 => exact absurd (h1.det k1).1.symm k2
    | last k1 => obtain ⟨_, r⟩ := h1.det k1; obtain ⟨-, rfl, rfl, rfl⟩ := r rfl; exact ⟨rfl, rfl, rfl, rfl⟩
    | go k1 k2 => obtain ⟨_, r⟩ := h1.det k1; obtain ⟨c, -⟩ := r rfl; cases c
  | go h1 h2 ih =>
    intro ps' e' q' o' k
    cases k with
    | bad k1 k2 => exact absurd (h1.det k1).1.symm k2
    | last k1 => obtain ⟨_, r⟩ := h1.det k1; obtain ⟨c, -⟩ := r rfl; cases c
    | go k1 k2 =>
      obtain ⟨_, r⟩ := h1.det k1; obtain ⟨-, rfl, rfl, rfl⟩ := r rfl
      obtain ⟨rfl, rfl, rfl, rfl⟩ := ih k2; exact ⟨rfl, rfl, rfl, rfl⟩

/-- Inflate's answer: error, bits, text. -/
def Ifl (data : List Int) (limit : Int) (e : Int) (n : Nat) (o : List Int) : Prop :=
  (¬ (data.length ≤ 33554432 ∧ 0 ≤ limit ∧ limit ≤ 16777216) ∧ e = 1 ∧ n = 0 ∧ o = []) ∨
  ((data.length ≤ 33554432 ∧ 0 ≤ limit ∧ limit ≤ 16777216) ∧ ∃ ps q o', Txt (unpack data) limit.toNat 0 [] ps e q o' ∧ ((e = 0 ∧ n = q ∧ o = o') ∨ (e ≠ 0 ∧ n = 0 ∧ o = [])))

theorem Ifl.det {data : List Int} {limit e : Int} {n : Nat} {o : List Int} (h : Ifl data limit e n o) {e' : Int} {n' : Nat} {o' : List Int} (h' : Ifl data limit e' n' o') : e = e' ∧ n = n' ∧ o = o' := by
  rcases h with ⟨a, rfl, rfl, rfl⟩ | ⟨a, ps, q, x, t, r⟩ <;> rcases h' with ⟨a', rfl, rfl, rfl⟩ | ⟨a', ps', q', x', t', r'⟩
  · exact ⟨rfl, rfl, rfl⟩
  · exact absurd a' a
  · exact absurd a a'
  · obtain ⟨-, rfl, rfl, rfl⟩ := t.det t'
    rcases r with ⟨c, rfl, rfl⟩ | ⟨c, rfl, rfl⟩ <;> rcases r' with ⟨c', rfl, rfl⟩ | ⟨c', rfl, rfl⟩
    · exact ⟨rfl, rfl, rfl⟩
    · exact absurd c c'
    · exact absurd c' c
    · exact ⟨rfl, rfl, rfl⟩
end Go.Proofs.YtpmgnpfpnkmmbaaGreatDoor

namespace Go.Proofs.YtpmgnpfpnkmmbaaGreatDoor
open Go.RowKit Go.Maps
set_option maxRecDepth 20000
set_option linter.unusedVariables false

set_option maxHeartbeats 8000000 in
theorem vlenBits_any (s : Nat) (h0 : 257 ≤ s) (h1 : s ≤ 285) (w : World) : Calls Tryz.prog 96 #[.int .i64 s] w fun e w' => e = .returned (.int .i64 (lnF s)) ∧ w' = w := by
  have hs : s = 257 ∨ s = 258 ∨ s = 259 ∨ s = 260 ∨ s = 261 ∨ s = 262 ∨ s = 263 ∨ s = 264 ∨ s = 265 ∨ s = 266 ∨ s = 267 ∨ s = 268 ∨ s = 269 ∨ s = 270 ∨ s = 271 ∨ s = 272 ∨ s = 273 ∨ s = 274 ∨ s = 275 ∨ s = 276 ∨ s = 277 ∨ s = 278 ∨ s = 279 ∨ s = 280 ∨ s = 281 ∨ s = 282 ∨ s = 283 ∨ s = 284 ∨ s = 285 := by omega
  clear h1 h0
  go_enter Tryz.func96, Tryz.ntmps96
  rcases hs with rfl | rfl | rfl | rfl | rfl | rfl | rfl | rfl | rfl | rfl | rfl | rfl | rfl | rfl | rfl | rfl | rfl | rfl | rfl | rfl | rfl | rfl | rfl | rfl | rfl | rfl | rfl | rfl | rfl
  all_goals
    go_wp2
    go_ret
    exact ⟨rfl, rfl⟩

set_option maxHeartbeats 8000000 in
theorem vdistBits_any (s : Nat) (h1 : s ≤ 29) (w : World) : Calls Tryz.prog 98 #[.int .i64 s] w fun e w' => e = .returned (.int .i64 (dsF s)) ∧ w' = w := by
  have hs : s = 0 ∨ s = 1 ∨ s = 2 ∨ s = 3 ∨ s = 4 ∨ s = 5 ∨ s = 6 ∨ s = 7 ∨ s = 8 ∨ s = 9 ∨ s = 10 ∨ s = 11 ∨ s = 12 ∨ s = 13 ∨ s = 14 ∨ s = 15 ∨ s = 16 ∨ s = 17 ∨ s = 18 ∨ s = 19 ∨ s = 20 ∨ s = 21 ∨ s = 22 ∨ s = 23 ∨ s = 24 ∨ s = 25 ∨ s = 26 ∨ s = 27 ∨ s = 28 ∨ s = 29 := by omega
  clear h1
  go_enter Tryz.func98, Tryz.ntmps98
  rcases hs with rfl | rfl | rfl | rfl | rfl | rfl | rfl | rfl | rfl | rfl | rfl | rfl | rfl | rfl | rfl | rfl | rfl | rfl | rfl | rfl | rfl | rfl | rfl | rfl | rfl | rfl | rfl | rfl | rfl | rfl
  all_goals
    go_wp2
    go_ret
    exact ⟨rfl, rfl⟩

theorem vpower_any (n : Nat) (hn : n ≤ 20) (w : World) : Calls Tryz.prog 111 #[.int .i64 n] w fun e w' => e = .returned (.int .i64 ((2 ^ n : Nat) : Int)) ∧ w' = w := by
  have HP : Hid (∀ i : Fin 21, 2 ^ i.val ≤ 1048576) := by show ∀ i : Fin 21, _; decide
  go_enter Tryz.func111, Tryz.ntmps111
  go_wp2
  go_loopw [3, 4] (fun p i wr => ∃ k : Nat, k ≤ n ∧ i = .int .i64 k ∧ p = .int .i64 ((2 ^ k : Nat) : Int) ∧ wr = w) (fun _ i _ => n - (intOf i).toNat)
  case atStart => exact ⟨0, Nat.zero_le _, rfl, rfl, rfl⟩
  case round =>
    obtain ⟨k, hk, rfl, rfl, rfl⟩ := hrel
    have hb := HP.out ⟨k, by omega⟩
    obtain ⟨q, HQ⟩ : ∃ q : Nat, Hid (q = 2 ^ k) := ⟨_, rfl⟩
    simp only at hb
    rw [← HQ.out] at hb ⊢
    by_cases hlt : k < n
    · have hlt' : (k : Int) < (n : Int) := by omega
      go_wp2
      go_roundw
      case rel => exact ⟨k + 1, by omega, by simp, by rw [Nat.pow_succ, ← HQ.out]; simp; omega, by first | rfl | trivial⟩
      case measure => simp [intOf]; omega
    · obtain rfl : k = n := by omega
      go_wp2
      go_ret
      exact ⟨by rw [← HQ.out]; rfl, rfl⟩
end Go.Proofs.YtpmgnpfpnkmmbaaGreatDoor

namespace Go.Proofs.YtpmgnpfpnkmmbaaGreatDoor
open Go.RowKit Go.Maps
set_option maxRecDepth 20000
set_option linter.unusedVariables false

/-- For how many lengths one run of the Sym could stand. -/
def rch (s : Nat) (l : List Int) (k : Nat) : Nat := if s = 16 ∧ k = 0 then 0 else min (eqn (mnt s (l.take k)) (l.drop k)) (mst s).toNat

theorem rch_18 (l : List Int) (k : Nat) : rch 18 l k = n18 l k := by unfold rch n18; rw [if_neg (by omega)]; rfl
theorem rch_17 (l : List Int) (k : Nat) : rch 17 l k = n17 l k := by unfold rch n17; rw [if_neg (by omega)]; rfl
theorem rch_16 {l : List Int} {k : Nat} (hk : k < l.length) : rch 16 l k = n16 l k := by
  unfold rch n16
  by_cases h : k = 0
  · rw [if_pos ⟨rfl, h⟩, if_pos h]
  · rw [if_neg (by omega), if_neg h]
    have e : mnt (16 : Nat) (l.take k) = l.getD (k - 1) 0 := by
      show mnt 16 (l.take k) = _
      unfold mnt
      rw [if_neg (by decide), if_pos rfl, List.length_take, show min k l.length - 1 = k - 1 by omega]
      simp only [List.getD_eq_getElem?_getD, List.getElem?_take]
      rw [if_pos (by omega)]
    rw [e]; rfl

theorem SI.sub {w : World} {b o cap : Nat} {l : List Int} (h : SI w (.slice (some ⟨b, o, none⟩) l.length cap) l) {i j : Nat} (hij : i ≤ j) (hj : j ≤ l.length) : SI w (.slice (some ⟨b, o + i, none⟩) (j - i) (cap - i)) ((l.drop i).take (j - i)) := by
  obtain ⟨ao', cap', he, h1, h2, h3, h4⟩ := h
  simp only [Value.slice.injEq] at he
  obtain ⟨rfl, -, rfl⟩ := he
  have hl : ((l.drop i).take (j - i)).length = j - i := by rw [List.length_take, List.length_drop]; omega
  refine ⟨_, _, by rw [hl], by rw [hl]; omega, by omega, (fun e => by cases e), fun x hx n hn => ?_⟩
  cases hx
  rw [hl] at hn
  have := h4 _ rfl (i + n) (by omega)
  rw [Addr.add_lit] at this ⊢
  rw [Nat.add_assoc, this]
  simp only [List.getD_eq_getElem?_getD, List.getElem?_take, List.getElem?_drop]
  rw [if_pos hn]

end Go.Proofs.YtpmgnpfpnkmmbaaGreatDoor

