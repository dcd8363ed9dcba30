import Derived.Test.YtcgeaidegppiaaaDoorGA14
import Derived.Test.YtcgeaidegppiaaaDoorGA09
import Derived.Test.YtcgeaidegppiaaaDoorGA16
namespace Go.Proofs.YtcgeaidegppiaaaDoor
open Go.RowKit Go.Maps
set_option maxRecDepth 20000

theorem putOk_of {row : List Int} {v : Int} {n : Nat} (h1 : v < 2 ^ n) (h2 : n ≤ 32) (h3 : row.length + n ≤ 268435456) : putOk row v n := ⟨⟨⟨by omega, by omega⟩, by simpa using h1⟩, by omega⟩

theorem putE_ok {row : List Int} {v : Int} {n : Nat} (h : putOk row v n) : putE row v n = 0 ∧ putRow row v n = row ++ bts v n := ⟨if_pos h, by unfold putRow; rw [if_pos h]; rfl⟩

theorem takeOk_of {row : List Int} {p n : Nat} (h1 : n ≤ 32) (h2 : p + n ≤ row.length) : takeOk row p n := ⟨⟨by omega, by omega⟩, by omega⟩

theorem take_ok {row : List Int} {p n : Nat} (h : takeOk row p n) : takeE row p n = 0 ∧ takeV row p n = ahead row p n ∧ takeP row p n = p + n :=
  ⟨by unfold takeE; rw [if_pos h.1, if_pos h.2], by unfold takeV; rw [if_pos h]; rfl, by unfold takeP; rw [if_pos h]; rfl⟩

theorem skip_ok {row : List Int} {p n : Nat} (h : p + n ≤ row.length) : skipE row p n = 0 ∧ skipP row p n = p + n :=
  ⟨by unfold skipE; rw [if_neg (by omega), if_pos (by omega)], by unfold skipP; rw [if_neg (by omega), if_pos (by omega)]; rfl⟩

theorem ahead_at {row : List Int} {p n : Nat} {x y : List Int} (h : row.drop p = x ++ y) (hx : x.length = n) : ahead row p n = val x := by
  unfold ahead
  rw [h, List.take_append_of_le_length (by omega), List.take_of_length_le (by omega)]

/-- A number within n bits. -/
theorem low_in (v : Int) {n : Nat} (hn : n ≤ 32) : 0 ≤ v % 2 ^ n ∧ v % 2 ^ n < 2 ^ n ∧ v % 2 ^ n < 4294967296 := by
  have hp32 : (2 : Int) ^ n ≤ 2 ^ 32 := pow_le hn
  have hpn := pow_pos n
  have h1 : 0 ≤ v % 2 ^ n := Int.emod_nonneg _ (by omega)
  have h2 : v % 2 ^ n < 2 ^ n := Int.emod_lt_of_pos _ hpn
  exact ⟨h1, h2, by omega⟩

theorem bts_get (v : Int) {n j : Nat} (h : j < n) : (bts v n)[j]? = some (v / 2 ^ j % 2) := by
  have hs := bts_split v j (n - j)
  rw [show j + (n - j) = n by omega] at hs
  rw [hs, List.getElem?_append_right (by rw [length_bts]; omega), length_bts, Nat.sub_self]
  obtain ⟨m, hm⟩ : ∃ m, n - j = m + 1 := ⟨n - j - 1, by omega⟩
  rw [hm]
  rfl

theorem unpack_get {l : List Int} {k j : Nat} {b : Int} (hk : l[k]? = some b) (hj : j < 8) : (unpack l)[8 * k + j]? = some (b / 2 ^ j % 2) := by
  obtain ⟨hkl, rfl⟩ := List.getElem?_eq_some_iff.1 hk
  have e : unpack l = unpack (l.take k) ++ (bts l[k] 8 ++ unpack (l.drop (k + 1))) := by
    conv => lhs; rw [← List.take_append_drop k l]
    rw [unpack_append, List.drop_eq_getElem_cons hkl, unpack_cons]
  have hl : (unpack (l.take k)).length = 8 * k := by rw [length_unpack, List.length_take]; omega
  rw [e, List.getElem?_append_right (by omega), hl, show 8 * k + j - 8 * k = j by omega, List.getElem?_append_left (by rw [length_bts]; exact hj)]
  exact bts_get _ hj

theorem ahead_one {U : List Int} {p : Nat} {x : Int} (h : U[p]? = some x) : ahead U p 1 = x := by
  obtain ⟨hp, rfl⟩ := List.getElem?_eq_some_iff.1 h
  rw [ahead_at (n := 1) (x := [U[p]]) (y := U.drop (p + 1)) (by rw [List.drop_eq_getElem_cons hp]; rfl) rfl]
  simp [val]

theorem take_one {U : List Int} {p : Nat} {x : Int} (h : U[p]? = some x) : U.take (p + 1) = U.take p ++ [x] := by
  obtain ⟨hp, rfl⟩ := List.getElem?_eq_some_iff.1 h
  exact List.take_succ_eq_append_getElem hp

/-- A byte of a list that was there. -/
theorem SB.byte {W w : World} {ao : Option Addr} {cap : Nat} {l : List Int} (h : SB W (.slice ao l.length cap) l) (hb : Below W.heap.size W w) {k : Nat} (hk : k < l.length) : ∃ b o, ao = some ⟨b, o, none⟩ ∧ w.cell? ⟨b, o + k, none⟩ = some (.int .u8 (l.getD k 0)) := by
  obtain ⟨ao', cap', hue, hc1, hc2, hc3, hc4⟩ := h
  simp only [Value.slice.injEq] at hue
  obtain ⟨rfl, -, rfl⟩ := hue
  cases ao with
  | none => have := hc3 rfl; omega
  | some x0 =>
    obtain ⟨b, o, rfl⟩ := addr_lit (hc4 x0 rfl 0 (by omega))
    have hc := hc4 _ rfl k hk
    have hbl := World.block_lt_of_cell? _ _ hc
    rw [Addr.add_lit] at hc hbl
    exact ⟨b, o, rfl, (hb.cell hbl).trans hc⟩

theorem SB.cap {W : World} {ao : Option Addr} {cap : Nat} {l : List Int} (h : SB W (.slice ao l.length cap) l) : l.length ≤ cap ∧ cap ≤ 9223372036854775807 := by
  obtain ⟨ao', cap', hue, hc1, hc2, _⟩ := h
  simp only [Value.slice.injEq] at hue
  obtain ⟨-, -, rfl⟩ := hue
  unfold maxLen at hc2
  exact ⟨hc1, hc2⟩

end Go.Proofs.YtcgeaidegppiaaaDoor

namespace Go.Proofs.YtcgeaidegppiaaaDoor
open Go.RowKit Go.Maps
set_option linter.unusedVariables false

/-- The three counts, and their error. -/
def rcL (row : List Int) (p : Nat) : Nat := 257 + (ahead row p 14 % 32).toNat
def rcD (row : List Int) (p : Nat) : Nat := 1 + (ahead row p 14 / 32 % 32).toNat
def rcN (row : List Int) (p : Nat) : Nat := 4 + (ahead row p 14 / 1024).toNat
def rcE (row : List Int) (p : Nat) : Int := if row.length < p + 14 then 70 else if 286 < rcL row p ∨ 30 < rcD row p then 71 else 0

/-- The small code's lengths, and their error. -/
def smC (row : List Int) (p : Nat) : Nat → List Int
  | 0 => List.replicate 19 0
  | n + 1 => (smC row p n).set (zor.getD n 0).toNat (ahead row (p + 3 * n) 3)
def smE (row : List Int) (p n : Nat) : Int := if row.length < p + 3 * n then 70 else if chkS (smC row p n) ≠ 4 then 72 else 0

/-- One run: its error, its count, where it ends. -/
noncomputable def trE (C row : List Int) (p : Nat) : Int := if nxE C row p ≠ 0 then 70 else if row.length < nxP C row p + frt (nxS C row p : Nat) then 70 else 0
noncomputable def trC (C row : List Int) (p : Nat) : Int := lst (nxS C row p : Nat) + ahead row (nxP C row p) (frt (nxS C row p : Nat))
noncomputable def trP (C row : List Int) (p : Nat) : Nat := nxP C row p + frt (nxS C row p : Nat)

/-- The lengths, run by run. -/
noncomputable def rl (C row : List Int) (want : Nat) : Nat → List Int → Nat → Int × List Int × Nat
  | 0, acc, p => (0, acc, p)
  | f + 1, acc, p =>
    if acc.length < want then
      if trE C row p ≠ 0 then (70, [], p)
      else if nxS C row p = 16 ∧ acc = [] then (73, [], p)
      else if (want : Int) < acc.length + trC C row p then (74, [], p)
      else rl C row want f (lay acc ((nxS C row p : Nat), trC C row p)) (trP C row p)
    else (0, acc, p)

/-- What Read answers: the error, the two lists, where it stands then. -/
noncomputable def rdA (row : List Int) (p : Nat) : Int × List Int × List Int × Nat :=
  if rcE row p ≠ 0 then (rcE row p, [], [], p) else
  if smE row (p + 14) (rcN row p) ≠ 0 then (smE row (p + 14) (rcN row p), [], [], p) else
  if (rl (smC row (p + 14) (rcN row p)) row (rcL row p + rcD row p) (rcL row p + rcD row p) [] (p + 14 + 3 * rcN row p)).1 ≠ 0 then ((rl (smC row (p + 14) (rcN row p)) row (rcL row p + rcD row p) (rcL row p + rcD row p) [] (p + 14 + 3 * rcN row p)).1, [], [], p) else
  if hck ((rl (smC row (p + 14) (rcN row p)) row (rcL row p + rcD row p) (rcL row p + rcD row p) [] (p + 14 + 3 * rcN row p)).2.1.take (rcL row p)) ((rl (smC row (p + 14) (rcN row p)) row (rcL row p + rcD row p) (rcL row p + rcD row p) [] (p + 14 + 3 * rcN row p)).2.1.drop (rcL row p)) ≠ 0 then (hck ((rl (smC row (p + 14) (rcN row p)) row (rcL row p + rcD row p) (rcL row p + rcD row p) [] (p + 14 + 3 * rcN row p)).2.1.take (rcL row p)) ((rl (smC row (p + 14) (rcN row p)) row (rcL row p + rcD row p) (rcL row p + rcD row p) [] (p + 14 + 3 * rcN row p)).2.1.drop (rcL row p)), [], [], p) else
  (0, (rl (smC row (p + 14) (rcN row p)) row (rcL row p + rcD row p) (rcL row p + rcD row p) [] (p + 14 + 3 * rcN row p)).2.1.take (rcL row p), (rl (smC row (p + 14) (rcN row p)) row (rcL row p + rcD row p) (rcL row p + rcD row p) [] (p + 14 + 3 * rcN row p)).2.1.drop (rcL row p), (rl (smC row (p + 14) (rcN row p)) row (rcL row p + rcD row p) (rcL row p + rcD row p) [] (p + 14 + 3 * rcN row p)).2.2)

theorem rd_c {row : List Int} {p : Nat} (h : rcE row p ≠ 0) : rdA row p = (rcE row p, [], [], p) := by unfold rdA; rw [if_pos h]
theorem rd_s {row : List Int} {p : Nat} (h : rcE row p = 0) (h2 : smE row (p + 14) (rcN row p) ≠ 0) : rdA row p = (smE row (p + 14) (rcN row p), [], [], p) := by unfold rdA; rw [if_neg (by simp [h]), if_pos h2]
theorem rd_l {row : List Int} {p : Nat} {x : Int × List Int × Nat} (h : rcE row p = 0) (h2 : smE row (p + 14) (rcN row p) = 0) (hx : rl (smC row (p + 14) (rcN row p)) row (rcL row p + rcD row p) (rcL row p + rcD row p) [] (p + 14 + 3 * rcN row p) = x) :
    rdA row p = if x.1 ≠ 0 then (x.1, [], [], p) else if hck (x.2.1.take (rcL row p)) (x.2.1.drop (rcL row p)) ≠ 0 then (hck (x.2.1.take (rcL row p)) (x.2.1.drop (rcL row p)), [], [], p) else (0, x.2.1.take (rcL row p), x.2.1.drop (rcL row p), x.2.2) := by
  unfold rdA
  rw [if_neg (by simp [h]), if_neg (by simp [h2]), hx]

theorem lst_pos (s : Int) : 1 ≤ lst s ∧ lst s ≤ 11 := by unfold lst; split <;> (try split) <;> omega

theorem tr_bound {C row : List Int} (hb : Bit row) (p : Nat) : 1 ≤ trC C row p ∧ trC C row p ≤ 138 := by
  unfold trC
  have h1 := ahead_bound hb (nxP C row p) (frt (nxS C row p : Nat))
  have h2 := lst_pos (nxS C row p : Nat)
  refine ⟨by omega, ?_⟩
  by_cases c : ((nxS C row p : Nat) : Int) < 16
  · have e1 : frt (nxS C row p : Nat) = 0 := by unfold frt; rw [if_pos c]
    rw [e1] at h1 ⊢
    have := h1.2
    simp at this
    omega
  · by_cases c2 : ((nxS C row p : Nat) : Int) < 18
    · have e1 : frt (nxS C row p : Nat) ≤ 3 := by unfold frt; rw [if_neg c]; split; omega; split <;> omega
      have := pow_le e1
      have e3 : (2 : Int) ^ 3 = 8 := by decide
      omega
    · have e1 : frt (nxS C row p : Nat) = 7 := by unfold frt; rw [if_neg c, if_neg (by omega), if_neg (by omega)]
      rw [e1] at h1 ⊢
      have e3 : (2 : Int) ^ 7 = 128 := by decide
      omega

theorem lay_in {a : List Int} {r : Rn} (h : ∀ x ∈ a, 0 ≤ x ∧ x ≤ 15) (h0 : 0 ≤ r.1) : ∀ x ∈ lay a r, 0 ≤ x ∧ x ≤ 15 := by
  intro x hx
  unfold lay at hx
  rcases List.mem_append.1 hx with q | q
  · exact h x q
  · rw [List.eq_of_mem_replicate q]
    unfold mnt
    split
    · omega
    · split
      · rw [List.getD_eq_getElem?_getD]
        cases e : a[a.length - 1]? with
        | none => simp
        | some y => exact h y (List.mem_of_getElem? e)
      · omega

/-- What comes of it: so many lengths, each of them one. -/
theorem rl_facts {C row : List Int} (hb : Bit row) (want : Nat) : ∀ f acc p, want - acc.length ≤ f → acc.length ≤ want → (∀ x ∈ acc, 0 ≤ x ∧ x ≤ 15) → (rl C row want f acc p).1 = 0 → (rl C row want f acc p).2.1.length = want ∧ ∀ x ∈ (rl C row want f acc p).2.1, 0 ≤ x ∧ x ≤ 15
  | 0, acc, p, hf, hl, ha, _ => ⟨by show acc.length = want; omega, ha⟩
  | f + 1, acc, p, hf, hl, ha, h0 => by
    by_cases c : acc.length < want
    · rw [rl, if_pos c] at h0 ⊢
      by_cases c1 : trE C row p ≠ 0
      · rw [if_pos c1] at h0; simp at h0
      · rw [if_neg c1] at h0 ⊢
        by_cases c2 : nxS C row p = 16 ∧ acc = []
        · rw [if_pos c2] at h0; simp at h0
        · rw [if_neg c2] at h0 ⊢
          by_cases c3 : (want : Int) < acc.length + trC C row p
          · rw [if_pos c3] at h0; simp at h0
          · rw [if_neg c3] at h0 ⊢
            have ht := tr_bound (C := C) hb p
            refine rl_facts hb want f _ _ ?_ ?_ (lay_in ha (by show (0 : Int) ≤ (nxS C row p : Nat); omega)) h0
            · rw [lay_len]; show want - (acc.length + (trC C row p).toNat) ≤ f; omega
            · rw [lay_len]; show acc.length + (trC C row p).toNat ≤ want; omega
    · rw [rl, if_neg c]
      exact ⟨by show acc.length = want; omega, ha⟩

theorem rl_err {C row : List Int} (want : Nat) : ∀ f acc p, (rl C row want f acc p).1 ≠ 0 → (rl C row want f acc p).1 = 70 ∨ (rl C row want f acc p).1 = 73 ∨ (rl C row want f acc p).1 = 74
  | 0, acc, p, h => by simp [rl] at h
  | f + 1, acc, p, h => by
    by_cases c : acc.length < want
    · rw [rl, if_pos c] at h ⊢
      by_cases c1 : trE C row p ≠ 0
      · rw [if_pos c1]; simp
      · rw [if_neg c1] at h ⊢
        by_cases c2 : nxS C row p = 16 ∧ acc = []
        · rw [if_pos c2]; simp
        · rw [if_neg c2] at h ⊢
          by_cases c3 : (want : Int) < acc.length + trC C row p
          · rw [if_pos c3]; simp
          · rw [if_neg c3] at h ⊢
            exact rl_err want f _ _ h
    · rw [rl, if_neg c] at h; simp at h
end Go.Proofs.YtcgeaidegppiaaaDoor

