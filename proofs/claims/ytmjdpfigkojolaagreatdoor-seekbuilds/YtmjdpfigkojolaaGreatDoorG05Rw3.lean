import Derived.Test.YtmjdpfigkojolaaGreatDoorG02Drr
import Derived.Test.YtmjdpfigkojolaaGreatDoorG04Nxt
import Derived.Test.YtmjdpfigkojolaaGreatDoorG00Oix
import Derived.Test.YtmjdpfigkojolaaGreatDoorG01Mk2
import Derived.WalkMore
namespace Go.Proofs.YtmjdpfigkojolaaGreatDoor
open Go.RowKit Go.Maps
set_option maxRecDepth 20000

def wb (l : List Int) (s : Nat) : List Int := (bts (wd l s) (ln l s)).reverse

end Go.Proofs.YtmjdpfigkojolaaGreatDoor

namespace Go.Proofs.YtmjdpfigkojolaaGreatDoor
open Go.RowKit Go.Maps
set_option maxRecDepth 20000

def ti (v : Value) (l : List Int) : Thing :=
  ⟨fun w K => OI w 0 v l ∧ (∀ k, v.ownBlock = some k → K k ≠ 0) ∧ ∀ k, K k ≠ 0 → k < w.heap.size,
   fun h a b => ⟨h.1.move fun k hk => b k (h.2.1 k hk), h.2.1, fun k hk => Nat.lt_of_lt_of_le (h.2.2 k hk) a⟩, fun h => h.2.2⟩

theorem Herd.ilist {W w w' : World} {xs : List ((Nat → Nat) × Thing)} (h : Herd W w xs) (hb : Below w.heap.size w w') {v : Value} {l : List Int} (ho : OI w' w.heap.size v l) : ∃ K, Herd W w' (xs ++ [(K, ti v l)]) := by
  refine ⟨fun k => if v.ownBlock = some k then 1 else 0, h.push hb ⟨ho.base (Nat.zero_le _), fun k hk => by simp [hk], fun k hk => ?_⟩ fun k hk => ?_⟩
  · by_cases e : v.ownBlock = some k
    · exact (ho.lt k e).2
    · simp [e] at hk
  · by_cases e : v.ownBlock = some k
    · exact (ho.lt k e).1
    · simp [e] at hk

theorem Herd.isi {W w : World} {xs : List ((Nat → Nat) × Thing)} (H : Herd W w xs) (i : Nat) {K : Nat → Nat} {v : Value} {l : List Int} (hi : xs[i]? = some (K, ti v l)) : SI w v l := by
  have h : (ti v l).P w K := H.rep i _ hi
  exact h.1.sb

theorem Herd.ioi {W w : World} {xs : List ((Nat → Nat) × Thing)} (H : Herd W w xs) (i : Nat) {K : Nat → Nat} {v : Value} {l : List Int} (hi : xs[i]? = some (K, ti v l)) : OI w 0 v l := by
  have h : (ti v l).P w K := H.rep i _ hi
  exact h.1

end Go.Proofs.YtmjdpfigkojolaaGreatDoor

namespace Go.Proofs.YtmjdpfigkojolaaGreatDoor
open Go.RowKit Go.Maps
set_option maxRecDepth 20000

theorem shp_cases (l : List Int) : shp l = 0 ∨ shp l = 1 ∨ shp l = 2 ∨ shp l = 3 ∨ shp l = 4 := by
  unfold shp
  by_cases c0 : tsum l = 0
  · rw [if_pos c0]; omega
  · rw [if_neg c0]
    by_cases c1 : tsum l = 1 ∧ usum l = 16384
    · rw [if_pos c1]; omega
    · rw [if_neg c1]
      by_cases c2 : 32768 < usum l
      · rw [if_pos c2]; omega
      · rw [if_neg c2]
        by_cases c3 : usum l = 32768
        · rw [if_pos c3]; omega
        · rw [if_neg c3]; omega

theorem dcE_iff (l : List Int) : dcE l = 0 ↔ chkE l = 0 ∧ (shp l = 1 ∨ shp l = 4) := by
  constructor
  · intro h
    obtain ⟨h1, h2, h3, h4⟩ := dcE_zero h
    have hc := shp_cases l
    refine ⟨?_, by omega⟩
    unfold chkE
    rw [if_neg (by have := h1.1; omega), if_pos h1]
  · rintro ⟨h1, h2⟩
    have hb : bkE l = 0 := by unfold bkE; rw [if_neg (by simp [h1]), if_neg (by omega), if_neg (by omega)]
    unfold dcE
    rw [if_neg (by simp [hb]), if_neg (by omega)]

theorem bts_take (v : Int) {n m : Nat} (h : n ≤ m) : (bts v m).take n = bts v n := by
  obtain ⟨k, rfl⟩ : ∃ k, m = n + k := ⟨m - n, by omega⟩
  rw [bts_split, List.take_append_of_le_length (by rw [length_bts]; omega), List.take_of_length_le (by rw [length_bts]; omega)]

theorem Herd.nilI {W w : World} {xs : List ((Nat → Nat) × Thing)} (H : Herd W w xs) : Herd W w (xs ++ [(fun _ => 0, ti (.slice none 0 0) [])]) :=
  H.push (Below.refl _ _) ⟨World.ownsRow_nil _ _ _ _, fun k hk => by simp [Value.ownBlock] at hk, fun k hk => absurd rfl hk⟩ fun k hk => absurd rfl hk

end Go.Proofs.YtmjdpfigkojolaaGreatDoor

namespace Go.Proofs.YtmjdpfigkojolaaGreatDoor
open Go.RowKit Go.Maps
set_option maxRecDepth 20000

theorem takeOk_of {row : List Int} {p n : Nat} (h1 : n ≤ 32) (h2 : p + n ≤ row.length) : takeOk row p n := ⟨⟨by omega, by omega⟩, by omega⟩

theorem take_ok {row : List Int} {p n : Nat} (h : takeOk row p n) : takeE row p n = 0 ∧ takeV row p n = ahead row p n ∧ takeP row p n = p + n :=
  ⟨by unfold takeE; rw [if_pos h.1, if_pos h.2], by unfold takeV; rw [if_pos h]; rfl, by unfold takeP; rw [if_pos h]; rfl⟩

theorem bts_get (v : Int) {n j : Nat} (h : j < n) : (bts v n)[j]? = some (v / 2 ^ j % 2) := by
  have hs := bts_split v j (n - j)
  rw [show j + (n - j) = n by omega] at hs
  rw [hs, List.getElem?_append_right (by rw [length_bts]; omega), length_bts, Nat.sub_self]
  obtain ⟨m, hm⟩ : ∃ m, n - j = m + 1 := ⟨n - j - 1, by omega⟩
  rw [hm]
  rfl

theorem unpack_get {l : List Int} {k j : Nat} {b : Int} (hk : l[k]? = some b) (hj : j < 8) : (unpack l)[8 * k + j]? = some (b / 2 ^ j % 2) := by
  obtain ⟨hkl, rfl⟩ := List.getElem?_eq_some_iff.1 hk
  have e : unpack l = unpack (l.take k) ++ (bts l[k] 8 ++ unpack (l.drop (k + 1))) := by
    conv => lhs; rw [← List.take_append_drop k l]
    rw [unpack_append, List.drop_eq_getElem_cons hkl, unpack_cons]
  have hl : (unpack (l.take k)).length = 8 * k := by rw [length_unpack, List.length_take]; omega
  rw [e, List.getElem?_append_right (by omega), hl, show 8 * k + j - 8 * k = j by omega, List.getElem?_append_left (by rw [length_bts]; exact hj)]
  exact bts_get _ hj

theorem take_one {U : List Int} {p : Nat} {x : Int} (h : U[p]? = some x) : U.take (p + 1) = U.take p ++ [x] := by
  obtain ⟨hp, rfl⟩ := List.getElem?_eq_some_iff.1 h
  exact List.take_succ_eq_append_getElem hp

theorem SB.byte {W w : World} {ao : Option Addr} {cap : Nat} {l : List Int} (h : SB W (.slice ao l.length cap) l) (hb : Below W.heap.size W w) {k : Nat} (hk : k < l.length) : ∃ b o, ao = some ⟨b, o, none⟩ ∧ w.cell? ⟨b, o + k, none⟩ = some (.int .u8 (l.getD k 0)) := by
  obtain ⟨ao', cap', hue, hc1, hc2, hc3, hc4⟩ := h
  simp only [Value.slice.injEq] at hue
  obtain ⟨rfl, -, rfl⟩ := hue
  cases ao with
  | none => have := hc3 rfl; omega
  | some x0 =>
    obtain ⟨b, o, rfl⟩ := addr_lit (hc4 x0 rfl 0 (by omega))
    have hc := hc4 _ rfl k hk
    have hbl := World.block_lt_of_cell? _ _ hc
    rw [Addr.add_lit] at hc hbl
    exact ⟨b, o, rfl, (hb.cell hbl).trans hc⟩

theorem SB.cap {W : World} {ao : Option Addr} {cap : Nat} {l : List Int} (h : SB W (.slice ao l.length cap) l) : l.length ≤ cap ∧ cap ≤ 9223372036854775807 := by
  obtain ⟨ao', cap', hue, hc1, hc2, _⟩ := h
  simp only [Value.slice.injEq] at hue
  obtain ⟨-, -, rfl⟩ := hue
  unfold maxLen at hc2
  exact ⟨hc1, hc2⟩

end Go.Proofs.YtmjdpfigkojolaaGreatDoor

namespace Go.Proofs.YtmjdpfigkojolaaGreatDoor
open Go.RowKit Go.Maps
set_option linter.unusedVariables false

def rcL (row : List Int) (p : Nat) : Nat := 257 + (ahead row p 14 % 32).toNat
def rcD (row : List Int) (p : Nat) : Nat := 1 + (ahead row p 14 / 32 % 32).toNat
def rcN (row : List Int) (p : Nat) : Nat := 4 + (ahead row p 14 / 1024).toNat
def rcE (row : List Int) (p : Nat) : Int := if row.length < p + 14 then 70 else if 286 < rcL row p ∨ 30 < rcD row p then 71 else 0

def smC (row : List Int) (p : Nat) : Nat → List Int
  | 0 => List.replicate 19 0
  | n + 1 => (smC row p n).set (zor.getD n 0).toNat (ahead row (p + 3 * n) 3)
def smE (row : List Int) (p n : Nat) : Int := if row.length < p + 3 * n then 70 else if chkS (smC row p n) ≠ 4 then 72 else 0

noncomputable def trE (C row : List Int) (p : Nat) : Int := if nxE C row p ≠ 0 then 70 else if row.length < nxP C row p + frt (nxS C row p : Nat) then 70 else 0
noncomputable def trC (C row : List Int) (p : Nat) : Int := lst (nxS C row p : Nat) + ahead row (nxP C row p) (frt (nxS C row p : Nat))
noncomputable def trP (C row : List Int) (p : Nat) : Nat := nxP C row p + frt (nxS C row p : Nat)

noncomputable def rl (C row : List Int) (want : Nat) : Nat → List Int → Nat → Int × List Int × Nat
  | 0, acc, p => (0, acc, p)
  | f + 1, acc, p =>
    if acc.length < want then
      if trE C row p ≠ 0 then (70, [], p)
      else if nxS C row p = 16 ∧ acc = [] then (73, [], p)
      else if (want : Int) < acc.length + trC C row p then (74, [], p)
      else rl C row want f (lay acc ((nxS C row p : Nat), trC C row p)) (trP C row p)
    else (0, acc, p)

noncomputable def rdA (row : List Int) (p : Nat) : Int × List Int × List Int × Nat :=
  if rcE row p ≠ 0 then (rcE row p, [], [], p) else
  if smE row (p + 14) (rcN row p) ≠ 0 then (smE row (p + 14) (rcN row p), [], [], p) else
  if (rl (smC row (p + 14) (rcN row p)) row (rcL row p + rcD row p) (rcL row p + rcD row p) [] (p + 14 + 3 * rcN row p)).1 ≠ 0 then ((rl (smC row (p + 14) (rcN row p)) row (rcL row p + rcD row p) (rcL row p + rcD row p) [] (p + 14 + 3 * rcN row p)).1, [], [], p) else
  if hck ((rl (smC row (p + 14) (rcN row p)) row (rcL row p + rcD row p) (rcL row p + rcD row p) [] (p + 14 + 3 * rcN row p)).2.1.take (rcL row p)) ((rl (smC row (p + 14) (rcN row p)) row (rcL row p + rcD row p) (rcL row p + rcD row p) [] (p + 14 + 3 * rcN row p)).2.1.drop (rcL row p)) ≠ 0 then (hck ((rl (smC row (p + 14) (rcN row p)) row (rcL row p + rcD row p) (rcL row p + rcD row p) [] (p + 14 + 3 * rcN row p)).2.1.take (rcL row p)) ((rl (smC row (p + 14) (rcN row p)) row (rcL row p + rcD row p) (rcL row p + rcD row p) [] (p + 14 + 3 * rcN row p)).2.1.drop (rcL row p)), [], [], p) else
  (0, (rl (smC row (p + 14) (rcN row p)) row (rcL row p + rcD row p) (rcL row p + rcD row p) [] (p + 14 + 3 * rcN row p)).2.1.take (rcL row p), (rl (smC row (p + 14) (rcN row p)) row (rcL row p + rcD row p) (rcL row p + rcD row p) [] (p + 14 + 3 * rcN row p)).2.1.drop (rcL row p), (rl (smC row (p + 14) (rcN row p)) row (rcL row p + rcD row p) (rcL row p + rcD row p) [] (p + 14 + 3 * rcN row p)).2.2)

theorem rd_c {row : List Int} {p : Nat} (h : rcE row p ≠ 0) : rdA row p = (rcE row p, [], [], p) := by unfold rdA; rw [if_pos h]
theorem rd_s {row : List Int} {p : Nat} (h : rcE row p = 0) (h2 : smE row (p + 14) (rcN row p) ≠ 0) : rdA row p = (smE row (p + 14) (rcN row p), [], [], p) := by unfold rdA; rw [if_neg (by simp [h]), if_pos h2]
theorem rd_l {row : List Int} {p : Nat} {x : Int × List Int × Nat} (h : rcE row p = 0) (h2 : smE row (p + 14) (rcN row p) = 0) (hx : rl (smC row (p + 14) (rcN row p)) row (rcL row p + rcD row p) (rcL row p + rcD row p) [] (p + 14 + 3 * rcN row p) = x) :
    rdA row p = if x.1 ≠ 0 then (x.1, [], [], p) else if hck (x.2.1.take (rcL row p)) (x.2.1.drop (rcL row p)) ≠ 0 then (hck (x.2.1.take (rcL row p)) (x.2.1.drop (rcL row p)), [], [], p) else (0, x.2.1.take (rcL row p), x.2.1.drop (rcL row p), x.2.2) := by
  unfold rdA
  rw [if_neg (by simp [h]), if_neg (by simp [h2]), hx]

theorem lst_pos (s : Int) : 1 ≤ lst s ∧ lst s ≤ 11 := by unfold lst; split <;> (try split) <;> omega

theorem tr_bound {C row : List Int} (hb : Bit row) (p : Nat) : 1 ≤ trC C row p ∧ trC C row p ≤ 138 := by
  unfold trC
  have h1 := ahead_bound hb (nxP C row p) (frt (nxS C row p : Nat))
  have h2 := lst_pos (nxS C row p : Nat)
  refine ⟨by omega, ?_⟩
  by_cases c : ((nxS C row p : Nat) : Int) < 16
  · have e1 : frt (nxS C row p : Nat) = 0 := by unfold frt; rw [if_pos c]
    rw [e1] at h1 ⊢
    have := h1.2
    simp at this
    omega
  · by_cases c2 : ((nxS C row p : Nat) : Int) < 18
    · have e1 : frt (nxS C row p : Nat) ≤ 3 := by unfold frt; rw [if_neg c]; split; omega; split <;> omega
      have := pow_le e1
      have e3 : (2 : Int) ^ 3 = 8 := by decide
      omega
    · have e1 : frt (nxS C row p : Nat) = 7 := by unfold frt; rw [if_neg c, if_neg (by omega), if_neg (by omega)]
      rw [e1] at h1 ⊢
      have e3 : (2 : Int) ^ 7 = 128 := by decide
      omega

theorem lay_in {a : List Int} {r : Rn} (h : ∀ x ∈ a, 0 ≤ x ∧ x ≤ 15) (h0 : 0 ≤ r.1) : ∀ x ∈ lay a r, 0 ≤ x ∧ x ≤ 15 := by
  intro x hx
  unfold lay at hx
  rcases List.mem_append.1 hx with q | q
  · exact h x q
  · rw [List.eq_of_mem_replicate q]
    unfold mnt
    split
    · omega
    · split
      · rw [List.getD_eq_getElem?_getD]
        cases e : a[a.length - 1]? with
        | none => simp
        | some y => exact h y (List.mem_of_getElem? e)
      · omega

theorem rl_facts {C row : List Int} (hb : Bit row) (want : Nat) : ∀ f acc p, want - acc.length ≤ f → acc.length ≤ want → (∀ x ∈ acc, 0 ≤ x ∧ x ≤ 15) → (rl C row want f acc p).1 = 0 → (rl C row want f acc p).2.1.length = want ∧ ∀ x ∈ (rl C row want f acc p).2.1, 0 ≤ x ∧ x ≤ 15
  | 0, acc, p, hf, hl, ha, _ => ⟨by show acc.length = want; omega, ha⟩
  | f + 1, acc, p, hf, hl, ha, h0 => by
    by_cases c : acc.length < want
    · rw [rl, if_pos c] at h0 ⊢
      by_cases c1 : trE C row p ≠ 0
      · rw [if_pos c1] at h0; simp at h0
      · rw [if_neg c1] at h0 ⊢
        by_cases c2 : nxS C row p = 16 ∧ acc = []
        · rw [if_pos c2] at h0; simp at h0
        · rw [if_neg c2] at h0 ⊢
          by_cases c3 : (want : Int) < acc.length + trC C row p
          · rw [if_pos c3] at h0; simp at h0
          · rw [if_neg c3] at h0 ⊢
            have ht := tr_bound (C := C) hb p
            refine rl_facts hb want f _ _ ?_ ?_ (lay_in ha (by show (0 : Int) ≤ (nxS C row p : Nat); omega)) h0
            · rw [lay_len]; show want - (acc.length + (trC C row p).toNat) ≤ f; omega
            · rw [lay_len]; show acc.length + (trC C row p).toNat ≤ want; omega
    · rw [rl, if_neg c]
      exact ⟨by show acc.length = want; omega, ha⟩

end Go.Proofs.YtmjdpfigkojolaaGreatDoor

namespace Go.Proofs.YtmjdpfigkojolaaGreatDoor
open Go.RowKit Go.Maps
set_option maxRecDepth 20000
set_option linter.unusedVariables false

theorem rd_cases (row : List Int) (p : Nat) : ((rdA row p).1 ≠ 0 ∧ (rdA row p).2.1 = [] ∧ (rdA row p).2.2.1 = []) ∨ ((rdA row p).1 = 0 ∧ rcE row p = 0 ∧ smE row (p + 14) (rcN row p) = 0 ∧ ∃ x : List Int × Nat, rl (smC row (p + 14) (rcN row p)) row (rcL row p + rcD row p) (rcL row p + rcD row p) [] (p + 14 + 3 * rcN row p) = (0, x.1, x.2) ∧ hck (x.1.take (rcL row p)) (x.1.drop (rcL row p)) = 0 ∧ rdA row p = (0, x.1.take (rcL row p), x.1.drop (rcL row p), x.2)) := by
  by_cases h1 : rcE row p ≠ 0
  · rw [rd_c h1]; exact .inl ⟨h1, rfl, rfl⟩
  have h1' : rcE row p = 0 := by omega
  by_cases h2 : smE row (p + 14) (rcN row p) ≠ 0
  · rw [rd_s h1' h2]; exact .inl ⟨h2, rfl, rfl⟩
  have h2' : smE row (p + 14) (rcN row p) = 0 := by omega
  obtain ⟨x, hx⟩ : ∃ x, rl (smC row (p + 14) (rcN row p)) row (rcL row p + rcD row p) (rcL row p + rcD row p) [] (p + 14 + 3 * rcN row p) = x := ⟨_, rfl⟩
  obtain ⟨e, a, q⟩ := x
  have hr := rd_l h1' h2' hx
  simp only at hr
  by_cases h3 : e ≠ 0
  · rw [if_pos h3] at hr
    rw [hr]
    exact .inl ⟨h3, rfl, rfl⟩
  · rw [if_neg h3] at hr
    by_cases h4 : hck (a.take (rcL row p)) (a.drop (rcL row p)) ≠ 0
    · rw [if_pos h4] at hr
      rw [hr]
      exact .inl ⟨h4, rfl, rfl⟩
    · rw [if_neg h4] at hr
      have h3' : e = 0 := by omega
      subst h3'
      exact .inr ⟨by rw [hr], h1', h2', (a, q), hx, Classical.not_not.1 h4, hr⟩

end Go.Proofs.YtmjdpfigkojolaaGreatDoor

namespace Go.Proofs.YtmjdpfigkojolaaGreatDoor
open Go.RowKit Go.Maps
set_option maxRecDepth 20000
set_option linter.unusedVariables false

noncomputable def syE (l row : List Int) (p : Nat) : Int := if nxE l row p = 0 then 0 else if nxE l row p = 54 then 80 else 83

def lnF (s : Nat) : Nat := if s = 285 then 0 else if s < 265 then 0 else (s - 257) / 4 - 1
def lnB (s : Nat) : Nat := if s = 285 then 258 else if s < 265 then s - 254 else 3 + (4 + (s - 257) % 4) * 2 ^ lnF s
def dsF (s : Nat) : Nat := if s < 4 then 0 else s / 2 - 1
def dsB (s : Nat) : Nat := if s < 4 then 1 + s else 1 + (2 + s % 2) * 2 ^ dsF s

def lgE (s : Nat) (row : List Int) (q : Nat) : Int := if 285 < s then 83 else if row.length < q + lnF s then 80 else 0
def lgV (s : Nat) (row : List Int) (q : Nat) : Nat := lnB s + (ahead row q (lnF s)).toNat
def lgP (s q : Nat) : Nat := q + lnF s

noncomputable def dtE (d row : List Int) (q : Nat) : Int := if dcE d ≠ 0 then 83 else if syE d row q ≠ 0 then syE d row q else if 29 < nxS d row q then 83 else if row.length < nxP d row q + dsF (nxS d row q) then 80 else 0
noncomputable def dtV (d row : List Int) (q : Nat) : Nat := dsB (nxS d row q) + (ahead row (nxP d row q) (dsF (nxS d row q))).toNat
noncomputable def dtP (d row : List Int) (q : Nat) : Nat := nxP d row q + dsF (nxS d row q)

def cpy (d : Nat) : Nat → List Int → List Int
  | 0, out => out
  | n + 1, out => cpy d n (out ++ [out.getD (out.length - d) 0])
def agE (L : Nat) (out : List Int) (n d : Nat) : Int := if out.length < d then 84 else if L < out.length + n then 85 else 0

noncomputable def sy1 (l d row : List Int) (L p : Nat) (out : List Int) : Int × Bool × Nat × List Int :=
  if syE l row p ≠ 0 then (syE l row p, false, p, out)
  else if nxS l row p < 256 then (if L < out.length + 1 then (85, false, p, out) else (0, false, nxP l row p, out ++ [(nxS l row p : Int)]))
  else if nxS l row p = 256 then (0, true, nxP l row p, out)
  else if lgE (nxS l row p) row (nxP l row p) ≠ 0 then (lgE (nxS l row p) row (nxP l row p), false, p, out)
  else if dtE d row (lgP (nxS l row p) (nxP l row p)) ≠ 0 then (dtE d row (lgP (nxS l row p) (nxP l row p)), false, p, out)
  else if agE L out (lgV (nxS l row p) row (nxP l row p)) (dtV d row (lgP (nxS l row p) (nxP l row p))) ≠ 0 then (agE L out (lgV (nxS l row p) row (nxP l row p)) (dtV d row (lgP (nxS l row p) (nxP l row p))), false, p, out)
  else (0, false, dtP d row (lgP (nxS l row p) (nxP l row p)), cpy (dtV d row (lgP (nxS l row p) (nxP l row p))) (lgV (nxS l row p) row (nxP l row p)) out)

inductive Sys (l d row : List Int) (L : Nat) : Nat → List Int → Int → Nat → List Int → Prop
  | bad {p : Nat} {out : List Int} {e : Int} {q : Nat} {o : List Int} {b : Bool} : sy1 l d row L p out = (e, b, q, o) → e ≠ 0 → Sys l d row L p out e p out
  | fin {p : Nat} {out : List Int} {q : Nat} {o : List Int} : sy1 l d row L p out = (0, true, q, o) → Sys l d row L p out 0 q o
  | go {p : Nat} {out : List Int} {q : Nat} {o : List Int} {e : Int} {q' : Nat} {o' : List Int} : sy1 l d row L p out = (0, false, q, o) → Sys l d row L q o e q' o' → Sys l d row L p out e q' o'

theorem Sys.det {l d row : List Int} {L p : Nat} {out : List Int} {e : Int} {q : Nat} {o : List Int} (h : Sys l d row L p out e q o) : ∀ {e' : Int} {q' : Nat} {o' : List Int}, Sys l d row L p out e' q' o' → e = e' ∧ q = q' ∧ o = o' := by
  induction h with
  | bad h1 h2 =>
    intro e' q' o' k
    cases k with
    | bad k1 k2 => rw [h1] at k1; cases k1; exact ⟨rfl, rfl, rfl⟩
    | fin k1 => rw [h1] at k1; cases k1; exact absurd rfl h2
    | go k1 k2 => rw [h1] at k1; cases k1; exact absurd rfl h2
  | fin h1 =>
    intro e' q' o' k
    cases k with
    | bad k1 k2 => rw [h1] at k1; cases k1; exact absurd rfl k2
    | fin k1 => rw [h1] at k1; cases k1; exact ⟨rfl, rfl, rfl⟩
    | go k1 k2 => rw [h1] at k1; cases k1
  | go h1 h2 ih =>
    intro e' q' o' k
    cases k with
    | bad k1 k2 => rw [h1] at k1; cases k1; exact absurd rfl k2
    | fin k1 => rw [h1] at k1; cases k1
    | go k1 k2 => rw [h1] at k1; cases k1; exact ih k2

noncomputable def st1 (row : List Int) (L p : Nat) (out : List Int) : Int × Nat × List Int :=
  if row.length < algn p + 32 then (80, p, out)
  else if ahead row (algn p) 16 + ahead row (algn p + 16) 16 ≠ 65535 then (82, p, out)
  else if L < out.length + (ahead row (algn p) 16).toNat then (85, p, out)
  else if row.length < algn p + 32 + 8 * (ahead row (algn p) 16).toNat then (80, p, out)
  else (0, algn p + 32 + 8 * (ahead row (algn p) 16).toNat, out ++ pack ((row.drop (algn p + 32)).take (8 * (ahead row (algn p) 16).toNat)))

def FL : List Int := List.replicate 144 8 ++ List.replicate 112 9 ++ List.replicate 24 7 ++ List.replicate 8 8
def FD : List Int := List.replicate 32 5

inductive Blk (row : List Int) (L p : Nat) (out : List Int) : Int → Bool → Int → Nat → List Int → Prop
  | short {b : Bool} {k : Int} : row.length < p + 3 → Blk row L p out 80 b k p out
  | three {b : Bool} {k : Int} : p + 3 ≤ row.length → ahead row (p + 1) 2 = 3 → Blk row L p out 81 b k p out
  | stored {e : Int} {q : Nat} {o : List Int} : p + 3 ≤ row.length → ahead row (p + 1) 2 = 0 → st1 row L (p + 3) out = (e, q, o) → Blk row L p out e (ahead row p 1 == 1) 0 q o
  | fixed {e : Int} {q : Nat} {o : List Int} : p + 3 ≤ row.length → ahead row (p + 1) 2 = 1 → Sys FL FD row L (p + 3) out e q o → Blk row L p out e (ahead row p 1 == 1) 1 q o
  | head {b : Bool} {k : Int} : p + 3 ≤ row.length → ahead row (p + 1) 2 = 2 → (rdA row (p + 3)).1 ≠ 0 → Blk row L p out (rdA row (p + 3)).1 b k p out
  | dyn {e : Int} {q : Nat} {o : List Int} : p + 3 ≤ row.length → ahead row (p + 1) 2 = 2 → (rdA row (p + 3)).1 = 0 → Sys (rdA row (p + 3)).2.1 (rdA row (p + 3)).2.2.1 row L (rdA row (p + 3)).2.2.2 out e q o → Blk row L p out e (ahead row p 1 == 1) 2 q o

theorem Blk.det {row : List Int} {L p : Nat} {out : List Int} {e : Int} {b : Bool} {k : Int} {q : Nat} {o : List Int} (h : Blk row L p out e b k q o) {e' : Int} {b' : Bool} {k' : Int} {q' : Nat} {o' : List Int} (h' : Blk row L p out e' b' k' q' o') : e = e' ∧ (e = 0 → b = b' ∧ k = k' ∧ q = q' ∧ o = o') := by
  cases h <;> cases h' <;> first
    | (exfalso; omega)
    | exact ⟨rfl, fun h => absurd h (by decide)⟩
    | skip
  · rename_i h1 h2 h3 k1 k2 k3
    rw [h3] at k3; cases k3
    exact ⟨rfl, fun _ => ⟨rfl, rfl, rfl, rfl⟩⟩
  · rename_i h1 h2 h3 k1 k2 k3
    obtain ⟨rfl, rfl, rfl⟩ := h3.det k3
    exact ⟨rfl, fun _ => ⟨rfl, rfl, rfl, rfl⟩⟩
  · rename_i h1 h2 h3 k1 k2 k3
    exact ⟨rfl, fun h => absurd h h3⟩
  · rename_i h1 h2 h3 h4 k1 k2 k3 k4
    obtain ⟨rfl, rfl, rfl⟩ := h4.det k4
    exact ⟨rfl, fun _ => ⟨rfl, rfl, rfl, rfl⟩⟩

structure Pc where
  kind : Int
  fin : Bool
  at0 : Nat
  at1 : Nat
  to0 : Nat
  to1 : Nat

inductive Txt (row : List Int) (L : Nat) : Nat → List Int → List Pc → Int → Nat → List Int → Prop
  | bad {p : Nat} {out : List Int} {e : Int} {b : Bool} {k : Int} {q : Nat} {o : List Int} : Blk row L p out e b k q o → e ≠ 0 → Txt row L p out [] e p out
  | last {p : Nat} {out : List Int} {k : Int} {q : Nat} {o : List Int} : Blk row L p out 0 true k q o → Txt row L p out [⟨k, true, p, q, out.length, o.length⟩] 0 q o
  | go {p : Nat} {out : List Int} {k : Int} {q : Nat} {o : List Int} {ps : List Pc} {e : Int} {q' : Nat} {o' : List Int} : Blk row L p out 0 false k q o → Txt row L q o ps e q' o' → Txt row L p out (⟨k, false, p, q, out.length, o.length⟩ :: ps) e q' o'

theorem Txt.det {row : List Int} {L p : Nat} {out : List Int} {ps : List Pc} {e : Int} {q : Nat} {o : List Int} (h : Txt row L p out ps e q o) : ∀ {ps' : List Pc} {e' : Int} {q' : Nat} {o' : List Int}, Txt row L p out ps' e' q' o' → ps = ps' ∧ e = e' ∧ q = q' ∧ o = o' := by
  induction h with
  | bad h1 h2 =>
    intro ps' e' q' o' k
    cases k with
    | bad k1 k2 => obtain ⟨rfl, _⟩ := h1.det k1; exact ⟨rfl, rfl, rfl, rfl⟩
    | last k1 => exact absurd (h1.det k1).1 h2
    | go k1 k2 => exact absurd (h1.det k1).1 h2
  | last h1 =>
    intro ps' e' q' o' k
    cases k with
    | bad k1 k2 => exact absurd (h1.det k1).1.symm k2
    | last k1 => obtain ⟨_, r⟩ := h1.det k1; obtain ⟨-, rfl, rfl, rfl⟩ := r rfl; exact ⟨rfl, rfl, rfl, rfl⟩
    | go k1 k2 => obtain ⟨_, r⟩ := h1.det k1; obtain ⟨c, -⟩ := r rfl; cases c
  | go h1 h2 ih =>
    intro ps' e' q' o' k
    cases k with
    | bad k1 k2 => exact absurd (h1.det k1).1.symm k2
    | last k1 => obtain ⟨_, r⟩ := h1.det k1; obtain ⟨c, -⟩ := r rfl; cases c
    | go k1 k2 =>
      obtain ⟨_, r⟩ := h1.det k1; obtain ⟨-, rfl, rfl, rfl⟩ := r rfl
      obtain ⟨rfl, rfl, rfl, rfl⟩ := ih k2; exact ⟨rfl, rfl, rfl, rfl⟩

def Ifl (data : List Int) (limit : Int) (e : Int) (n : Nat) (o : List Int) : Prop :=
  (¬ (data.length ≤ 33554432 ∧ 0 ≤ limit ∧ limit ≤ 16777216) ∧ e = 1 ∧ n = 0 ∧ o = []) ∨
  ((data.length ≤ 33554432 ∧ 0 ≤ limit ∧ limit ≤ 16777216) ∧ ∃ ps q o', Txt (unpack data) limit.toNat 0 [] ps e q o' ∧ ((e = 0 ∧ n = q ∧ o = o') ∨ (e ≠ 0 ∧ n = 0 ∧ o = [])))

theorem Ifl.det {data : List Int} {limit e : Int} {n : Nat} {o : List Int} (h : Ifl data limit e n o) {e' : Int} {n' : Nat} {o' : List Int} (h' : Ifl data limit e' n' o') : e = e' ∧ n = n' ∧ o = o' := by
  rcases h with ⟨a, rfl, rfl, rfl⟩ | ⟨a, ps, q, x, t, r⟩ <;> rcases h' with ⟨a', rfl, rfl, rfl⟩ | ⟨a', ps', q', x', t', r'⟩
  · exact ⟨rfl, rfl, rfl⟩
  · exact absurd a' a
  · exact absurd a a'
  · obtain ⟨-, rfl, rfl, rfl⟩ := t.det t'
    rcases r with ⟨c, rfl, rfl⟩ | ⟨c, rfl, rfl⟩ <;> rcases r' with ⟨c', rfl, rfl⟩ | ⟨c', rfl, rfl⟩
    · exact ⟨rfl, rfl, rfl⟩
    · exact absurd c c'
    · exact absurd c' c
    · exact ⟨rfl, rfl, rfl⟩
end Go.Proofs.YtmjdpfigkojolaaGreatDoor

namespace Go.Proofs.YtmjdpfigkojolaaGreatDoor
open Go.RowKit Go.Maps
set_option maxRecDepth 20000
set_option linter.unusedVariables false

theorem SI.sub {w : World} {b o cap : Nat} {l : List Int} (h : SI w (.slice (some ⟨b, o, none⟩) l.length cap) l) {i j : Nat} (hij : i ≤ j) (hj : j ≤ l.length) : SI w (.slice (some ⟨b, o + i, none⟩) (j - i) (cap - i)) ((l.drop i).take (j - i)) := by
  obtain ⟨ao', cap', he, h1, h2, h3, h4⟩ := h
  simp only [Value.slice.injEq] at he
  obtain ⟨rfl, -, rfl⟩ := he
  have hl : ((l.drop i).take (j - i)).length = j - i := by rw [List.length_take, List.length_drop]; omega
  refine ⟨_, _, by rw [hl], by rw [hl]; omega, by omega, (fun e => by cases e), fun x hx n hn => ?_⟩
  cases hx
  rw [hl] at hn
  have := h4 _ rfl (i + n) (by omega)
  rw [Addr.add_lit] at this ⊢
  rw [Nat.add_assoc, this]
  simp only [List.getD_eq_getElem?_getD, List.getElem?_take, List.getElem?_drop]
  rw [if_pos hn]

end Go.Proofs.YtmjdpfigkojolaaGreatDoor

namespace Go.Proofs.YtmjdpfigkojolaaGreatDoor
open Go.RowKit Go.Maps
set_option maxRecDepth 20000
set_option linter.unusedVariables false

structure Rsr (w wr : World) (l : List Int) (ao : Option Addr) (cap : Nat) (u : Value) (R : List Rn) : Prop where
  si : SI wr (.slice ao l.length cap) l
  tab : Tab wr
  row : OR wr w.heap.size u R
  bel : Below w.heap.size w wr

theorem Rsr.cells {w wr : World} {l : List Int} {ao : Option Addr} {cap : Nat} {u : Value} {R : List Rn} (h : Rsr w wr l ao cap u R) : wr.cell? ⟨2, 18, none⟩ = some (.int .i64 11) ∧ wr.cell? ⟨2, 17, none⟩ = some (.int .i64 3) ∧ wr.cell? ⟨2, 16, none⟩ = some (.int .i64 3) :=
  ⟨h.tab.least 18 (by omega), h.tab.least 17 (by omega), h.tab.least 16 (by omega)⟩

end Go.Proofs.YtmjdpfigkojolaaGreatDoor

