import Derived.Test.YtegoienjikjhkaaDoorGA27
import Derived.Test.YtegoienjikjhkaaDoorGA30
import Derived.Test.YtegoienjikjhkaaDoorGA32
import Derived.Test.YtegoienjikjhkaaDoorGA28
namespace Go.Proofs.YtegoienjikjhkaaDoor
open Go.RowKit Go.Maps
set_option maxRecDepth 20000

theorem putOk_of {row : List Int} {v : Int} {n : Nat} (h1 : v < 2 ^ n) (h2 : n ≤ 32) (h3 : row.length + n ≤ 268435456) : putOk row v n := ⟨⟨⟨by omega, by omega⟩, by simpa using h1⟩, by omega⟩

theorem putE_ok {row : List Int} {v : Int} {n : Nat} (h : putOk row v n) : putE row v n = 0 ∧ putRow row v n = row ++ bts v n := ⟨if_pos h, by unfold putRow; rw [if_pos h]; rfl⟩

theorem takeOk_of {row : List Int} {p n : Nat} (h1 : n ≤ 32) (h2 : p + n ≤ row.length) : takeOk row p n := ⟨⟨by omega, by omega⟩, by omega⟩

theorem take_ok {row : List Int} {p n : Nat} (h : takeOk row p n) : takeE row p n = 0 ∧ takeV row p n = ahead row p n ∧ takeP row p n = p + n :=
  ⟨by unfold takeE; rw [if_pos h.1, if_pos h.2], by unfold takeV; rw [if_pos h]; rfl, by unfold takeP; rw [if_pos h]; rfl⟩

theorem skip_ok {row : List Int} {p n : Nat} (h : p + n ≤ row.length) : skipE row p n = 0 ∧ skipP row p n = p + n :=
  ⟨by unfold skipE; rw [if_neg (by omega), if_pos (by omega)], by unfold skipP; rw [if_neg (by omega), if_pos (by omega)]; rfl⟩

theorem ahead_at {row : List Int} {p n : Nat} {x y : List Int} (h : row.drop p = x ++ y) (hx : x.length = n) : ahead row p n = val x := by
  unfold ahead
  rw [h, List.take_append_of_le_length (by omega), List.take_of_length_le (by omega)]

/-- A number within n bits. -/
theorem low_in (v : Int) {n : Nat} (hn : n ≤ 32) : 0 ≤ v % 2 ^ n ∧ v % 2 ^ n < 2 ^ n ∧ v % 2 ^ n < 4294967296 := by
  have hp32 : (2 : Int) ^ n ≤ 2 ^ 32 := pow_le hn
  have hpn := pow_pos n
  have h1 : 0 ≤ v % 2 ^ n := Int.emod_nonneg _ (by omega)
  have h2 : v % 2 ^ n < 2 ^ n := Int.emod_lt_of_pos _ hpn
  exact ⟨h1, h2, by omega⟩

theorem bts_get (v : Int) {n j : Nat} (h : j < n) : (bts v n)[j]? = some (v / 2 ^ j % 2) := by
  have hs := bts_split v j (n - j)
  rw [show j + (n - j) = n by omega] at hs
  rw [hs, List.getElem?_append_right (by rw [length_bts]; omega), length_bts, Nat.sub_self]
  obtain ⟨m, hm⟩ : ∃ m, n - j = m + 1 := ⟨n - j - 1, by omega⟩
  rw [hm]
  rfl

theorem unpack_get {l : List Int} {k j : Nat} {b : Int} (hk : l[k]? = some b) (hj : j < 8) : (unpack l)[8 * k + j]? = some (b / 2 ^ j % 2) := by
  obtain ⟨hkl, rfl⟩ := List.getElem?_eq_some_iff.1 hk
  have e : unpack l = unpack (l.take k) ++ (bts l[k] 8 ++ unpack (l.drop (k + 1))) := by
    conv => lhs; rw [← List.take_append_drop k l]
    rw [unpack_append, List.drop_eq_getElem_cons hkl, unpack_cons]
  have hl : (unpack (l.take k)).length = 8 * k := by rw [length_unpack, List.length_take]; omega
  rw [e, List.getElem?_append_right (by omega), hl, show 8 * k + j - 8 * k = j by omega, List.getElem?_append_left (by rw [length_bts]; exact hj)]
  exact bts_get _ hj

theorem ahead_one {U : List Int} {p : Nat} {x : Int} (h : U[p]? = some x) : ahead U p 1 = x := by
  obtain ⟨hp, rfl⟩ := List.getElem?_eq_some_iff.1 h
  rw [ahead_at (n := 1) (x := [U[p]]) (y := U.drop (p + 1)) (by rw [List.drop_eq_getElem_cons hp]; rfl) rfl]
  simp [val]

theorem take_one {U : List Int} {p : Nat} {x : Int} (h : U[p]? = some x) : U.take (p + 1) = U.take p ++ [x] := by
  obtain ⟨hp, rfl⟩ := List.getElem?_eq_some_iff.1 h
  exact List.take_succ_eq_append_getElem hp

/-- A byte of a list that was there. -/
theorem SB.byte {W w : World} {ao : Option Addr} {cap : Nat} {l : List Int} (h : SB W (.slice ao l.length cap) l) (hb : Below W.heap.size W w) {k : Nat} (hk : k < l.length) : ∃ b o, ao = some ⟨b, o, none⟩ ∧ w.cell? ⟨b, o + k, none⟩ = some (.int .u8 (l.getD k 0)) := by
  obtain ⟨ao', cap', hue, hc1, hc2, hc3, hc4⟩ := h
  simp only [Value.slice.injEq] at hue
  obtain ⟨rfl, -, rfl⟩ := hue
  cases ao with
  | none => have := hc3 rfl; omega
  | some x0 =>
    obtain ⟨b, o, rfl⟩ := addr_lit (hc4 x0 rfl 0 (by omega))
    have hc := hc4 _ rfl k hk
    have hbl := World.block_lt_of_cell? _ _ hc
    rw [Addr.add_lit] at hc hbl
    exact ⟨b, o, rfl, (hb.cell hbl).trans hc⟩

theorem SB.cap {W : World} {ao : Option Addr} {cap : Nat} {l : List Int} (h : SB W (.slice ao l.length cap) l) : l.length ≤ cap ∧ cap ≤ 9223372036854775807 := by
  obtain ⟨ao', cap', hue, hc1, hc2, _⟩ := h
  simp only [Value.slice.injEq] at hue
  obtain ⟨-, -, rfl⟩ := hue
  unfold maxLen at hc2
  exact ⟨hc1, hc2⟩

end Go.Proofs.YtegoienjikjhkaaDoor

namespace Go.Proofs.YtegoienjikjhkaaDoor
open Go.RowKit Go.Maps
set_option linter.unusedVariables false

/-- The three counts, and their error. -/
def rcL (row : List Int) (p : Nat) : Nat := 257 + (ahead row p 14 % 32).toNat
def rcD (row : List Int) (p : Nat) : Nat := 1 + (ahead row p 14 / 32 % 32).toNat
def rcN (row : List Int) (p : Nat) : Nat := 4 + (ahead row p 14 / 1024).toNat
def rcE (row : List Int) (p : Nat) : Int := if row.length < p + 14 then 70 else if 286 < rcL row p ∨ 30 < rcD row p then 71 else 0

/-- The small code's lengths, and their error. -/
def smC (row : List Int) (p : Nat) : Nat → List Int
  | 0 => List.replicate 19 0
  | n + 1 => (smC row p n).set (zor.getD n 0).toNat (ahead row (p + 3 * n) 3)
def smE (row : List Int) (p n : Nat) : Int := if row.length < p + 3 * n then 70 else if chkS (smC row p n) ≠ 4 then 72 else 0

/-- One run: its error, its count, where it ends. -/
noncomputable def trE (C row : List Int) (p : Nat) : Int := if nxE C row p ≠ 0 then 70 else if row.length < nxP C row p + frt (nxS C row p : Nat) then 70 else 0
noncomputable def trC (C row : List Int) (p : Nat) : Int := lst (nxS C row p : Nat) + ahead row (nxP C row p) (frt (nxS C row p : Nat))
noncomputable def trP (C row : List Int) (p : Nat) : Nat := nxP C row p + frt (nxS C row p : Nat)

/-- The lengths, run by run. -/
noncomputable def rl (C row : List Int) (want : Nat) : Nat → List Int → Nat → Int × List Int × Nat
  | 0, acc, p => (0, acc, p)
  | f + 1, acc, p =>
    if acc.length < want then
      if trE C row p ≠ 0 then (70, [], p)
      else if nxS C row p = 16 ∧ acc = [] then (73, [], p)
      else if (want : Int) < acc.length + trC C row p then (74, [], p)
      else rl C row want f (lay acc ((nxS C row p : Nat), trC C row p)) (trP C row p)
    else (0, acc, p)

/-- What Read answers: the error, the two lists, where it stands then. -/
noncomputable def rdA (row : List Int) (p : Nat) : Int × List Int × List Int × Nat :=
  if rcE row p ≠ 0 then (rcE row p, [], [], p) else
  if smE row (p + 14) (rcN row p) ≠ 0 then (smE row (p + 14) (rcN row p), [], [], p) else
  if (rl (smC row (p + 14) (rcN row p)) row (rcL row p + rcD row p) (rcL row p + rcD row p) [] (p + 14 + 3 * rcN row p)).1 ≠ 0 then ((rl (smC row (p + 14) (rcN row p)) row (rcL row p + rcD row p) (rcL row p + rcD row p) [] (p + 14 + 3 * rcN row p)).1, [], [], p) else
  if hck ((rl (smC row (p + 14) (rcN row p)) row (rcL row p + rcD row p) (rcL row p + rcD row p) [] (p + 14 + 3 * rcN row p)).2.1.take (rcL row p)) ((rl (smC row (p + 14) (rcN row p)) row (rcL row p + rcD row p) (rcL row p + rcD row p) [] (p + 14 + 3 * rcN row p)).2.1.drop (rcL row p)) ≠ 0 then (hck ((rl (smC row (p + 14) (rcN row p)) row (rcL row p + rcD row p) (rcL row p + rcD row p) [] (p + 14 + 3 * rcN row p)).2.1.take (rcL row p)) ((rl (smC row (p + 14) (rcN row p)) row (rcL row p + rcD row p) (rcL row p + rcD row p) [] (p + 14 + 3 * rcN row p)).2.1.drop (rcL row p)), [], [], p) else
  (0, (rl (smC row (p + 14) (rcN row p)) row (rcL row p + rcD row p) (rcL row p + rcD row p) [] (p + 14 + 3 * rcN row p)).2.1.take (rcL row p), (rl (smC row (p + 14) (rcN row p)) row (rcL row p + rcD row p) (rcL row p + rcD row p) [] (p + 14 + 3 * rcN row p)).2.1.drop (rcL row p), (rl (smC row (p + 14) (rcN row p)) row (rcL row p + rcD row p) (rcL row p + rcD row p) [] (p + 14 + 3 * rcN row p)).2.2)

theorem rd_c {row : List Int} {p : Nat} (h : rcE row p ≠ 0) : rdA row p = (rcE row p, [], [], p) := by unfold rdA; rw [if_pos h]
theorem rd_s {row : List Int} {p : Nat} (h : rcE row p = 0) (h2 : smE row (p + 14) (rcN row p) ≠ 0) : rdA row p = (smE row (p + 14) (rcN row p), [], [], p) := by unfold rdA; rw [if_neg (by simp [h]), if_pos h2]
theorem rd_l {row : List Int} {p : Nat} {x : Int × List Int × Nat} (h : rcE row p = 0) (h2 : smE row (p + 14) (rcN row p) = 0) (hx : rl (smC row (p + 14) (rcN row p)) row (rcL row p + rcD row p) (rcL row p + rcD row p) [] (p + 14 + 3 * rcN row p) = x) :
    rdA row p = if x.1 ≠ 0 then (x.1, [], [], p) else if hck (x.2.1.take (rcL row p)) (x.2.1.drop (rcL row p)) ≠ 0 then (hck (x.2.1.take (rcL row p)) (x.2.1.drop (rcL row p)), [], [], p) else (0, x.2.1.take (rcL row p), x.2.1.drop (rcL row p), x.2.2) := by
  unfold rdA
  rw [if_neg (by simp [h]), if_neg (by simp [h2]), hx]

theorem lst_pos (s : Int) : 1 ≤ lst s ∧ lst s ≤ 11 := by unfold lst; split <;> (try split) <;> omega

theorem tr_bound {C row : List Int} (hb : Bit row) (p : Nat) : 1 ≤ trC C row p ∧ trC C row p ≤ 138 := by
  unfold trC
  have h1 := ahead_bound hb (nxP C row p) (frt (nxS C row p : Nat))
  have h2 := lst_pos (nxS C row p : Nat)
  refine ⟨by omega, ?_⟩
  by_cases c : ((nxS C row p : Nat) : Int) < 16
  · have e1 : frt (nxS C row p : Nat) = 0 := by unfold frt; rw [if_pos c]
    rw [e1] at h1 ⊢
    have := h1.2
    simp at this
    omega
  · by_cases c2 : ((nxS C row p : Nat) : Int) < 18
    · have e1 : frt (nxS C row p : Nat) ≤ 3 := by unfold frt; rw [if_neg c]; split; omega; split <;> omega
      have := pow_le e1
      have e3 : (2 : Int) ^ 3 = 8 := by decide
      omega
    · have e1 : frt (nxS C row p : Nat) = 7 := by unfold frt; rw [if_neg c, if_neg (by omega), if_neg (by omega)]
      rw [e1] at h1 ⊢
      have e3 : (2 : Int) ^ 7 = 128 := by decide
      omega

theorem lay_in {a : List Int} {r : Rn} (h : ∀ x ∈ a, 0 ≤ x ∧ x ≤ 15) (h0 : 0 ≤ r.1) : ∀ x ∈ lay a r, 0 ≤ x ∧ x ≤ 15 := by
  intro x hx
  unfold lay at hx
  rcases List.mem_append.1 hx with q | q
  · exact h x q
  · rw [List.eq_of_mem_replicate q]
    unfold mnt
    split
    · omega
    · split
      · rw [List.getD_eq_getElem?_getD]
        cases e : a[a.length - 1]? with
        | none => simp
        | some y => exact h y (List.mem_of_getElem? e)
      · omega

/-- What comes of it: so many lengths, each of them one. -/
theorem rl_facts {C row : List Int} (hb : Bit row) (want : Nat) : ∀ f acc p, want - acc.length ≤ f → acc.length ≤ want → (∀ x ∈ acc, 0 ≤ x ∧ x ≤ 15) → (rl C row want f acc p).1 = 0 → (rl C row want f acc p).2.1.length = want ∧ ∀ x ∈ (rl C row want f acc p).2.1, 0 ≤ x ∧ x ≤ 15
  | 0, acc, p, hf, hl, ha, _ => ⟨by show acc.length = want; omega, ha⟩
  | f + 1, acc, p, hf, hl, ha, h0 => by
    by_cases c : acc.length < want
    · rw [rl, if_pos c] at h0 ⊢
      by_cases c1 : trE C row p ≠ 0
      · rw [if_pos c1] at h0; simp at h0
      · rw [if_neg c1] at h0 ⊢
        by_cases c2 : nxS C row p = 16 ∧ acc = []
        · rw [if_pos c2] at h0; simp at h0
        · rw [if_neg c2] at h0 ⊢
          by_cases c3 : (want : Int) < acc.length + trC C row p
          · rw [if_pos c3] at h0; simp at h0
          · rw [if_neg c3] at h0 ⊢
            have ht := tr_bound (C := C) hb p
            refine rl_facts hb want f _ _ ?_ ?_ (lay_in ha (by show (0 : Int) ≤ (nxS C row p : Nat); omega)) h0
            · rw [lay_len]; show want - (acc.length + (trC C row p).toNat) ≤ f; omega
            · rw [lay_len]; show acc.length + (trC C row p).toNat ≤ want; omega
    · rw [rl, if_neg c]
      exact ⟨by show acc.length = want; omega, ha⟩

theorem rl_err {C row : List Int} (want : Nat) : ∀ f acc p, (rl C row want f acc p).1 ≠ 0 → (rl C row want f acc p).1 = 70 ∨ (rl C row want f acc p).1 = 73 ∨ (rl C row want f acc p).1 = 74
  | 0, acc, p, h => by simp [rl] at h
  | f + 1, acc, p, h => by
    by_cases c : acc.length < want
    · rw [rl, if_pos c] at h ⊢
      by_cases c1 : trE C row p ≠ 0
      · rw [if_pos c1]; simp
      · rw [if_neg c1] at h ⊢
        by_cases c2 : nxS C row p = 16 ∧ acc = []
        · rw [if_pos c2]; simp
        · rw [if_neg c2] at h ⊢
          by_cases c3 : (want : Int) < acc.length + trC C row p
          · rw [if_pos c3]; simp
          · rw [if_neg c3] at h ⊢
            exact rl_err want f _ _ h
    · rw [rl, if_neg c] at h; simp at h
end Go.Proofs.YtegoienjikjhkaaDoor

namespace Go.Proofs.YtegoienjikjhkaaDoor
open Go.RowKit Go.Maps
set_option maxRecDepth 20000
set_option linter.unusedVariables false

theorem getset {α : Type} {xs : List α} {i : Nat} {a b : α} (h : xs[i]? = some a) : (xs.set i b)[i]? = some b := by
  rw [List.getElem?_set_self', h]
  rfl

theorem Herd.same {W w : World} {xs : List ((Nat → Nat) × Thing)} (H : Herd W w xs) {i : Nat} {a : (Nat → Nat) × Thing} (h : xs[i]? = some a) : Herd W w (xs.set i a) := by
  have e : xs.set i a = xs := by
    apply List.ext_getElem?
    intro n
    rw [List.getElem?_set]
    by_cases c : i = n
    · subst c
      rw [if_pos rfl, h, if_pos (List.getElem?_eq_some_iff.1 h).1]
    · rw [if_neg c]
  rw [e]
  exact H

theorem Herd.set2 {W w : World} {xs : List ((Nat → Nat) × Thing)} {i : Nat} {a b : (Nat → Nat) × Thing} (H : Herd W w ((xs.set i a).set i b)) : Herd W w (xs.set i b) := by rwa [List.set_set] at H

theorem Herd.front {W w : World} {xs : List ((Nat → Nat) × Thing)} {x : (Nat → Nat) × Thing} (h : Herd W w (xs ++ [x])) : Herd W w xs := by
  have up : ∀ (i : Nat) d, xs[i]? = some d → (xs ++ [x])[i]? = some d := fun i d hd => by
    rw [List.getElem?_append_left (List.getElem?_eq_some_iff.1 hd).1]; exact hd
  exact ⟨h.bel, fun i d hd => h.rep i d (up i d hd), fun i d hd => h.up i d (up i d hd), fun i j d e hd he => h.sep i j d e (up i d hd) (up j e he)⟩

theorem setf {α : Type} {xs : List α} {i : Nat} {a b x : α} (h : xs[i]? = some a) : (xs ++ [x]).set i b = xs.set i b ++ [x] := List.set_append_left _ _ (List.getElem?_eq_some_iff.1 h).1

theorem get_front {α : Type} {xs : List α} {i : Nat} {a x : α} (h : xs[i]? = some a) : (xs ++ [x])[i]? = some a := by
  rw [List.getElem?_append_left (List.getElem?_eq_some_iff.1 h).1]; exact h

theorem get_last {α : Type} (xs : List α) (x : α) : (xs ++ [x])[xs.length]? = some x := by simp

/-- All of a herd lies below a block. -/
def Low (N : Nat) (xs : List ((Nat → Nat) × Thing)) : Prop := ∀ (i : Nat) (d : (Nat → Nat) × Thing), xs[i]? = some d → ∀ k, d.1 k ≠ 0 → k < N

theorem Herd.low {W w : World} {xs : List ((Nat → Nat) × Thing)} (H : Herd W w xs) : Low w.heap.size xs := fun i d hd k hk => d.2.sup (H.rep i d hd) k hk

theorem Low.set {N : Nat} {xs : List ((Nat → Nat) × Thing)} (h : Low N xs) {i : Nat} {K : Nat → Nat} {x y : Thing} (hi : xs[i]? = some (K, x)) : Low N (xs.set i (K, y)) := fun j d hd k hk => by
  rcases get_set hd with ⟨_, hd⟩ | ⟨_, rfl⟩
  · exact h j d hd k hk
  · exact h i _ hi k hk

theorem Herd.keep {W w w' : World} {xs : List ((Nat → Nat) × Thing)} (H : Herd W w xs) {N : Nat} (hN : Low N xs) (hW : W.heap.size ≤ N) (hb : Below N w w') : Herd W w' xs :=
  ⟨H.bel.trans (hb.mono hW), fun i d hd => d.2.far (H.rep i d hd) hb.size fun k hk => hb.block k (hN i d hd k hk), H.up, H.sep⟩

/-- A list of ints, with the block from which on it lies. -/
def tib (B : Nat) (v : Value) (l : List Int) : Thing :=
  ⟨fun w K => OI w B v l ∧ (∀ k, v.ownBlock = some k → K k ≠ 0) ∧ ∀ k, K k ≠ 0 → k < w.heap.size,
   fun h a b => ⟨h.1.move fun k hk => b k (h.2.1 k hk), h.2.1, fun k hk => Nat.lt_of_lt_of_le (h.2.2 k hk) a⟩, fun h => h.2.2⟩

theorem Herd.tibs {W w : World} {xs : List ((Nat → Nat) × Thing)} (H : Herd W w xs) {B : Nat} (hN : Low B xs) (hW : W.heap.size ≤ B) {v : Value} {l : List Int} (ho : OI w B v l) : ∃ K, Herd W w (xs ++ [(K, tib B v l)]) := by
  refine ⟨fun k => if v.ownBlock = some k then 1 else 0, H.bel, fun i d hd => ?_, fun i d hd k hk => ?_, fun i j d e hd he hij k hk => ?_⟩
  · rcases get_snoc hd with hd | ⟨_, rfl⟩
    · exact H.rep i d hd
    · refine ⟨ho, fun k hk => by simp [hk], fun k hk => ?_⟩
      by_cases e : v.ownBlock = some k
      · exact (ho.lt k e).2
      · simp [e] at hk
  · rcases get_snoc hd with hd | ⟨_, rfl⟩
    · exact H.up i d hd k hk
    · by_cases e : v.ownBlock = some k
      · have := (ho.lt k e).1; omega
      · simp [e] at hk
  · rcases get_snoc hd with hd | ⟨e1, rfl⟩
    · rcases get_snoc he with he | ⟨e2, rfl⟩
      · exact H.sep i j d e hd he hij k hk
      · have h1 := hN i d hd k hk
        by_cases q : v.ownBlock = some k
        · have := (ho.lt k q).1; omega
        · simp [q]
    · rcases get_snoc he with he | ⟨e2, rfl⟩
      · by_cases q : v.ownBlock = some k
        · have h2 := (ho.lt k q).1
          by_cases z : e.1 k = 0
          · exact z
          · have := hN j e he k z; omega
        · simp [q] at hk
      · omega

theorem Herd.mid {W w : World} {xs : List ((Nat → Nat) × Thing)} {y z : (Nat → Nat) × Thing} (H : Herd W w (xs ++ [y] ++ [z])) : Herd W w (xs ++ [z]) := by
  have f1 : ∀ (i : Nat) d, (xs ++ [z])[i]? = some d → (xs ++ [y] ++ [z])[if i < xs.length then i else i + 1]? = some d := fun i d hd => by
    by_cases c : i < xs.length
    · rw [if_pos c, List.append_assoc, List.getElem?_append_left c]
      rwa [List.getElem?_append_left c] at hd
    · rw [if_neg c, List.getElem?_append_right (by simp; omega)]
      rw [List.getElem?_append_right (by omega)] at hd
      rw [← hd]
      congr 1
      simp
  exact ⟨H.bel, fun i d hd => H.rep _ d (f1 i d hd), fun i d hd => H.up _ d (f1 i d hd), fun i j d e hd he hij => H.sep _ _ d e (f1 i d hd) (f1 j e he) (by split <;> split <;> omega)⟩

/-- A length is written into the list. -/
theorem Herd.tibput {W w : World} {xs : List ((Nat → Nat) × Thing)} {B b n c : Nat} {K : Nat → Nat} {l : List Int} (H : Herd W w (xs ++ [(K, tib B (.slice (some ⟨b, 0, none⟩) n c) l)])) {k : Nat} (hk : k < l.length) (m : Int) :
    (∃ u, w.cell? ⟨b, k, none⟩ = some u) ∧ w.frozen? ⟨b, k, none⟩ = false ∧ Herd W (w.setCell ⟨b, k, none⟩ (.int .i64 m)) (xs ++ [(K, tib B (.slice (some ⟨b, 0, none⟩) n c) (l.set k m))]) := by
  have h : (tib B (.slice (some ⟨b, 0, none⟩) n c) l).P w K := H.rep xs.length _ (get_last _ _)
  obtain ⟨g, c', hv, h1, h2, h3⟩ := h.1.put hk m
  simp only [Value.slice.injEq, Option.some.injEq, Addr.mk.injEq, and_true] at hv
  obtain ⟨rfl, -, -⟩ := hv
  have hg : K b ≠ 0 := h.2.1 b rfl
  have h4 := H.op xs.length (get_last _ _) (x' := tib B (.slice (some ⟨b, 0, none⟩) n c) (l.set k m)) (K' := K) ⟨h3, h.2.1, fun k hk => by rw [size_setCell]; exact h.2.2 k hk⟩ ⟨rfl, rfl, rfl, by rw [size_setCell]; exact Nat.le_refl _, fun q _ h0 => setCell_others _ _ _ _ _ (fun e => hg (by rw [← e]; exact h0)), fun _ _ => rfl⟩
  rw [show (xs ++ [(K, tib B (.slice (some ⟨b, 0, none⟩) n c) l)]).set xs.length (K, tib B (.slice (some ⟨b, 0, none⟩) n c) (l.set k m)) = xs ++ [(K, tib B (.slice (some ⟨b, 0, none⟩) n c) (l.set k m))] by simp] at h4
  exact ⟨h1, h2, h4⟩

theorem Herd.tibo {W w : World} {xs : List ((Nat → Nat) × Thing)} (H : Herd W w xs) (i : Nat) {B : Nat} {K : Nat → Nat} {v : Value} {l : List Int} (hi : xs[i]? = some (K, tib B v l)) : OI w B v l := by
  have h : (tib B v l).P w K := H.rep i _ hi
  exact h.1

theorem Herd.tibi {W w : World} {xs : List ((Nat → Nat) × Thing)} {B : Nat} {K : Nat → Nat} {v : Value} {l : List Int} (H : Herd W w (xs ++ [(K, tib B v l)])) : Herd W w (xs ++ [(K, ti v l)]) := by
  have hp : (tib B v l).P w K := H.rep xs.length _ (get_last _ _)
  refine ⟨H.bel, fun i d hd => ?_, fun i d hd => ?_, fun i j d e hd he hij => ?_⟩
  · rcases get_snoc hd with q | ⟨_, rfl⟩
    · exact H.rep i d (get_front q)
    · exact ⟨hp.1.base (Nat.zero_le _), hp.2⟩
  · rcases get_snoc hd with q | ⟨e, rfl⟩
    · exact H.up i d (get_front q)
    · exact H.up i (K, tib B v l) (by rw [e]; exact get_last _ _)
  · rcases get_snoc hd with q | ⟨e1, rfl⟩
    · rcases get_snoc he with q2 | ⟨e2, rfl⟩
      · exact H.sep i j d e (get_front q) (get_front q2) hij
      · exact H.sep i j d (K, tib B v l) (get_front q) (by rw [e2]; exact get_last _ _) hij
    · rcases get_snoc he with q2 | ⟨e2, rfl⟩
      · exact H.sep i j (K, tib B v l) e (by rw [e1]; exact get_last _ _) (get_front q2) hij
      · omega

theorem Herd.box1 {W w : World} {xs : List ((Nat → Nat) × Thing)} (h : Herd W w xs) (o : Obj) : ∃ K, Herd W (w.alloc o) (xs ++ [(K, tb w.heap.size o)]) := by
  refine ⟨fun k => if k = w.heap.size then 1 else 0, h.push ((Below.refl _ _).alloc (Nat.le_refl _) _) ⟨heap_alloc_new w _, by simp, fun k hk => ?_⟩ fun k hk => ?_⟩
  · by_cases e : k = w.heap.size
    · subst e; simp
    · simp [e] at hk
  · by_cases e : k = w.heap.size
    · omega
    · simp [e] at hk

theorem Herd.tbs {W w : World} {xs : List ((Nat → Nat) × Thing)} {K : Nat → Nat} {g : Nat} {o : Obj} (h : Herd W w (xs ++ [(K, tb g o)])) : w.heap[g]? = some o := by
  have hp : (tb g o).P w K := h.rep xs.length _ (get_last _ _)
  exact hp.1

theorem u32_31 {v : Int} (h0 : 0 ≤ v) (h1 : v < 4294967296) : bits .and .u32 v 31 = v % 32 := by
  have := bits_mask .u32 32 (by decide) (fun n a b => by rw [IntKind.wrap_u32]; omega) 5 (by decide) v h0 (by omega)
  simpa using this

/-- A box of three ints. -/
def Cbox (w : World) (g : Nat) (a b c : Int) : Prop := w.heap[g]? = some (.cells #[.int .i64 a, .int .i64 b, .int .i64 c] 72 (0, 0))
theorem Cbox.cells {w : World} {g : Nat} {a b c : Int} (h : Cbox w g a b c) : w.cell? ⟨g, 0, none⟩ = some (.int .i64 a) ∧ w.cell? ⟨g, 1, none⟩ = some (.int .i64 b) ∧ w.cell? ⟨g, 2, none⟩ = some (.int .i64 c) := by
  unfold Cbox at h
  refine ⟨?_, ?_, ?_⟩ <;> (unfold World.cell?; rw [h]; rfl)
theorem Cbox.frozen {w : World} {g : Nat} {a b c : Int} (h : Cbox w g a b c) : w.frozen? ⟨g, 0, none⟩ = false ∧ w.frozen? ⟨g, 1, none⟩ = false ∧ w.frozen? ⟨g, 2, none⟩ = false := by
  unfold Cbox at h
  refine ⟨?_, ?_, ?_⟩ <;> (unfold World.frozen?; rw [h]; rfl)
theorem Cbox.lt {w : World} {g : Nat} {a b c : Int} (h : Cbox w g a b c) : g < w.heap.size := by
  rcases Nat.lt_or_ge g w.heap.size with q | q
  · exact q
  · unfold Cbox at h; rw [Array.getElem?_eq_none q] at h; cases h
theorem Cbox.below {w w' : World} {g : Nat} {a b c : Int} (h : Cbox w g a b c) (hb : Below w.heap.size w w') : Cbox w' g a b c := (hb.block g h.lt).trans h
theorem Cbox.put {w : World} {g : Nat} {a b c a' b' c' : Int} (h : Cbox w g a b c) : Cbox (((w.setCell ⟨g, 0, none⟩ (.int .i64 a')).setCell ⟨g, 1, none⟩ (.int .i64 b')).setCell ⟨g, 2, none⟩ (.int .i64 c')) g a' b' c' := by
  have h0 := heap_setCell_at (k := 0) (.int .i64 a') h
  have h1 := heap_setCell_at (k := 1) (.int .i64 b') h0
  exact (heap_setCell_at (k := 2) (.int .i64 c') h1).trans rfl
theorem put3 {w w0 : World} {g B : Nat} {a' b' c' : Value} (h : Below B w0 w) (hB : B ≤ g) : Below B w0 (((w.setCell ⟨g, 0, none⟩ a').setCell ⟨g, 1, none⟩ b').setCell ⟨g, 2, none⟩ c') :=
  ((h.setCell (p := ⟨g, 0, none⟩) hB _).setCell (p := ⟨g, 1, none⟩) hB _).setCell (p := ⟨g, 2, none⟩) hB _

/-- A box of a run. -/
def Rbox (w : World) (g : Nat) (a b : Int) : Prop := w.heap[g]? = some (.cells #[.int .i64 a, .int .i64 b] 39 (0, 0))
theorem Rbox.cells {w : World} {g : Nat} {a b : Int} (h : Rbox w g a b) : w.cell? ⟨g, 0, none⟩ = some (.int .i64 a) ∧ w.cell? ⟨g, 1, none⟩ = some (.int .i64 b) := by
  unfold Rbox at h
  refine ⟨?_, ?_⟩ <;> (unfold World.cell?; rw [h]; rfl)
theorem Rbox.frozen {w : World} {g : Nat} {a b : Int} (h : Rbox w g a b) : w.frozen? ⟨g, 0, none⟩ = false ∧ w.frozen? ⟨g, 1, none⟩ = false := by
  unfold Rbox at h
  refine ⟨?_, ?_⟩ <;> (unfold World.frozen?; rw [h]; rfl)
theorem Rbox.lt {w : World} {g : Nat} {a b : Int} (h : Rbox w g a b) : g < w.heap.size := by
  rcases Nat.lt_or_ge g w.heap.size with q | q
  · exact q
  · unfold Rbox at h; rw [Array.getElem?_eq_none q] at h; cases h
theorem Rbox.below {w w' : World} {g : Nat} {a b : Int} (h : Rbox w g a b) (hb : Below w.heap.size w w') : Rbox w' g a b := (hb.block g h.lt).trans h
theorem Rbox.put {w : World} {g : Nat} {a b a' b' : Int} (h : Rbox w g a b) : Rbox ((w.setCell ⟨g, 0, none⟩ (.int .i64 a')).setCell ⟨g, 1, none⟩ (.int .i64 b')) g a' b' := by
  have h0 := heap_setCell_at (k := 0) (.int .i64 a') h
  exact (heap_setCell_at (k := 1) (.int .i64 b') h0).trans rfl
theorem put2 {w w0 : World} {g B : Nat} {a' b' : Value} (h : Below B w0 w) (hB : B ≤ g) : Below B w0 ((w.setCell ⟨g, 0, none⟩ a').setCell ⟨g, 1, none⟩ b') :=
  (h.setCell (p := ⟨g, 0, none⟩) hB _).setCell (p := ⟨g, 1, none⟩) hB _
end Go.Proofs.YtegoienjikjhkaaDoor

