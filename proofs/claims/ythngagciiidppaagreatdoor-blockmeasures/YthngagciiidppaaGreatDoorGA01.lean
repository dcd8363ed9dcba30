import Derived.WalkKit
import Derived.Test.YthngagciiidppaaGreatDoorGA00
import Derived.Laws.StructEq
import Derived.Handy
import Derived.Lib.LaidTab
import Derived.OpenShut
import Derived.ChangeSame
namespace Go.Proofs.YthngagciiidppaaGreatDoor
set_option linter.unusedVariables false

/-- A token: length, distance, literal. -/
abbrev Tk := Int × Int × Int
def tk0 : Tk := (0, 0, 0)

def Snd (t : Tk) : Prop := if t.1 = 0 then t.2.1 = 0 else 3 ≤ t.1 ∧ t.1 ≤ 258 ∧ 1 ≤ t.2.1 ∧ t.2.1 ≤ 32768 ∧ t.2.2 = 0
instance (t : Tk) : Decidable (Snd t) := by unfold Snd; infer_instance

def sndb (t : Tk) : Bool := decide (Snd t)

def says (t : Tk) : Nat := max 1 t.1.toNat

def cpy (x : List Int) (d : Nat) : Nat → List Int
  | 0 => x
  | n + 1 => cpy x d n ++ [(cpy x d n).getD ((cpy x d n).length - d) 0]

theorem cpy_len (x : List Int) (d n : Nat) : (cpy x d n).length = x.length + n := by
  induction n with
  | zero => rfl
  | succ n ih => simp [cpy, ih]; omega

def ptk (x : List Int) (t : Tk) : List Int := if t.1 = 0 then x ++ [t.2.2] else cpy x t.2.1.toNat t.1.toNat

def stE (lim : Int) (x : List Int) (t : Tk) : Int := if Snd t then if (x.length : Int) < t.2.1 then 91 else if lim < (x.length : Int) + (says t : Nat) then 92 else 0 else 90

def exE (lim : Int) : List Int → List Tk → Int
  | _, [] => 0
  | x, t :: r => if stE lim x t = 0 then exE lim (ptk x t) r else stE lim x t

def exT : List Int → List Tk → List Int
  | x, [] => x
  | x, t :: r => exT (ptk x t) r

theorem ext_snoc : ∀ (R : List Tk) (x : List Int) (t : Tk), exT x (R ++ [t]) = ptk (exT x R) t
  | [], x, t => rfl
  | q :: R, x, t => by simp only [List.cons_append, exT]; exact ext_snoc R _ t

theorem ext_app : ∀ (R S : List Tk) (x : List Int), exT x (R ++ S) = exT (exT x R) S
  | [], S, x => rfl
  | q :: R, S, x => by simp only [List.cons_append, exT]; exact ext_app R S _

theorem exE_app (lim : Int) : ∀ (R S : List Tk) (x : List Int), exE lim x R = 0 → exE lim x (R ++ S) = exE lim (exT x R) S
  | [], S, x, _ => rfl
  | q :: R, S, x, h => by
    simp only [exE] at h
    by_cases h1 : stE lim x q = 0
    · rw [if_pos h1] at h
      simp only [List.cons_append, exE, exT]
      rw [if_pos h1]
      exact exE_app lim R S _ h
    · rw [if_neg h1] at h; exact absurd h h1

theorem exE_front (lim : Int) : ∀ (R S : List Tk) (x : List Int), exE lim x R ≠ 0 → exE lim x (R ++ S) = exE lim x R
  | [], S, x, h => absurd rfl h
  | q :: R, S, x, h => by
    simp only [List.cons_append, exE] at h ⊢
    by_cases h1 : stE lim x q = 0
    · rw [if_pos h1] at h ⊢
      rw [if_pos h1]
      exact exE_front lim R S _ h
    · rw [if_neg h1, if_neg h1]

theorem tk_snoc {R : List Tk} {k : Nat} (h : k < R.length) : R.take (k + 1) = R.take k ++ [R.getD k tk0] := by
  rw [List.take_succ_eq_append_getElem h]
  simp [h]

/-- The first token that can't be taken tells the error. -/
theorem exE_at {lim : Int} {R : List Tk} {k : Nat} (hk : k < R.length) (h0 : exE lim [] (R.take k) = 0) :
    (stE lim (exT [] (R.take k)) (R.getD k tk0) ≠ 0 → exE lim [] R = stE lim (exT [] (R.take k)) (R.getD k tk0)) ∧ (stE lim (exT [] (R.take k)) (R.getD k tk0) = 0 → exE lim [] (R.take (k + 1)) = 0) := by
  have e := exE_app lim (R.take k) [R.getD k tk0] [] h0
  rw [← tk_snoc hk] at e
  simp only [exE] at e
  refine ⟨fun h => ?_, fun h => by rw [if_pos h] at e; exact e⟩
  rw [if_neg h] at e
  have := exE_front lim (R.take (k + 1)) (R.drop (k + 1)) [] (by rw [e]; exact h)
  rw [List.take_append_drop] at this
  rw [this, e]

theorem ext_at {R : List Tk} {k : Nat} (hk : k < R.length) : exT [] (R.take (k + 1)) = ptk (exT [] (R.take k)) (R.getD k tk0) := by
  rw [tk_snoc hk, ext_snoc]

def exL (lim : Int) (R : List Tk) : List Int := if exE lim [] R = 0 then exT [] R else []

theorem snd_parts {t : Tk} (h : Snd t) : (t.1 = 0 ∧ t.2.1 = 0) ∨ (∃ l d : Nat, t = ((l : Int), (d : Int), 0) ∧ 3 ≤ l ∧ l ≤ 258 ∧ 1 ≤ d ∧ d ≤ 32768) := by
  obtain ⟨a, b, c⟩ := t
  unfold Snd at h
  simp only at h
  by_cases e : a = 0
  · rw [if_pos e] at h
    exact .inl ⟨e, h⟩
  · rw [if_neg e] at h
    obtain ⟨h1, h2, h3, h4, h5⟩ := h
    obtain ⟨l, rfl⟩ := Int.eq_ofNat_of_zero_le (show 0 ≤ a by omega)
    obtain ⟨d, rfl⟩ := Int.eq_ofNat_of_zero_le (show 0 ≤ b by omega)
    exact .inr ⟨l, d, by rw [h5], by omega, by omega, by omega, by omega⟩

theorem ptk_len {x : List Int} {t : Tk} (h : Snd t) : (ptk x t).length = x.length + says t := by
  rcases snd_parts h with ⟨h1, h2⟩ | ⟨l, d, rfl, h1, h2, h3, h4⟩
  · unfold ptk says; rw [if_pos h1, h1]; simp
  · unfold ptk says
    rw [if_neg (by simp only; omega), cpy_len]
    simp only [Int.toNat_natCast]; omega

theorem stE_zero {lim : Int} {x : List Int} {t : Tk} (h : stE lim x t = 0) : Snd t ∧ t.2.1 ≤ (x.length : Int) ∧ (x.length : Int) + (says t : Nat) ≤ lim := by
  unfold stE at h
  split at h
  · rename_i hs
    split at h
    · omega
    · split at h
      · omega
      · exact ⟨hs, by omega, by omega⟩
  · omega

theorem stE_mk {lim : Int} {x : List Int} {t : Tk} (h1 : Snd t) (h2 : t.2.1 ≤ (x.length : Int)) (h3 : (x.length : Int) + (says t : Nat) ≤ lim) : stE lim x t = 0 := by
  unfold stE
  rw [if_pos h1, if_neg (by omega), if_neg (by omega)]

theorem stE_90 {lim : Int} {x : List Int} {t : Tk} (h : ¬ Snd t) : stE lim x t = 90 := by unfold stE; rw [if_neg h]
theorem stE_91 {lim : Int} {x : List Int} {t : Tk} (h : Snd t) (h2 : (x.length : Int) < t.2.1) : stE lim x t = 91 := by unfold stE; rw [if_pos h, if_pos h2]
theorem stE_92 {lim : Int} {x : List Int} {t : Tk} (h : Snd t) (h2 : t.2.1 ≤ (x.length : Int)) (h3 : lim < (x.length : Int) + (says t : Nat)) : stE lim x t = 92 := by unfold stE; rw [if_pos h, if_neg (by omega), if_pos h3]

/-- A text begins with another. -/
def Pre (a b : List Int) : Prop := b.take a.length = a

theorem Pre.refl (a : List Int) : Pre a a := List.take_of_length_le (Nat.le_refl _)
theorem Pre.len {a b : List Int} (h : Pre a b) : a.length ≤ b.length := by
  have := congrArg List.length h
  simp at this; omega
theorem Pre.trans {a b c : List Int} (h : Pre a b) (g : Pre b c) : Pre a c := by
  have hl := h.len
  unfold Pre at h g ⊢
  rw [← g, List.take_take, Nat.min_eq_left hl] at h
  exact h
theorem Pre.snoc (a : List Int) (x : Int) : Pre a (a ++ [x]) := by simp [Pre]
theorem Pre.getD {a b : List Int} (h : Pre a b) {i : Nat} (hi : i < a.length) : b.getD i 0 = a.getD i 0 := by
  have e : a.getD i 0 = (b.take a.length).getD i 0 := by rw [h]
  rw [e]
  simp [hi]

theorem pre_cpy (x : List Int) (d n : Nat) : Pre x (cpy x d n) := by
  induction n with
  | zero => exact Pre.refl _
  | succ n ih => exact ih.trans (Pre.snoc _ _)

theorem pre_cpy_le (x : List Int) (d : Nat) {m n : Nat} (h : m ≤ n) : Pre (cpy x d m) (cpy x d n) := by
  induction n with
  | zero => obtain rfl : m = 0 := by omega
            exact Pre.refl _
  | succ n ih =>
    by_cases e : m = n + 1
    · subst e; exact Pre.refl _
    · exact (ih (by omega)).trans (Pre.snoc _ _)

theorem pre_ptk (x : List Int) (t : Tk) : Pre x (ptk x t) := by
  unfold ptk
  split
  · exact Pre.snoc _ _
  · exact pre_cpy _ _ _

theorem pre_exT : ∀ (R : List Tk) (x : List Int), Pre x (exT x R)
  | [], x => Pre.refl _
  | t :: R, x => (pre_ptk x t).trans (pre_exT R _)

theorem pre_take (R : List Tk) (k : Nat) : Pre (exT [] (R.take k)) (exT [] R) := by
  have h : exT [] R = exT (exT [] (R.take k)) (R.drop k) := by rw [← ext_app, List.take_append_drop]
  rw [h]
  exact pre_exT _ _

/-- Each byte of a copy is that which stands its distance ahead. -/
theorem cpy_get (x : List Int) {d n i : Nat} (hi : i < n) (hd : 1 ≤ d) (hx : d ≤ x.length) : (cpy x d n).getD (x.length + i) 0 = (cpy x d n).getD (x.length + i - d) 0 := by
  have p : Pre (cpy x d (i + 1)) (cpy x d n) := pre_cpy_le x d hi
  have l := cpy_len x d (i + 1)
  rw [p.getD (by omega), p.getD (by omega)]
  have e : cpy x d (i + 1) = cpy x d i ++ [(cpy x d i).getD ((cpy x d i).length - d) 0] := rfl
  have l2 := cpy_len x d i
  rw [e]
  simp only [List.getD_eq_getElem?_getD]
  rw [List.getElem?_append_right (by omega), List.getElem?_append_left (by omega)]
  simp [l2]

/-- What the tokens say up to the k-th, and the k-th. -/
theorem means_at {lim : Int} {R : List Tk} (h : exE lim [] R = 0) {k : Nat} (hk : k < R.length) : exE lim [] (R.take k) = 0 ∧ stE lim (exT [] (R.take k)) (R.getD k tk0) = 0 := by
  have h1 : exE lim [] (R.take k) = 0 := Classical.byContradiction fun q => by
    have := exE_front lim (R.take k) (R.drop k) [] q
    rw [List.take_append_drop, h] at this
    exact q this.symm
  exact ⟨h1, Classical.byContradiction fun q => by have := (exE_at hk h1).1 q; omega⟩

theorem means_lit {R : List Tk} {k : Nat} (hk : k < R.length) (h0 : (R.getD k tk0).1 = 0) : (exT [] R).getD (exT [] (R.take k)).length 0 = (R.getD k tk0).2.2 := by
  have p := pre_take R (k + 1)
  rw [ext_at hk] at p
  unfold ptk at p
  rw [if_pos h0] at p
  rw [p.getD (by simp)]
  simp

theorem means_copy {R : List Tk} {k : Nat} (hk : k < R.length) {l d : Nat} (h0 : (R.getD k tk0).1 = (l : Int)) (h2 : (R.getD k tk0).2.1 = (d : Int)) (h1 : 0 < l) (hd : 1 ≤ d) (hx : d ≤ (exT [] (R.take k)).length) {i : Nat} (hi : i < l) :
    (exT [] R).getD ((exT [] (R.take k)).length + i) 0 = (exT [] R).getD ((exT [] (R.take k)).length + i - d) 0 := by
  have p := pre_take R (k + 1)
  rw [ext_at hk] at p
  unfold ptk at p
  rw [if_neg (by omega), h0, h2, Int.toNat_natCast, Int.toNat_natCast] at p
  have l2 := cpy_len (exT [] (R.take k)) d l
  rw [p.getD (by omega), p.getD (by omega)]
  exact cpy_get _ hi hd hx
end Go.Proofs.YthngagciiidppaaGreatDoor

namespace Go.Proofs.YthngagciiidppaaGreatDoor
open Go.RowKit Go.Maps
set_option maxRecDepth 20000
set_option linter.unusedVariables false

theorem SB.open {w : World} {v : Value} {l : List Int} (h : SB w v l) : ∃ ao cap, v = .slice ao l.length cap ∧ l.length ≤ cap ∧ cap ≤ 9223372036854775807 := by
  obtain ⟨ao, cap, rfl, h1, h2, _⟩ := h
  unfold maxLen at h2
  exact ⟨ao, cap, rfl, h1, by omega⟩

theorem SB.get {W w : World} {ao : Option Addr} {cap : Nat} {l : List Int} (h : SB W (.slice ao l.length cap) l) (hb : Below W.heap.size W w) {k : Nat} (hk : k < l.length) : ∃ b o, ao = some ⟨b, o, none⟩ ∧ w.cell? ⟨b, o + k, none⟩ = some (.int .u8 (l.getD k 0)) := by
  obtain ⟨ao', cap', he, h1, h2, h3, h4⟩ := h
  simp only [Value.slice.injEq] at he
  obtain ⟨rfl, -, rfl⟩ := he
  cases ao with
  | none => have := h3 rfl; omega
  | some x =>
    obtain ⟨b, o, rfl⟩ := addr_lit (h4 x rfl 0 (by omega))
    have c1 := h4 _ rfl k hk
    rw [Addr.add_lit] at c1
    exact ⟨b, o, rfl, (hb.cell (World.block_lt_of_cell? W _ c1)).trans c1⟩

def fr3 (R : List Tk) : List Value := R.flatMap fun r => [.int .i64 r.1, .int .i64 r.2.1, .int .u8 r.2.2]

theorem fr3_len (R : List Tk) : (fr3 R).length = R.length * 3 := by
  induction R with
  | nil => rfl
  | cons a r ih => unfold fr3 at ih ⊢; rw [List.flatMap_cons, List.length_append, ih]; simp; omega

theorem fr3_get {R : List Tk} {i : Nat} (h : i < R.length) : (fr3 R)[i * 3]? = some (.int .i64 (R.getD i tk0).1) ∧ (fr3 R)[i * 3 + 1]? = some (.int .i64 (R.getD i tk0).2.1) ∧ (fr3 R)[i * 3 + 2]? = some (.int .u8 (R.getD i tk0).2.2) := by
  induction R generalizing i with
  | nil => simp at h
  | cons a r ih =>
    cases i with
    | zero => exact ⟨rfl, rfl, rfl⟩
    | succ i =>
      have := ih (i := i) (by simpa using h)
      have e : fr3 (a :: r) = .int .i64 a.1 :: .int .i64 a.2.1 :: .int .u8 a.2.2 :: fr3 r := rfl
      rw [e, show (i + 1) * 3 = i * 3 + 1 + 1 + 1 by omega, show i * 3 + 1 + 1 + 1 + 1 = (i * 3 + 1) + 1 + 1 + 1 by omega, show i * 3 + 1 + 1 + 1 + 2 = (i * 3 + 2) + 1 + 1 + 1 by omega]
      simp only [List.getElem?_cons_succ]
      exact this

theorem fr3_snoc (R : List Tk) (p : Tk) : fr3 (R ++ [p]) = fr3 R ++ [.int .i64 p.1, .int .i64 p.2.1, .int .u8 p.2.2] := by simp [fr3]
theorem fr3_app (R S : List Tk) : fr3 (R ++ S) = fr3 R ++ fr3 S := by simp [fr3]

theorem fr3_one (R : List Tk) : ∀ v ∈ fr3 R, v.oneCell' = true := by
  intro v hv
  unfold fr3 at hv
  obtain ⟨r, _, hr⟩ := List.mem_flatMap.1 hv
  simp only [List.mem_cons, List.not_mem_nil, or_false] at hr
  rcases hr with rfl | rfl | rfl <;> rfl

/-- A row of tokens that is read. -/
def SK (w : World) (v : Value) (R : List Tk) : Prop :=
  ∃ ao cap, v = .slice ao R.length cap ∧ R.length ≤ cap ∧ cap ≤ maxLen ∧ (ao = none → cap = 0) ∧ ∀ x, ao = some x → ∀ i, i < R.length → w.cell? (x.add (i * 3)) = some (.int .i64 (R.getD i tk0).1) ∧ w.cell? (x.add (i * 3 + 1)) = some (.int .i64 (R.getD i tk0).2.1) ∧ w.cell? (x.add (i * 3 + 2)) = some (.int .u8 (R.getD i tk0).2.2)

/-- A row of tokens of one's own. -/
def OK (w : World) (base : Nat) (v : Value) (R : List Tk) : Prop := w.ownsRow base 56 3 v R.length (fr3 R)

theorem SK.below {w w' : World} {v : Value} {R : List Tk} (h : SK w v R) (hb : Below w.heap.size w w') : SK w' v R := by
  obtain ⟨ao, cap, rfl, h1, h2, h3, h4⟩ := h
  refine ⟨ao, cap, rfl, h1, h2, h3, fun x hx i hi => ?_⟩
  obtain ⟨c1, c2, c3⟩ := h4 x hx i hi
  exact ⟨(hb.cell (World.block_lt_of_cell? w _ c1)).trans c1, (hb.cell (World.block_lt_of_cell? w _ c2)).trans c2, (hb.cell (World.block_lt_of_cell? w _ c3)).trans c3⟩

theorem SK.drewN {w : World} {v : Value} {R : List Tk} (h : SK w v R) (n : Nat) : SK (w.drewN n) v R := h

theorem SK.open {w : World} {v : Value} {R : List Tk} (h : SK w v R) : ∃ ao cap, v = .slice ao R.length cap ∧ R.length ≤ cap ∧ cap ≤ 9223372036854775807 := by
  obtain ⟨ao, cap, rfl, h1, h2, _⟩ := h
  unfold maxLen at h2
  exact ⟨ao, cap, rfl, h1, by omega⟩

theorem SK.get {W w : World} {ao : Option Addr} {cap : Nat} {R : List Tk} (h : SK W (.slice ao R.length cap) R) (hb : Below W.heap.size W w) {k : Nat} (hk : k < R.length) : ∃ b o, ao = some ⟨b, o, none⟩ ∧ w.cell? ⟨b, o + k * 3, none⟩ = some (.int .i64 (R.getD k tk0).1) ∧ w.cell? ⟨b, o + k * 3 + 1, none⟩ = some (.int .i64 (R.getD k tk0).2.1) ∧ w.cell? ⟨b, o + k * 3 + 2, none⟩ = some (.int .u8 (R.getD k tk0).2.2) := by
  obtain ⟨ao', cap', he, h1, h2, h3, h4⟩ := h
  simp only [Value.slice.injEq] at he
  obtain ⟨rfl, -, rfl⟩ := he
  cases ao with
  | none => have := h3 rfl; omega
  | some x =>
    obtain ⟨b, o, rfl⟩ := addr_lit (h4 x rfl 0 (by omega)).1
    obtain ⟨c1, c2, c3⟩ := h4 _ rfl k hk
    rw [Addr.add_lit] at c1 c2 c3
    exact ⟨b, o, rfl, (hb.cell (World.block_lt_of_cell? W _ c1)).trans c1, (hb.cell (World.block_lt_of_cell? W _ c2)).trans c2, (hb.cell (World.block_lt_of_cell? W _ c3)).trans c3⟩

theorem SK.front {w : World} {ao : Option Addr} {cap : Nat} {R : List Tk} (h : SK w (.slice ao R.length cap) R) {n : Nat} (hn : n ≤ R.length) : SK w (.slice ao n cap) (R.take n) := by
  obtain ⟨ao', cap', he, h1, h2, h3, h4⟩ := h
  simp only [Value.slice.injEq] at he
  obtain ⟨rfl, -, rfl⟩ := he
  have hl : (R.take n).length = n := by simp; omega
  refine ⟨ao, cap, by rw [hl], by omega, h2, h3, fun x hx i hi => ?_⟩
  have hi' : i < n := by omega
  have e : (R.take n).getD i tk0 = R.getD i tk0 := by simp [hi']
  rw [e]
  exact h4 x hx i (by omega)

theorem tokown_move {w w' : World} {base : Nat} {e : TypeId} {size : Nat} {v : Value} {n : Nat} {xs : List Value} (h : w.ownsRow base e size v n xs) (hb : ∀ k, v.ownBlock = some k → w'.heap[k]? = w.heap[k]?) : w'.ownsRow base e size v n xs := by
  refine ⟨h.1, ?_⟩
  rcases h.2 with h2 | ⟨g, cap, cur, rfl, h1, h2, r⟩
  · exact .inl h2
  · exact .inr ⟨g, cap, cur, rfl, h1, (hb g rfl).trans h2, r⟩

theorem OK.lt {w : World} {base : Nat} {v : Value} {R : List Tk} (h : OK w base v R) : ∀ k, v.ownBlock = some k → base ≤ k ∧ k < w.heap.size := World.ownsRow.lt h
theorem OK.below {w w' : World} {base B : Nat} {v : Value} {R : List Tk} (h : OK w base v R) (hb : Below B w w') (hB : w.heap.size ≤ B) : OK w' base v R := tokown_move h fun k hk => hb.block k (Nat.lt_of_lt_of_le (h.lt k hk).2 hB)
theorem OK.drewN {w : World} {base : Nat} {v : Value} {R : List Tk} (h : OK w base v R) (n : Nat) : OK (w.drewN n) base v R := tokown_move h fun _ _ => rfl
theorem OK.alloc {w : World} {base : Nat} {v : Value} {R : List Tk} (h : OK w base v R) (o : Obj) : OK (w.alloc o) base v R := tokown_move h fun k hk => Below.heap_alloc w o k (h.lt k hk).2
theorem OK.base {w : World} {base base' : Nat} {v : Value} {R : List Tk} (h : OK w base v R) (hb : base' ≤ base) : OK w base' v R := by
  refine ⟨h.1, ?_⟩
  rcases h.2 with h2 | ⟨g, cap, cur, rfl, h1, r⟩
  · exact .inl h2
  · exact .inr ⟨g, cap, cur, rfl, Nat.le_trans hb h1, r⟩

theorem OK.shape {w : World} {base : Nat} {v : Value} {R : List Tk} (h : OK w base v R) : ∃ a c, v = .slice a R.length c ∧ R.length ≤ c ∧ c ≤ 9223372036854775807 := by
  rcases h.2 with ⟨rfl, h0⟩ | ⟨g, cap, cur, rfl, _, _, h3, h4, _⟩
  · exact ⟨none, 0, by rw [h0], by omega, by omega⟩
  · unfold maxLen at h4; exact ⟨_, _, rfl, h3, by omega⟩

theorem OK.sk {w : World} {base : Nat} {v : Value} {R : List Tk} (h : OK w base v R) : SK w v R := by
  have hc := @World.ownsRow.cells _ _ _ _ _ _ _ h
  rcases h.2 with ⟨rfl, h0⟩ | ⟨g, cap, cur, rfl, _, _, h3, h4, _⟩
  · obtain rfl : R = [] := List.eq_nil_of_length_eq_zero h0
    exact ⟨none, 0, rfl, Nat.le_refl _, Nat.zero_le _, fun _ => rfl, fun x hx => by cases hx⟩
  · refine ⟨some ⟨g, 0, none⟩, cap, rfl, h3, h4, (fun e => by cases e), fun x hx i hi => ?_⟩
    cases hx
    obtain ⟨g1, g2, g3⟩ := fr3_get hi
    exact ⟨hc (g := g) rfl _ _ g1, hc (g := g) rfl _ _ g2, hc (g := g) rfl _ _ g3⟩

theorem OK.nil (w : World) (base : Nat) : OK w base (.slice none 0 0) [] := World.ownsRow_nil _ _ _ _

theorem infoTok : (Tryz.prog.info? 56).map (fun i => (i.zero, i.size, i.bytes)) = some (some (.agg #[.int .i64 0, .int .i64 0, .int .u8 0]), 3, 24) := by kernel_rfl

/-- One more token. -/
theorem wpTok {w : World} {ops : Array Oper} {rest : List Oper} {o : Oper} {a : Act} {Q : Exit → Act → World → Prop} (hgd : o.guard = none) (s x : Operand)
    (ho : o.op = .call { callee := .builtin .append, args := #[s, x], argTypes := #[22, 22] }) (base : Nat) (v : Value) (R : List Tk) (p1 p2 p3 : Int) (hs : a.eval s = v) (hown : OK w base v R)
    (c : Nat) (hx : a.eval x = .slice (some ⟨w.heap.size, 0, none⟩) 1 c) (hn : R.length ≤ 5864062014800) (hbase : base ≤ w.heap.size)
    (h : ∀ v' w', OK w' base v' (R ++ [(p1, p2, p3)]) → (w.alloc (.cells #[.int .i64 p1, .int .i64 p2, .int .u8 p3] 56)).grownBy w' v.ownBlock → wpList Tryz.prog ops Q rest (a.put o.dst v') w') :
    wpList Tryz.prog ops Q (o :: rest) a (w.alloc (.cells #[.int .i64 p1, .int .i64 p2, .int .u8 p3] 56)) := by
  obtain ⟨i0, hi0, hz0, hz1, hz2⟩ := info_parts infoTok
  refine wpList_append_own_at _ hgd s x 22 ho base 56 i0 _ 3 24 Tryz.underlying22 hi0 hz0 hz1 hz2 rfl (by omega) v R.length (fr3 R) hs (hown.alloc _) ⟨w.heap.size, 0, none⟩ 1 c [.int .i64 p1, .int .i64 p2, .int .u8 p3] hx rfl (World.news_of_block (cs := #[.int .i64 p1, .int .i64 p2, .int .u8 p3]) (t := 56) (fr := (0, 0)) (heap_alloc_new w _))
    (fun u hu => by
      simp only [List.mem_cons, List.not_mem_nil, or_false] at hu
      rcases hu with rfl | rfl | rfl <;> rfl) (by unfold maxLen; omega) (by omega) (by simp; omega) fun v' w' h1 h2 _ _ => h v' w' ?_ h2
  show World.ownsRow _ _ _ _ _ _ _
  rw [List.length_append, fr3_snoc]
  exact h1

theorem grow_tok {w wr w3 : World} {u : Value} {R : List Tk} {o : Obj} {B : Nat} (hB : Below B w wr) (hw : B ≤ w.heap.size) (hO : OK wr B u R) (hg : (wr.alloc o).grownBy w3 u.ownBlock) : Below B w w3 :=
  (hB.alloc (Nat.le_trans hw hB.size) _).grown hg (by have := hB.size; simp; omega) (fun j hj => by have := hO.lt j hj; omega)

theorem grow_byte {w wr w3 : World} {u v3 : Value} {D : List Int} {o : Obj} {B : Nat} (hB : Below B w wr) (hw : B ≤ w.heap.size) (hO : OB wr B u D) (hg : Grew (wr.alloc o) w3 u v3) : Below B w w3 :=
  (hB.alloc (Nat.le_trans hw hB.size) _).grown hg.by (by have := hB.size; simp; omega) (fun j hj => by have := hO.lt j hj; omega)

theorem tk_get {R : List Tk} {k : Nat} {a b c : Int} (h : R.getD k tk0 = (a, b, c)) : (R.getD k tk0).1 = a ∧ (R.getD k tk0).2.1 = b ∧ (R.getD k tk0).2.2 = c := by rw [h]; exact ⟨rfl, rfl, rfl⟩

end Go.Proofs.YthngagciiidppaaGreatDoor

namespace Go.Proofs.YthngagciiidppaaGreatDoor
open Go.RowKit Go.Maps
set_option maxRecDepth 20000
set_option linter.unusedVariables false

theorem sound_any (a b c : Int) (w : World) : Calls Tryz.prog 44 #[.agg #[.int .i64 a, .int .i64 b, .int .u8 c]] w fun e w' => e = .returned (.bool (sndb (a, b, c))) ∧ Below w.heap.size w w' := by
  have HB : Hid (∀ q, Below w.heap.size w ((w.alloc (.cells #[.int .i64 a, .int .i64 b, .int .u8 c] 56)).drewN q)) := fun q => below_drewN ((Below.refl _ _).alloc (Nat.le_refl _) _) q
  obtain ⟨wb, hwb⟩ : ∃ wb, w.alloc (.cells #[.int .i64 a, .int .i64 b, .int .u8 c] 56) = wb := ⟨_, rfl⟩
  have d1 : wb.cell? ⟨w.heap.size, 0, none⟩ = some (.int .i64 a) := by rw [← hwb]; unfold World.cell?; simp only [heap_alloc_new]; rfl
  have d2 : wb.cell? ⟨w.heap.size, 1, none⟩ = some (.int .i64 b) := by rw [← hwb]; unfold World.cell?; simp only [heap_alloc_new]; rfl
  have d3 : wb.cell? ⟨w.heap.size, 2, none⟩ = some (.int .u8 c) := by rw [← hwb]; unfold World.cell?; simp only [heap_alloc_new]; rfl
  rw [hwb] at HB
  by_cases h0 : a = 0
  · have HE : Hid (sndb (a, b, c) = decide (b = 0)) := by show _ = _; unfold sndb Snd; simp [h0]
    have g0 : (a == 0) = true := by simpa using h0
    by_cases hb : b = 0
    · have g1 : (b == 0) = true := by simpa using hb
      have HE2 : Hid (sndb (a, b, c) = true) := by show _ = _; rw [HE.out]; simpa using hb
      clear HE h0 hb
      go_enter Tryz.func44, Tryz.ntmps44
      go_wp2
      go_ret
      rw [HE2.out]
      exact ⟨rfl, HB.out 0⟩
    · have g1 : (b == 0) = false := by simpa using hb
      have HE2 : Hid (sndb (a, b, c) = false) := by show _ = _; rw [HE.out]; simpa using hb
      clear HE h0 hb
      go_enter Tryz.func44, Tryz.ntmps44
      go_wp2
      go_ret
      rw [HE2.out]
      exact ⟨rfl, HB.out 0⟩
  · have g0 : (a == 0) = false := by simpa using h0
    have HE : Hid (sndb (a, b, c) = decide (3 ≤ a ∧ a ≤ 258 ∧ 1 ≤ b ∧ b ≤ 32768 ∧ c = 0)) := by show _ = _; unfold sndb Snd; simp [h0]
    by_cases h1 : 3 ≤ a
    · by_cases h2 : a ≤ 258
      · by_cases h3 : 1 ≤ b
        · by_cases h4 : b ≤ 32768
          · by_cases h5 : c = 0
            · have g1 : decide (3 ≤ a) = true := decide_eq_true h1
              have g2 : decide (a ≤ 258) = true := decide_eq_true h2
              have g3 : decide (1 ≤ b) = true := decide_eq_true h3
              have g4 : decide (b ≤ 32768) = true := decide_eq_true h4
              have g5 : (c == 0) = true := by simpa using h5
              have HE2 : Hid (sndb (a, b, c) = true) := by show _ = _; rw [HE.out]; exact decide_eq_true ⟨h1, h2, h3, h4, h5⟩
              clear HE h0 h1 h2 h3 h4 h5
              go_enter Tryz.func44, Tryz.ntmps44
              go_wp2
              go_ret
              rw [HE2.out]
              exact ⟨rfl, HB.out 0⟩
            · have g1 : decide (3 ≤ a) = true := decide_eq_true h1
              have g2 : decide (a ≤ 258) = true := decide_eq_true h2
              have g3 : decide (1 ≤ b) = true := decide_eq_true h3
              have g4 : decide (b ≤ 32768) = true := decide_eq_true h4
              have g5 : (c == 0) = false := by simpa using h5
              have HE2 : Hid (sndb (a, b, c) = false) := by show _ = _; rw [HE.out]; exact decide_eq_false (fun q => h5 q.2.2.2.2)
              clear HE h0 h1 h2 h3 h4 h5
              go_enter Tryz.func44, Tryz.ntmps44
              go_wp2
              go_ret
              rw [HE2.out]
              exact ⟨rfl, HB.out 0⟩
          · have g1 : decide (3 ≤ a) = true := decide_eq_true h1
            have g2 : decide (a ≤ 258) = true := decide_eq_true h2
            have g3 : decide (1 ≤ b) = true := decide_eq_true h3
            have g4 : decide (b ≤ 32768) = false := decide_eq_false h4
            have HE2 : Hid (sndb (a, b, c) = false) := by show _ = _; rw [HE.out]; exact decide_eq_false (fun q => h4 q.2.2.2.1)
            clear HE h0 h1 h2 h3 h4
            go_enter Tryz.func44, Tryz.ntmps44
            go_wp2
            go_ret
            rw [HE2.out]
            exact ⟨rfl, HB.out 0⟩
        · have g1 : decide (3 ≤ a) = true := decide_eq_true h1
          have g2 : decide (a ≤ 258) = true := decide_eq_true h2
          have g3 : decide (1 ≤ b) = false := decide_eq_false h3
          have HE2 : Hid (sndb (a, b, c) = false) := by show _ = _; rw [HE.out]; exact decide_eq_false (fun q => h3 q.2.2.1)
          clear HE h0 h1 h2 h3
          go_enter Tryz.func44, Tryz.ntmps44
          go_wp2
          go_ret
          rw [HE2.out]
          exact ⟨rfl, HB.out 0⟩
      · have g1 : decide (3 ≤ a) = true := decide_eq_true h1
        have g2 : decide (a ≤ 258) = false := decide_eq_false h2
        have HE2 : Hid (sndb (a, b, c) = false) := by show _ = _; rw [HE.out]; exact decide_eq_false (fun q => h2 q.2.1)
        clear HE h0 h1 h2
        go_enter Tryz.func44, Tryz.ntmps44
        go_wp2
        go_ret
        rw [HE2.out]
        exact ⟨rfl, HB.out 0⟩
    · have g1 : decide (3 ≤ a) = false := decide_eq_false h1
      have HE2 : Hid (sndb (a, b, c) = false) := by show _ = _; rw [HE.out]; exact decide_eq_false (fun q => h1 q.1)
      clear HE h0 h1
      go_enter Tryz.func44, Tryz.ntmps44
      go_wp2
      go_ret
      rw [HE2.out]
      exact ⟨rfl, HB.out 0⟩

/-- All tokens may be. -/
def asnd (R : List Tk) : Bool := R.all sndb

theorem asnd_snoc {R : List Tk} {k : Nat} (hk : k < R.length) : asnd (R.take (k + 1)) = (asnd (R.take k) && sndb (R.getD k tk0)) := by
  rw [tk_snoc hk]
  simp [asnd]

theorem asnd_bad {R : List Tk} {k : Nat} (hk : k < R.length) (h : sndb (R.getD k tk0) = false) : asnd R = false := by
  unfold asnd
  rw [List.all_eq_false]
  refine ⟨R.getD k tk0, ?_, by rw [h]; exact Bool.false_ne_true⟩
  rw [List.getD_eq_getElem?_getD, List.getElem?_eq_getElem hk]
  exact List.getElem_mem hk

theorem allSound_any (v : Value) (R : List Tk) (w : World) (h : SK w v R) : Calls Tryz.prog 22 #[v] w fun e w' => e = .returned (.bool (asnd R)) ∧ Below w.heap.size w w' := by
  have HS := hide h
  obtain ⟨ao, cap, rfl, hlc, hcm⟩ := h.open
  clear h
  have hmx : R.length ≤ 9223372036854775807 := by omega
  go_enter Tryz.func22, Tryz.ntmps22
  go_wp2
  go_loopw [7] (fun t wr => ∃ k : Nat, k ≤ R.length ∧ t = .int .i64 (k : Int) ∧ Hid (asnd (R.take k) = true) ∧ Hid (Below w.heap.size w wr)) (fun t _ => R.length - (intOf t).toNat)
  case atStart => exact ⟨0, Nat.zero_le _, rfl, rfl, Below.refl _ _⟩
  case round =>
    obtain ⟨k, hk, rfl, HA, HB⟩ := hrel
    by_cases hlt : k < R.length
    · have hlt' : (k : Int) < (R.length : Int) := by omega
      obtain ⟨b, o, rfl, c0, c1, c2⟩ := HS.out.get HB.out hlt
      have HSN := hide (asnd_snoc hlt)
      have HBD := hide (asnd_bad hlt)
      obtain ⟨⟨t1, t2, t3⟩, ht⟩ : ∃ t, R.getD k tk0 = t := ⟨_, rfl⟩
      rw [ht] at c0 c1 c2 HSN HBD
      simp only at c0 c1 c2
      have HB6 : Hid (Below wr.heap.size wr (wr.alloc (.cells #[.int .i64 t1, .int .i64 t2, .int .u8 t3] 56))) := (Below.refl _ _).alloc (Nat.le_refl _) _
      have HSO := hide (fun wx => sound_any t1 t2 t3 wx)
      clear ht
      go_wp2_with fail
      refine (HSO.out _).mono ?_
      rintro e w2 ⟨rfl, b2⟩
      have HB2 : Hid (Below w.heap.size w w2) := (HB.out.trans (HB6.out.mono HB.out.size)).trans (b2.mono (Nat.le_trans HB.out.size HB6.out.size))
      clear b2 HB6
      by_cases hs : sndb (t1, t2, t3) = true
      · have HX := hide hs
        rw [HX.out]
        have HN : Hid (asnd (R.take (k + 1)) = true) := by show _ = _; rw [HSN.out, HA.out, HX.out]; rfl
        clear hs
        go_wp2
        go_roundw
        case rel => exact ⟨k + 1, by omega, by go_num, HN, HB2⟩
        case measure => simp [intOf]; omega
      · have HX : Hid (sndb (t1, t2, t3) = false) := by show _ = _; simpa using hs
        rw [HX.out]
        have HN := hide (HBD.out HX.out)
        clear hs
        go_wp2
        go_ret
        rw [HN.out]
        exact ⟨rfl, HB2.out⟩
    · obtain rfl : k = R.length := by omega
      have hlt' : ¬ (R.length : Int) < (R.length : Int) := by omega
      have HN : Hid (asnd R = true) := by have := HA.out; rw [List.take_of_length_le (Nat.le_refl _)] at this; exact this
      go_wp2
      go_ret
      rw [HN.out]
      exact ⟨rfl, HB.out⟩

/-- The document's copies: a copy that may be. -/
def Cpy (t : Tk) : Prop := 3 ≤ t.1 ∧ t.1 ≤ 258 ∧ 1 ≤ t.2.1 ∧ t.2.1 ≤ 32768 ∧ t.2.2 = 0

instance (t : Tk) : Decidable (Cpy t) := by unfold Cpy; infer_instance

theorem snd_cpy (a b c : Int) : sndb (a, b, c) = (decide (Cpy (a, b, c)) || (decide (a = 0) && decide (b = 0))) := by
  unfold sndb
  by_cases ha : a = 0
  · subst ha
    have h1 : ¬ Cpy (0, b, c) := fun h => by have := h.1; simp at this
    by_cases hb : b = 0
    · subst hb
      rw [decide_eq_false h1, decide_eq_true (show Snd (0, 0, c) by simp [Snd])]
      simp
    · rw [decide_eq_false h1, decide_eq_false (show ¬ Snd (0, b, c) by simp [Snd, hb])]
      simp [hb]
  · have h1 : Snd (a, b, c) ↔ Cpy (a, b, c) := by unfold Snd Cpy; simp only [if_neg ha]
    simp only [h1, ha, decide_false, Bool.false_and, Bool.or_false]

theorem copies_any (a b c : Int) (w : World) : Calls Tryz.prog 32 #[.agg #[.int .i64 a, .int .i64 b, .int .u8 c]] w fun e w' => e = .returned (.bool (decide (Cpy (a, b, c)))) ∧ Below w.heap.size w w' := by
  have HB : Hid (Below w.heap.size w (w.alloc (.cells #[.int .i64 a, .int .i64 b, .int .u8 c] 56))) := (Below.refl _ _).alloc (Nat.le_refl _) _
  by_cases h1 : (3 : Int) ≤ a
  · by_cases h2 : a ≤ (258 : Int)
    · by_cases h3 : (1 : Int) ≤ b
      · by_cases h4 : b ≤ (32768 : Int)
        · by_cases h5 : c = 0
          · have HD : Hid (decide (Cpy (a, b, c)) = true) := decide_eq_true ⟨h1, h2, h3, h4, h5⟩
            rw [HD.out]
            have g5 : (c == 0) = true := by simp [h5]
            clear h5
            go_enter Tryz.func32, Tryz.ntmps32
            go_wp2
            go_ret
            exact ⟨rfl, HB.out⟩
          · have HD : Hid (decide (Cpy (a, b, c)) = false) := decide_eq_false (fun q => h5 q.2.2.2.2)
            rw [HD.out]
            have g5 : (c == 0) = false := by simp [h5]
            clear h5
            go_enter Tryz.func32, Tryz.ntmps32
            go_wp2
            go_ret
            exact ⟨rfl, HB.out⟩
        · have HD : Hid (decide (Cpy (a, b, c)) = false) := decide_eq_false (fun q => h4 q.2.2.2.1)
          rw [HD.out]
          go_enter Tryz.func32, Tryz.ntmps32
          go_wp2
          go_ret
          exact ⟨rfl, HB.out⟩
      · have HD : Hid (decide (Cpy (a, b, c)) = false) := decide_eq_false (fun q => h3 q.2.2.1)
        rw [HD.out]
        go_enter Tryz.func32, Tryz.ntmps32
        go_wp2
        go_ret
        exact ⟨rfl, HB.out⟩
    · have HD : Hid (decide (Cpy (a, b, c)) = false) := decide_eq_false (fun q => h2 q.2.1)
      rw [HD.out]
      go_enter Tryz.func32, Tryz.ntmps32
      go_wp2
      go_ret
      exact ⟨rfl, HB.out⟩
  · have HD : Hid (decide (Cpy (a, b, c)) = false) := decide_eq_false (fun q => h1 q.1)
    rw [HD.out]
    go_enter Tryz.func32, Tryz.ntmps32
    go_wp2
    go_ret
    exact ⟨rfl, HB.out⟩

set_option maxHeartbeats 1000000 in
theorem ksound_any (v : Value) (R : List Tk) (w : World) (h : SK w v R) : Calls Tryz.prog 15 #[v] w fun e w' => e = .returned (.bool (asnd R)) ∧ Below w.heap.size w w' := by
  have HS := hide h
  obtain ⟨ao, cap, rfl, hlc, hcm⟩ := h.open
  clear h
  have hmx : R.length ≤ 9223372036854775807 := by omega
  go_enter Tryz.func15, Tryz.ntmps15
  go_wp2
  go_loopw [3] (fun t wr => ∃ k : Nat, k ≤ R.length ∧ t = .int .i64 (k : Int) ∧ Hid (asnd (R.take k) = true) ∧ Hid (Below w.heap.size w wr)) (fun t _ => R.length - (intOf t).toNat)
  case atStart => exact ⟨0, Nat.zero_le _, rfl, rfl, Below.refl _ _⟩
  case round =>
    obtain ⟨k, hk, rfl, HA, HB⟩ := hrel
    by_cases hlt : k < R.length
    · have hlt' : (k : Int) < (R.length : Int) := by omega
      obtain ⟨b, o, rfl, c0, c1, c2⟩ := HS.out.get HB.out hlt
      have HSN := hide (asnd_snoc hlt)
      have HBD := hide (asnd_bad hlt)
      obtain ⟨⟨t1, t2, t3⟩, ht⟩ : ∃ t, R.getD k tk0 = t := ⟨_, rfl⟩
      rw [ht] at c0 c1 c2 HSN HBD
      simp only at c0 c1 c2
      have HB6 : Hid (Below wr.heap.size wr (wr.alloc (.cells #[.int .i64 t1, .int .i64 t2, .int .u8 t3] 56))) := (Below.refl _ _).alloc (Nat.le_refl _) _
      have HN6 : Hid ((wr.alloc (.cells #[.int .i64 t1, .int .i64 t2, .int .u8 t3] 56)).heap[wr.heap.size]? = some (.cells #[.int .i64 t1, .int .i64 t2, .int .u8 t3] 56 (0, 0))) := heap_alloc_new wr _
      have hx6 : wr.heap.size < (wr.alloc (.cells #[.int .i64 t1, .int .i64 t2, .int .u8 t3] 56)).heap.size := by simp
      have HSO := hide (fun wx => copies_any t1 t2 t3 wx)
      have HSC := hide (snd_cpy t1 t2 t3)
      clear ht
      go_wp2_with fail
      refine (HSO.out _).mono ?_
      rintro e w2 ⟨rfl, b2⟩
      have HB2 : Hid (Below w.heap.size w w2) := (HB.out.trans (HB6.out.mono HB.out.size)).trans (b2.mono (Nat.le_trans HB.out.size HB6.out.size))
      have n2 := (b2.block _ hx6).trans HN6.out
      have y0 : w2.cell? ⟨wr.heap.size, 0, none⟩ = some (.int .i64 t1) := by unfold World.cell?; rw [n2]; rfl
      have y1 : w2.cell? ⟨wr.heap.size, 1, none⟩ = some (.int .i64 t2) := by unfold World.cell?; rw [n2]; rfl
      clear b2 HB6 HN6 hx6 n2
      by_cases hc : Cpy (t1, t2, t3)
      · have HX : Hid (decide (Cpy (t1, t2, t3)) = true) := decide_eq_true hc
        rw [HX.out]
        have HN : Hid (asnd (R.take (k + 1)) = true) := by show _ = _; rw [HSN.out, HA.out, HSC.out, HX.out]; rfl
        clear hc
        go_wp2
        go_roundw
        case rel => exact ⟨k + 1, by omega, by go_num, HN, HB2⟩
        case measure => simp [intOf]; omega
      · have HX : Hid (decide (Cpy (t1, t2, t3)) = false) := decide_eq_false hc
        rw [HX.out]
        clear hc
        by_cases ha : t1 = 0
        · by_cases hb : t2 = 0
          · have HN : Hid (asnd (R.take (k + 1)) = true) := by show _ = _; rw [HSN.out, HA.out, HSC.out, HX.out, decide_eq_true ha, decide_eq_true hb]; rfl
            rw [ha] at y0
            rw [hb] at y1
            clear ha hb
            go_wp2
            go_roundw
            case rel => exact ⟨k + 1, by omega, by go_num, HN, HB2⟩
            case measure => simp [intOf]; omega
          · have HN := hide (HBD.out (by rw [HSC.out, HX.out, decide_eq_false hb]; simp))
            rw [ha] at y0
            clear ha
            go_wp2
            go_ret
            rw [HN.out]
            exact ⟨rfl, HB2.out⟩
        · have HN := hide (HBD.out (by rw [HSC.out, HX.out, decide_eq_false ha]; simp))
          go_wp2
          go_ret
          rw [HN.out]
          exact ⟨rfl, HB2.out⟩
    · obtain rfl : k = R.length := by omega
      have hlt' : ¬ (R.length : Int) < (R.length : Int) := by omega
      have HN : Hid (asnd R = true) := by have := HA.out; rw [List.take_of_length_le (Nat.le_refl _)] at this; exact this
      go_wp2
      go_ret
      rw [HN.out]
      exact ⟨rfl, HB.out⟩
end Go.Proofs.YthngagciiidppaaGreatDoor

namespace Go.Proofs.YthngagciiidppaaGreatDoor
open Go.RowKit Go.ChangeShapes Go.WideShapes Go.ChangeAt
set_option maxRecDepth 20000
set_option linter.unusedVariables false

/-- Rows of two numbers, as a statement lists them. -/
def spanData {H : Type} (zs : List (Int × Int)) : DataW H := .agg (zs.map fun z => .agg [.lit (.int .i64 z.1), .lit (.int .i64 z.2)])

/-- What such a variable's cells are. -/
theorem cells_of_spans {H : Type} {enc : TypeId × Value → H} {P : Program} {w : World} {base : Nat} {sp : Nat → Bool} {held : Bool} {fuel : Nat} {t e u : TypeId} {n : Nat} {f0 f1 : Field} {cs : List Value} {zs : List (Int × Int)} {p : List MemPlace}
    (ht : P.underlying t = some (.array n e)) (he : P.underlying e = some (.struct #[f0, f1])) (h0 : f0.type = u ∧ f0.offset = 0) (h1 : f1.type = u ∧ f1.offset = 1) (hu : P.underlying u = some (.int .i64)) (hcu : P.cellsOf u = 1) (hce : P.cellsOf e = 2)
    (h : DataW.trod enc P w base sp held fuel t cs = some (spanData zs, p)) (i : Nat) (hi : i < zs.length) : cs[i * 2]? = some (.int .i64 (zs.getD i (0, 0)).1) ∧ cs[i * 2 + 1]? = some (.int .i64 (zs.getD i (0, 0)).2) := by
  obtain ⟨xs, m, _, hx, hl, hn, hf⟩ := DataW.trod_array ht h
  have hxs : xs.map (·.1) = zs.map fun z => (DataW.agg [.lit (.int .i64 z.1), .lit (.int .i64 z.2)] : DataW H) := by
    have := congrArg Prod.fst hx
    simpa [spanData] using this.symm
  have hzl : zs.length = n := by
    have := congrArg List.length hxs
    simp at this
    omega
  have h2 := hf i (by omega)
  obtain ⟨y, hy⟩ : ∃ y, xs[i]? = some y := ⟨xs[i]'(by omega), by simp [show i < xs.length by omega]⟩
  rw [hy, hce] at h2
  obtain ⟨y0, y1, q, rfl, _, t0, t1⟩ := trod_struct2 he h2
  rw [h0.1, h0.2, hcu] at t0
  rw [h1.1, h1.2, hcu] at t1
  obtain ⟨z0, hc0, hz0, _⟩ := DataW.trod_int hu t0
  obtain ⟨z1, hc1, hz1, _⟩ := DataW.trod_int hu t1
  have h3 : (xs.map (·.1))[i]? = some (DataW.agg [y0.1, y1.1] : DataW H) := by simp [hy]
  rw [hxs] at h3
  have hg : zs[i]? = some (zs.getD i (0, 0)) := by simp [hi]
  rw [List.getElem?_map, hg] at h3
  simp only [Option.map_some, Option.some.injEq, DataW.agg.injEq, List.cons.injEq, and_true] at h3
  rw [hz0, hz1] at h3
  simp only [DataW.lit.injEq, Lit.int.injEq, true_and] at h3
  have k0 := congrArg (·[0]?) hc0
  have k1 := congrArg (·[0]?) hc1
  simp [List.getElem?_drop] at k0 k1
  rw [h3.1, h3.2]
  exact ⟨k0, k1⟩

/-- The lengths' symbols from 257 on: the least length, the further bits. -/
def lnz : List (Int × Int) := [(3, 0), (4, 0), (5, 0), (6, 0), (7, 0), (8, 0), (9, 0), (10, 0), (11, 1), (13, 1), (15, 1), (17, 1), (19, 2), (23, 2), (27, 2), (31, 2), (35, 3), (43, 3), (51, 3), (59, 3), (67, 4), (83, 4), (99, 4), (115, 4), (131, 5), (163, 5), (195, 5), (227, 5), (258, 0)]

def dsz : List (Int × Int) := [(1, 0), (2, 0), (3, 0), (4, 0), (5, 1), (7, 1), (9, 2), (13, 2), (17, 3), (25, 3), (33, 4), (49, 4), (65, 5), (97, 5), (129, 6), (193, 6), (257, 7), (385, 7), (513, 8), (769, 8), (1025, 9), (1537, 9), (2049, 10), (3073, 10), (4097, 11), (6145, 11), (8193, 12), (12289, 12), (16385, 13), (24577, 13)]

def LB (i : Nat) : Nat := (lnz.getD i (0, 0)).1.toNat
def LF (i : Nat) : Nat := (lnz.getD i (0, 0)).2.toNat
def DB (i : Nat) : Nat := if i = 30 then 32769 else (dsz.getD i (0, 0)).1.toNat
def DF (i : Nat) : Nat := (dsz.getD i (0, 0)).2.toNat

theorem lnz_at : ∀ i : Nat, i < 29 → (lnz.getD i (0, 0)).1 = (LB i : Int) ∧ (lnz.getD i (0, 0)).2 = (LF i : Int) := by decide
theorem dsz_at : ∀ i : Nat, i < 30 → (dsz.getD i (0, 0)).1 = (DB i : Int) ∧ (dsz.getD i (0, 0)).2 = (DF i : Int) := by decide

theorem lfIs : ∀ i : Nat, i < 29 → LF i = (if i < 8 ∨ i = 28 then 0 else (i - 4) / 4) := by decide
theorem dfIs : ∀ i : Nat, i < 30 → DF i = (if i < 4 then 0 else (i - 2) / 2) := by decide
theorem lbNext : ∀ i : Nat, i < 27 → LB (i + 1) = LB i + 2 ^ LF i := by decide
theorem dbNext : ∀ i : Nat, i < 30 → DB (i + 1) = DB i + 2 ^ DF i := by decide
theorem lfLe : ∀ i : Nat, i < 29 → LF i ≤ 5 ∧ LB i ≤ 258 ∧ 2 ^ LF i ≤ 32 := by decide
theorem dfLe : ∀ i : Nat, i < 30 → DF i ≤ 13 ∧ DB i ≤ 32768 ∧ 2 ^ DF i ≤ 8192 := by decide

/-- The tables in memory. -/
structure Ltab (w : World) : Prop where
  base : ∀ i : Nat, i < 29 → w.cell? ⟨0, i * 2, none⟩ = some (.int .i64 (LB i : Int))
  more : ∀ i : Nat, i < 29 → w.cell? ⟨0, i * 2 + 1, none⟩ = some (.int .i64 (LF i : Int))

structure Dtab (w : World) : Prop where
  base : ∀ i : Nat, i < 30 → w.cell? ⟨1, i * 2, none⟩ = some (.int .i64 (DB i : Int))
  more : ∀ i : Nat, i < 30 → w.cell? ⟨1, i * 2 + 1, none⟩ = some (.int .i64 (DF i : Int))

theorem Ltab.low {w w' : World} (h : Ltab w) (hb : Below w.heap.size w w') : Ltab w' :=
  ⟨fun i hi => (hb.cell (World.block_lt_of_cell? w _ (h.base i hi))).trans (h.base i hi), fun i hi => (hb.cell (World.block_lt_of_cell? w _ (h.more i hi))).trans (h.more i hi)⟩

theorem Dtab.low {w w' : World} (h : Dtab w) (hb : Below w.heap.size w w') : Dtab w' :=
  ⟨fun i hi => (hb.cell (World.block_lt_of_cell? w _ (h.base i hi))).trans (h.base i hi), fun i hi => (hb.cell (World.block_lt_of_cell? w _ (h.more i hi))).trans (h.more i hi)⟩

theorem cSpan : Tryz.prog.cellsOf 80 = 2 := by kernel_rfl
theorem cIn1 : Tryz.prog.cellsOf 3 = 1 := by kernel_rfl

theorem ltab_of {W : World} {rest : List (String × DataW Unit)} (h : laidMet Tryz.prog (("valise/block.lengths", spanData lnz) :: rest) W) : Ltab W := by
  obtain ⟨ps, ⟨g', t', cs, fuel, p, q, hg', ht', hvar, hd, _, _⟩, _⟩ := h
  obtain rfl := Option.some.inj ((show Tryz.prog.globalNamed "valise/block.lengths" = some 0 by kernel_rfl).symm.trans hg')
  obtain rfl := Option.some.inj ((show (Tryz.prog.globals[0]?).map (·.type) = some 81 by kernel_rfl).symm.trans ht')
  have hc := fun i hi => cells_of_spans (i := i) Tryz.underlying81 Tryz.underlying80 ⟨rfl, rfl⟩ ⟨rfl, rfl⟩ Tryz.underlying3 cIn1 cSpan hd hi
  have hg : Tryz.prog.globalNamed "valise/block.lengths" = some 0 := by kernel_rfl
  refine ⟨fun i hi => ?_, fun i hi => ?_⟩
  · rw [World.var?_cell hg hvar, ← (lnz_at i hi).1]
    simpa using (hc i hi).1
  · rw [World.var?_cell hg hvar, ← (lnz_at i hi).2]
    simpa using (hc i hi).2

theorem dtab_of {W : World} {rest : List (String × DataW Unit)} (h : laidMet Tryz.prog (("valise/block.distances", spanData dsz) :: rest) W) : Dtab W := by
  obtain ⟨ps, ⟨g', t', cs, fuel, p, q, hg', ht', hvar, hd, _, _⟩, _⟩ := h
  obtain rfl := Option.some.inj ((show Tryz.prog.globalNamed "valise/block.distances" = some 1 by kernel_rfl).symm.trans hg')
  obtain rfl := Option.some.inj ((show (Tryz.prog.globals[1]?).map (·.type) = some 83 by kernel_rfl).symm.trans ht')
  have hc := fun i hi => cells_of_spans (i := i) Tryz.underlying83 Tryz.underlying80 ⟨rfl, rfl⟩ ⟨rfl, rfl⟩ Tryz.underlying3 cIn1 cSpan hd hi
  have hg : Tryz.prog.globalNamed "valise/block.distances" = some 1 := by kernel_rfl
  refine ⟨fun i hi => ?_, fun i hi => ?_⟩
  · rw [World.var?_cell hg hvar, ← (dsz_at i hi).1]
    simpa using (hc i hi).1
  · rw [World.var?_cell hg hvar, ← (dsz_at i hi).2]
    simpa using (hc i hi).2
end Go.Proofs.YthngagciiidppaaGreatDoor

