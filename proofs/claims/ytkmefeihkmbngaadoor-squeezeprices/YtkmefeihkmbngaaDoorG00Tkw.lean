import Derived.Laws.BitsLemmas
import Derived.Test.YtkmefeihkmbngaaDoorRows
import Derived.WalkKit
import Derived.ProofKit
import Derived.OpenShut
import Derived.ShutString
import Derived.ChangeOld
import Derived.Below
import Derived.WalkLawsBesides
import Derived.WalkSpells
import Derived.Deep.QuietTactic
import Derived.BigQuiet
import Derived.Laws.CopyOwn
import Derived.SizedLaws
import Derived.Maps.Own
import Derived.Laws.BytesArg
import Derived.Maps.AppendAt
import Derived.Deep.AppendSrc
import Derived.Deep.AppendLies
import Derived.Deep.RegionLaw
import Derived.Laws.StructEq
import Derived.Handy
namespace Go.Proofs.YtkmefeihkmbngaaDoor

def bts (v : Int) : Nat → List Int
  | 0 => []
  | n + 1 => v % 2 :: bts (v / 2) n

def val : List Int → Int
  | [] => 0
  | b :: l => b + 2 * val l

def Bit (l : List Int) : Prop := ∀ b ∈ l, b = 0 ∨ b = 1

def Byt (d : List Int) : Prop := ∀ i, 0 ≤ d.getD i 0 ∧ d.getD i 0 < 256

def unpack (d : List Int) : List Int := d.flatMap fun b => bts b 8

theorem length_bts (v : Int) (n : Nat) : (bts v n).length = n := by
  induction n generalizing v with
  | zero => rfl
  | succ n ih => simp [bts, ih]

theorem Bit.take {a : List Int} (h : Bit a) (n : Nat) : Bit (a.take n) := fun x hx => h x (List.mem_of_mem_take hx)

theorem unpack_nil : unpack [] = [] := rfl
theorem unpack_cons (b : Int) (d : List Int) : unpack (b :: d) = bts b 8 ++ unpack d := by simp [unpack]
theorem unpack_append (a b : List Int) : unpack (a ++ b) = unpack a ++ unpack b := by simp [unpack]
theorem unpack_one (b : Int) : unpack [b] = bts b 8 := by simp [unpack]

theorem length_unpack (d : List Int) : (unpack d).length = 8 * d.length := by
  induction d with
  | nil => rfl
  | cons b d ih => rw [unpack_cons, List.length_append, length_bts, ih, List.length_cons]; omega

structure Lies (row d : List Int) (r : Int) (h : Nat) : Prop where
  e : row = unpack d ++ bts r h
  b : Byt d
  r0 : 0 ≤ r
  r1 : r < 2 ^ h
  h8 : h < 8

theorem Lies.len {row d : List Int} {r : Int} {h : Nat} (k : Lies row d r h) : row.length = 8 * d.length + h := by
  rw [k.e, List.length_append, length_unpack, length_bts]

def le : List Int → Int
  | [] => 0
  | b :: r => b + 256 * le r

end Go.Proofs.YtkmefeihkmbngaaDoor

namespace Go.Proofs.YtkmefeihkmbngaaDoor
open Go.RowKit

theorem hide {p : Prop} (h : p) : Hid p := h
theorem unhide {p : Prop} (h : Hid p) : p := h

theorem add_block (x : Addr) (i : Nat) : (x.add i).block = x.block := by unfold Addr.add; split <;> rfl

theorem size_alloc' (w : World) (o : Obj) : (w.alloc o).heap.size = w.heap.size + 1 := by simp

theorem heap_two (w : World) (o p : Obj) : ((w.alloc o).alloc p).heap[w.heap.size + 1]? = some p ∧ ((w.alloc o).alloc p).heap[w.heap.size]? = some o := by
  have e := heap_alloc_new (w.alloc o) p
  rw [size_alloc'] at e
  exact ⟨e, (Below.heap_alloc (w.alloc o) p w.heap.size (by rw [size_alloc']; omega)).trans (heap_alloc_new w o)⟩

theorem addr_lit {w : World} {x : Addr} {u : Value} (h : w.cell? (x.add 0) = some u) : ∃ b o, x = ⟨b, o, none⟩ := by
  have hs := World.cell?_spot h
  obtain ⟨b, o, s⟩ := x
  refine ⟨b, o, ?_⟩
  unfold Addr.add at hs
  cases s with
  | none => rfl
  | some q => simp at hs

theorem take_step {l1 l2 : List Int} {k : Nat} (h1 : k < l1.length) (hl : l1.length = l2.length) (ht : l1.take k = l2.take k) :
    (l1.getD k 0 = l2.getD k 0 → l1.take (k + 1) = l2.take (k + 1)) ∧ (l1.getD k 0 ≠ l2.getD k 0 → l1 ≠ l2) := by
  refine ⟨fun h => ?_, fun h e => h (by rw [e])⟩
  have e1 : l1.getD k 0 = l1[k] := by simp [h1]
  have e2 : l2.getD k 0 = l2[k]'(by omega) := by simp [show k < l2.length by omega]
  rw [e1, e2] at h
  rw [List.take_succ_eq_append_getElem h1, List.take_succ_eq_append_getElem (by omega), ht, h]

theorem size_setCell (w : World) (a : Addr) (u : Value) : (w.setCell a u).heap.size = w.heap.size := by simp [World.setCell]

theorem setCell_others (w : World) (g o : Nat) (u : Value) : ∀ k, k ≠ g → (w.setCell ⟨g, o, none⟩ u).heap[k]? = w.heap[k]? := fun k hk => Below.heap_setCell w _ u k hk

end Go.Proofs.YtkmefeihkmbngaaDoor

namespace Go.Proofs.YtkmefeihkmbngaaDoor
open Go.RowKit

def eqB (l1 l2 : List Int) : Bool := decide (l1 = l2)

end Go.Proofs.YtkmefeihkmbngaaDoor

namespace Go.Proofs.YtkmefeihkmbngaaDoor
open Go.RowKit Go.Maps

def Grew (w w' : World) (v v' : Value) : Prop := (v' = v ∧ w' = w) ∨ (v'.ownBlock = some w.heap.size ∧ Below w.heap.size w w') ∨ (v'.ownBlock = v.ownBlock ∧ w'.heap.size = w.heap.size ∧ w.grownBy w' v.ownBlock)

theorem heap_setCell_at {w : World} {g k : Nat} {cur : Array Value} {t : TypeId} (u : Value) (h : w.heap[g]? = some (.cells cur t (0, 0))) : (w.setCell ⟨g, k, none⟩ u).heap[g]? = some (.cells (cur.setIfInBounds k u) t (0, 0)) := by
  simp [World.setCell, Array.getElem?_modify, h]

theorem Grew.by {w w' : World} {v v' : Value} (h : Grew w w' v v') : w.grownBy w' v.ownBlock := by
  rcases h with ⟨_, rfl⟩ | ⟨_, hb⟩ | ⟨_, _, hg⟩
  · exact World.grownBy.refl _ _
  · exact ⟨hb.os, hb.tape, hb.output, hb.size, fun k hk _ => hb.block k hk⟩
  · exact hg

theorem Grew.at {w w' : World} {v v' : Value} (h : Grew w w' v v') : v'.ownBlock = some w.heap.size ∨ v'.ownBlock = v.ownBlock := by
  rcases h with ⟨rfl, _⟩ | ⟨h, _⟩ | ⟨h, _⟩
  · exact .inr rfl
  · exact .inl h
  · exact .inr h

structure Fr (K K' : Nat → Nat) (w w' : World) : Prop where
  os : w'.os = w.os
  tape : w'.tape = w.tape
  output : w'.output = w.output
  size : w.heap.size ≤ w'.heap.size
  block : ∀ k, k < w.heap.size → K k = 0 → w'.heap[k]? = w.heap[k]?
  role : ∀ k, k < w.heap.size → K' k = K k

theorem Fr.refl (K : Nat → Nat) (w : World) : Fr K K w w := ⟨rfl, rfl, rfl, Nat.le_refl _, fun _ _ _ => rfl, fun _ _ => rfl⟩

theorem Fr.trans {K K' K'' : Nat → Nat} {a b c : World} (h : Fr K K' a b) (k : Fr K' K'' b c) : Fr K K'' a c :=
  ⟨k.os.trans h.os, k.tape.trans h.tape, k.output.trans h.output, Nat.le_trans h.size k.size,
   fun i hi h0 => (k.block i (Nat.lt_of_lt_of_le hi h.size) (by rw [h.role i hi]; exact h0)).trans (h.block i hi h0),
   fun i hi => (k.role i (Nat.lt_of_lt_of_le hi h.size)).trans (h.role i hi)⟩

end Go.Proofs.YtkmefeihkmbngaaDoor

namespace Go.Proofs.YtkmefeihkmbngaaDoor
set_option linter.unusedVariables false

abbrev Tk := Int × Int × Int
def tk0 : Tk := (0, 0, 0)

def Snd (t : Tk) : Prop := if t.1 = 0 then t.2.1 = 0 else 3 ≤ t.1 ∧ t.1 ≤ 258 ∧ 1 ≤ t.2.1 ∧ t.2.1 ≤ 32768 ∧ t.2.2 = 0
instance (t : Tk) : Decidable (Snd t) := by unfold Snd; infer_instance

def sndb (t : Tk) : Bool := decide (Snd t)

theorem tk_snoc {R : List Tk} {k : Nat} (h : k < R.length) : R.take (k + 1) = R.take k ++ [R.getD k tk0] := by
  rw [List.take_succ_eq_append_getElem h]
  simp [h]

def Pre (a b : List Int) : Prop := b.take a.length = a

theorem Pre.refl (a : List Int) : Pre a a := List.take_of_length_le (Nat.le_refl _)
theorem Pre.len {a b : List Int} (h : Pre a b) : a.length ≤ b.length := by
  have := congrArg List.length h
  simp at this; omega
theorem Pre.trans {a b c : List Int} (h : Pre a b) (g : Pre b c) : Pre a c := by
  have hl := h.len
  unfold Pre at h g ⊢
  rw [← g, List.take_take, Nat.min_eq_left hl] at h
  exact h
theorem Pre.snoc (a : List Int) (x : Int) : Pre a (a ++ [x]) := by simp [Pre]
theorem Pre.getD {a b : List Int} (h : Pre a b) {i : Nat} (hi : i < a.length) : b.getD i 0 = a.getD i 0 := by
  have e : a.getD i 0 = (b.take a.length).getD i 0 := by rw [h]
  rw [e]
  simp [hi]

end Go.Proofs.YtkmefeihkmbngaaDoor

namespace Go.Proofs.YtkmefeihkmbngaaDoor
open Go.RowKit Go.Maps
set_option maxRecDepth 20000
set_option linter.unusedVariables false

def fr3 (R : List Tk) : List Value := R.flatMap fun r => [.int .i64 r.1, .int .i64 r.2.1, .int .u8 r.2.2]

theorem fr3_len (R : List Tk) : (fr3 R).length = R.length * 3 := by
  induction R with
  | nil => rfl
  | cons a r ih => unfold fr3 at ih ⊢; rw [List.flatMap_cons, List.length_append, ih]; simp; omega

theorem fr3_get {R : List Tk} {i : Nat} (h : i < R.length) : (fr3 R)[i * 3]? = some (.int .i64 (R.getD i tk0).1) ∧ (fr3 R)[i * 3 + 1]? = some (.int .i64 (R.getD i tk0).2.1) ∧ (fr3 R)[i * 3 + 2]? = some (.int .u8 (R.getD i tk0).2.2) := by
  induction R generalizing i with
  | nil => simp at h
  | cons a r ih =>
    cases i with
    | zero => exact ⟨rfl, rfl, rfl⟩
    | succ i =>
      have := ih (i := i) (by simpa using h)
      have e : fr3 (a :: r) = .int .i64 a.1 :: .int .i64 a.2.1 :: .int .u8 a.2.2 :: fr3 r := rfl
      rw [e, show (i + 1) * 3 = i * 3 + 1 + 1 + 1 by omega, show i * 3 + 1 + 1 + 1 + 1 = (i * 3 + 1) + 1 + 1 + 1 by omega, show i * 3 + 1 + 1 + 1 + 2 = (i * 3 + 2) + 1 + 1 + 1 by omega]
      simp only [List.getElem?_cons_succ]
      exact this

theorem fr3_one (R : List Tk) : ∀ v ∈ fr3 R, v.oneCell' = true := by
  intro v hv
  unfold fr3 at hv
  obtain ⟨r, _, hr⟩ := List.mem_flatMap.1 hv
  simp only [List.mem_cons, List.not_mem_nil, or_false] at hr
  rcases hr with rfl | rfl | rfl <;> rfl

def SK (w : World) (v : Value) (R : List Tk) : Prop :=
  ∃ ao cap, v = .slice ao R.length cap ∧ R.length ≤ cap ∧ cap ≤ maxLen ∧ (ao = none → cap = 0) ∧ ∀ x, ao = some x → ∀ i, i < R.length → w.cell? (x.add (i * 3)) = some (.int .i64 (R.getD i tk0).1) ∧ w.cell? (x.add (i * 3 + 1)) = some (.int .i64 (R.getD i tk0).2.1) ∧ w.cell? (x.add (i * 3 + 2)) = some (.int .u8 (R.getD i tk0).2.2)

def OK (w : World) (base : Nat) (v : Value) (R : List Tk) : Prop := w.ownsRow base 48 3 v R.length (fr3 R)

theorem SK.below {w w' : World} {v : Value} {R : List Tk} (h : SK w v R) (hb : Below w.heap.size w w') : SK w' v R := by
  obtain ⟨ao, cap, rfl, h1, h2, h3, h4⟩ := h
  refine ⟨ao, cap, rfl, h1, h2, h3, fun x hx i hi => ?_⟩
  obtain ⟨c1, c2, c3⟩ := h4 x hx i hi
  exact ⟨(hb.cell (World.block_lt_of_cell? w _ c1)).trans c1, (hb.cell (World.block_lt_of_cell? w _ c2)).trans c2, (hb.cell (World.block_lt_of_cell? w _ c3)).trans c3⟩

theorem SK.open {w : World} {v : Value} {R : List Tk} (h : SK w v R) : ∃ ao cap, v = .slice ao R.length cap ∧ R.length ≤ cap ∧ cap ≤ 9223372036854775807 := by
  obtain ⟨ao, cap, rfl, h1, h2, _⟩ := h
  unfold maxLen at h2
  exact ⟨ao, cap, rfl, h1, by omega⟩

theorem SK.get {W w : World} {ao : Option Addr} {cap : Nat} {R : List Tk} (h : SK W (.slice ao R.length cap) R) (hb : Below W.heap.size W w) {k : Nat} (hk : k < R.length) : ∃ b o, ao = some ⟨b, o, none⟩ ∧ w.cell? ⟨b, o + k * 3, none⟩ = some (.int .i64 (R.getD k tk0).1) ∧ w.cell? ⟨b, o + k * 3 + 1, none⟩ = some (.int .i64 (R.getD k tk0).2.1) ∧ w.cell? ⟨b, o + k * 3 + 2, none⟩ = some (.int .u8 (R.getD k tk0).2.2) := by
  obtain ⟨ao', cap', he, h1, h2, h3, h4⟩ := h
  simp only [Value.slice.injEq] at he
  obtain ⟨rfl, -, rfl⟩ := he
  cases ao with
  | none => have := h3 rfl; omega
  | some x =>
    obtain ⟨b, o, rfl⟩ := addr_lit (h4 x rfl 0 (by omega)).1
    obtain ⟨c1, c2, c3⟩ := h4 _ rfl k hk
    rw [Addr.add_lit] at c1 c2 c3
    exact ⟨b, o, rfl, (hb.cell (World.block_lt_of_cell? W _ c1)).trans c1, (hb.cell (World.block_lt_of_cell? W _ c2)).trans c2, (hb.cell (World.block_lt_of_cell? W _ c3)).trans c3⟩

theorem OK.sk {w : World} {base : Nat} {v : Value} {R : List Tk} (h : OK w base v R) : SK w v R := by
  have hc := @World.ownsRow.cells _ _ _ _ _ _ _ h
  rcases h.2 with ⟨rfl, h0⟩ | ⟨g, cap, cur, rfl, _, _, h3, h4, _⟩
  · obtain rfl : R = [] := List.eq_nil_of_length_eq_zero h0
    exact ⟨none, 0, rfl, Nat.le_refl _, Nat.zero_le _, fun _ => rfl, fun x hx => by cases hx⟩
  · refine ⟨some ⟨g, 0, none⟩, cap, rfl, h3, h4, (fun e => by cases e), fun x hx i hi => ?_⟩
    cases hx
    obtain ⟨g1, g2, g3⟩ := fr3_get hi
    exact ⟨hc (g := g) rfl _ _ g1, hc (g := g) rfl _ _ g2, hc (g := g) rfl _ _ g3⟩

theorem infoTok : (Tryd.prog.info? 48).map (fun i => (i.zero, i.size, i.bytes)) = some (some (.agg #[.int .i64 0, .int .i64 0, .int .u8 0]), 3, 24) := by kernel_rfl

end Go.Proofs.YtkmefeihkmbngaaDoor

