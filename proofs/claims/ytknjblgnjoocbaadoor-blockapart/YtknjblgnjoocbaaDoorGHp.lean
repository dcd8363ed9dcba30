import Derived.Test.YtknjblgnjoocbaaDoorRows
import Derived.WalkKit
import Derived.ProofKit
import Derived.OpenShut
import Derived.ShutString
import Derived.ChangeOld
import Derived.Below
import Derived.WalkLawsBesides
import Derived.WalkSpells
import Derived.Deep.QuietTactic
import Derived.BigQuiet
import Derived.Laws.CopyOwn
import Derived.SizedLaws
import Derived.Maps.Own
import Derived.Laws.BytesArg
import Derived.Laws.BitsLemmas
import Derived.Maps.AppendAt
import Derived.Deep.AppendSrc
import Derived.Deep.AppendLies
import Derived.Deep.RegionLaw
import Derived.BigRegion
import Derived.RangeFuncNested
import Derived.RangeFuncBound
import Derived.RangeFuncCalls
import Derived.RangeFuncLeaves
import Derived.RangeFuncBox
namespace Go.Proofs.YtknjblgnjoocbaaDoor.H4
open Go.RowKit

def SI (w : World) (v : Value) (l : List Int) : Prop :=
  ∃ ao cap, v = .slice ao l.length cap ∧ l.length ≤ cap ∧ cap ≤ maxLen ∧ (ao = none → cap = 0) ∧ ∀ x, ao = some x → ∀ i, i < l.length → w.cell? (x.add i) = some (.int .i64 (l.getD i 0))

def OI (w : World) (base : Nat) (v : Value) (l : List Int) : Prop := w.ownsRow base 3 1 v l.length (l.map (Value.int .i64))

theorem hide {p : Prop} (h : p) : Hid p := h
theorem unhide {p : Prop} (h : Hid p) : p := h

theorem add_block (x : Addr) (i : Nat) : (x.add i).block = x.block := by unfold Addr.add; split <;> rfl

theorem SI.move {w w' : World} {v : Value} {l : List Int} (h : SI w v l) (hc : ∀ a u, w.cell? a = some u → v.ownBlock = some a.block → w'.cell? a = some u) : SI w' v l := by
  obtain ⟨ao, cap, rfl, h1, h2, h3, h4⟩ := h
  refine ⟨ao, cap, rfl, h1, h2, h3, fun x hx i hi => hc _ _ (h4 x hx i hi) ?_⟩
  subst hx; simp [Value.ownBlock, add_block]

theorem SI.below {w w' : World} {v : Value} {l : List Int} (h : SI w v l) (hb : Below w.heap.size w w') : SI w' v l :=
  h.move fun a _ ha _ => (hb.cell (World.block_lt_of_cell? w a ha)).trans ha

theorem OI.lt {w : World} {base : Nat} {v : Value} {l : List Int} (h : OI w base v l) : ∀ k, v.ownBlock = some k → base ≤ k ∧ k < w.heap.size := World.ownsRow.lt h

theorem OI.sb {w : World} {base : Nat} {v : Value} {l : List Int} (h : OI w base v l) : SI w v l := by
  have hc := @World.ownsRow.cells _ _ _ _ _ _ _ h
  rcases h.2 with ⟨rfl, h0⟩ | ⟨g, cap, cur, rfl, _, _, h3, h4, _, _⟩
  · obtain rfl : l = [] := List.eq_nil_of_length_eq_zero h0
    exact ⟨none, 0, rfl, Nat.le_refl _, Nat.zero_le _, fun _ => rfl, fun x hx => by cases hx⟩
  · refine ⟨some ⟨g, 0, none⟩, cap, rfl, h3, h4, (fun e => by cases e), fun x hx i hi => ?_⟩
    cases hx
    refine hc (g := g) rfl i _ ?_
    simp [hi]

theorem OI.shape {w : World} {base : Nat} {v : Value} {l : List Int} (h : OI w base v l) : ∃ a c, v = .slice a l.length c := by
  rcases h.2 with ⟨rfl, h0⟩ | ⟨g, cap, cur, rfl, _⟩
  · exact ⟨none, 0, by rw [h0]⟩
  · exact ⟨_, _, rfl⟩

theorem OI.move {w w' : World} {base : Nat} {v : Value} {l : List Int} (h : OI w base v l) (hb : ∀ k, v.ownBlock = some k → w'.heap[k]? = w.heap[k]?) : OI w' base v l := by
  refine ⟨h.1, ?_⟩
  rcases h.2 with h2 | ⟨g, cap, cur, rfl, h1, h2, r⟩
  · exact .inl h2
  · exact .inr ⟨g, cap, cur, rfl, h1, (hb g rfl).trans h2, r⟩

theorem OI.base {w : World} {base base' : Nat} {v : Value} {l : List Int} (h : OI w base v l) (hb : base' ≤ base) : OI w base' v l := by
  refine ⟨h.1, ?_⟩
  rcases h.2 with h2 | ⟨g, cap, cur, rfl, h1, r⟩
  · exact .inl h2
  · exact .inr ⟨g, cap, cur, rfl, Nat.le_trans hb h1, r⟩

theorem OI.below {w w' : World} {base B : Nat} {v : Value} {l : List Int} (h : OI w base v l) (hb : Below B w w') (hB : w.heap.size ≤ B) : OI w' base v l :=
  h.move fun k hk => hb.block k (Nat.lt_of_lt_of_le (h.lt k hk).2 hB)

theorem size_alloc' (w : World) (o : Obj) : (w.alloc o).heap.size = w.heap.size + 1 := by simp

theorem heap_two (w : World) (o p : Obj) : ((w.alloc o).alloc p).heap[w.heap.size + 1]? = some p ∧ ((w.alloc o).alloc p).heap[w.heap.size]? = some o := by
  have e := heap_alloc_new (w.alloc o) p
  rw [size_alloc'] at e
  exact ⟨e, (Below.heap_alloc (w.alloc o) p w.heap.size (by rw [size_alloc']; omega)).trans (heap_alloc_new w o)⟩

theorem infoInt : (Tryd.prog.info? 3).map (fun i => (i.zero, i.size, i.bytes)) = some (some (.int .i64 0), 1, 8) := by kernel_rfl

theorem madeInts (n : Nat) : (madeCells #[Value.int .i64 0] n).toList = List.replicate n (Value.int .i64 0) := by
  have e : ∀ k : Nat, [Value.int IntKind.i64 0][k % 1]?.getD default = Value.int .i64 0 := fun k => by simp [Nat.mod_one]
  simp only [madeCells]
  simp [e, List.map_const']

theorem ownsRow_full {w : World} {base g n : Nat} {xs : List Value} (h : w.ownsRow base 3 1 (.slice (some ⟨g, 0, none⟩) n n) n xs) : w.heap[g]? = some (.cells xs.toArray 3 (0, 0)) ∧ base ≤ g := by
  obtain ⟨hl, h | ⟨g', cap, cur, he, hb, hg, _, _, hs, ht⟩⟩ := h
  · exact absurd h.1 (by simp)
  · simp only [Value.slice.injEq, Option.some.injEq, Addr.mk.injEq] at he
    obtain ⟨⟨rfl, -, -⟩, -, rfl⟩ := he
    have : cur = xs.toArray := by
      apply Array.ext'
      rw [← ht, List.take_of_length_le (by simp [hs])]
    exact ⟨by rw [hg, this], hb⟩

theorem OI.of_full {w : World} {base g : Nat} {l : List Int} (hg : w.heap[g]? = some (.cells (l.map (Value.int .i64)).toArray 3 (0, 0))) (hb : base ≤ g) (hm : l.length ≤ maxLen) : OI w base (.slice (some ⟨g, 0, none⟩) l.length l.length) l :=
  ⟨by simp, .inr ⟨g, l.length, _, rfl, hb, hg, Nat.le_refl _, hm, by simp, List.take_of_length_le (by simp)⟩⟩

theorem splice_all {α : Type} (L cs : List α) (h : cs.length = L.length) : splice L 0 cs = cs := by
  simp [splice, h]

theorem addr_lit {w : World} {x : Addr} {u : Value} (h : w.cell? (x.add 0) = some u) : ∃ b o, x = ⟨b, o, none⟩ := by
  have hs := World.cell?_spot h
  obtain ⟨b, o, s⟩ := x
  refine ⟨b, o, ?_⟩
  unfold Addr.add at hs
  cases s with
  | none => rfl
  | some q => simp at hs

theorem take_step {l1 l2 : List Int} {k : Nat} (h1 : k < l1.length) (hl : l1.length = l2.length) (ht : l1.take k = l2.take k) :
    (l1.getD k 0 = l2.getD k 0 → l1.take (k + 1) = l2.take (k + 1)) ∧ (l1.getD k 0 ≠ l2.getD k 0 → l1 ≠ l2) := by
  refine ⟨fun h => ?_, fun h e => h (by rw [e])⟩
  have e1 : l1.getD k 0 = l1[k] := by simp [h1]
  have e2 : l2.getD k 0 = l2[k]'(by omega) := by simp [show k < l2.length by omega]
  rw [e1, e2] at h
  rw [List.take_succ_eq_append_getElem h1, List.take_succ_eq_append_getElem (by omega), ht, h]

theorem size_setCell (w : World) (a : Addr) (u : Value) : (w.setCell a u).heap.size = w.heap.size := by simp [World.setCell]

theorem setCell_others (w : World) (g o : Nat) (u : Value) : ∀ k, k ≠ g → (w.setCell ⟨g, o, none⟩ u).heap[k]? = w.heap[k]? := fun k hk => Below.heap_setCell w _ u k hk

end Go.Proofs.YtknjblgnjoocbaaDoor.H4

namespace Go.Proofs.YtknjblgnjoocbaaDoor.H4

/-- A value under its key, with the turn at which it was put in. -/
structure It (V : Type) where
  key : Int
  turn : Int
  val : V

instance {V : Type} [Inhabited V] : Inhabited (It V) := ⟨⟨0, 0, default⟩⟩

variable {V : Type}

def Lt (a b : It V) : Prop := a.key < b.key ∨ a.key = b.key ∧ a.turn < b.turn

instance (a b : It V) : Decidable (Lt a b) := by unfold Lt; infer_instance

theorem Lt.asymm {a b : It V} (h : Lt a b) : ¬ Lt b a := by unfold Lt at *; omega

theorem Lt.ntrans {a b c : It V} (h : ¬ Lt a b) (k : ¬ Lt b c) : ¬ Lt a c := by unfold Lt at *; omega

variable [Inhabited V]

def pt (xs : List (It V)) (i : Nat) : It V := xs.getD i default

theorem pt_eq {xs : List (It V)} {i : Nat} (h : i < xs.length) : pt xs i = xs[i] := by simp [pt, h]

theorem pt_get {xs : List (It V)} {i : Nat} (h : i < xs.length) : xs[i]? = some (pt xs i) := by rw [pt_eq h]; simp [h]

def swp (xs : List (It V)) (i j : Nat) : List (It V) := (xs.set i (pt xs j)).set j (pt xs i)

@[simp] theorem length_swp (xs : List (It V)) (i j : Nat) : (swp xs i j).length = xs.length := by simp [swp]

theorem pt_swp {xs : List (It V)} {i j : Nat} (hi : i < xs.length) (hj : j < xs.length) (k : Nat) : pt (swp xs i j) k = if k = j then pt xs i else if k = i then pt xs j else pt xs k := by
  unfold swp pt
  by_cases h1 : k = j
  · subst h1
    simp [hj, List.getD]
  · by_cases h2 : k = i
    · subst h2
      rw [if_neg h1, if_pos rfl]
      have : ¬ j = k := fun e => h1 e.symm
      simp [List.getD, this, hi]
    · rw [if_neg h1, if_neg h2]
      have a1 : ¬ j = k := fun e => h1 e.symm
      have a2 : ¬ i = k := fun e => h2 e.symm
      simp [List.getD, a1, a2]

theorem swp_perm {xs : List (It V)} {i j : Nat} (hi : i < xs.length) (hj : j < xs.length) : (swp xs i j).Perm xs := by
  have h := Array.swap_perm (xs := xs.toArray) (i := i) (j := j) (by simpa using hi) (by simpa using hj)
  have h2 := h.toList
  rw [Array.toList_swap] at h2
  unfold swp
  rw [pt_eq hi, pt_eq hj]
  simpa using h2

/-- None is ahead of its parent. -/
def Tree (xs : List (It V)) : Prop := ∀ i, 0 < i → i < xs.length → ¬ Lt (pt xs i) (pt xs ((i - 1) / 2))

/-- A tree but for the one at place p, which may be ahead of its parent. -/
def Up (xs : List (It V)) (p : Nat) : Prop :=
  (∀ i, 0 < i → i < xs.length → i ≠ p → ¬ Lt (pt xs i) (pt xs ((i - 1) / 2))) ∧ ∀ i, 0 < i → i < xs.length → (i - 1) / 2 = p → 0 < p → ¬ Lt (pt xs i) (pt xs ((p - 1) / 2))

/-- A tree but for the one at place p, which may be behind its children. -/
def Down (xs : List (It V)) (p : Nat) : Prop :=
  (∀ i, 0 < i → i < xs.length → (i - 1) / 2 ≠ p → ¬ Lt (pt xs i) (pt xs ((i - 1) / 2))) ∧ ∀ i, 0 < i → i < xs.length → (i - 1) / 2 = p → 0 < p → ¬ Lt (pt xs i) (pt xs ((p - 1) / 2))

theorem Up.top {xs : List (It V)} (h : Up xs 0) : Tree xs := fun i h0 hi => h.1 i h0 hi (by omega)

theorem Up.stay {xs : List (It V)} {p : Nat} (h : Up xs p) (hn : ¬ Lt (pt xs p) (pt xs ((p - 1) / 2))) : Tree xs := fun i h0 hi => by
  by_cases e : i = p
  · subst e; exact hn
  · exact h.1 i h0 hi e

theorem Up.rise {xs : List (It V)} {p : Nat} (h : Up xs p) (h0 : 0 < p) (hp : p < xs.length) (hl : Lt (pt xs p) (pt xs ((p - 1) / 2))) : Up (swp xs p ((p - 1) / 2)) ((p - 1) / 2) := by
  have hq : (p - 1) / 2 < xs.length := by omega
  have hne : (p - 1) / 2 ≠ p := by omega
  refine ⟨fun i i0 hi hn => ?_, fun i i0 hi he q0 => ?_⟩
  · rw [length_swp] at hi
    rw [pt_swp hp hq, pt_swp hp hq, if_neg hn]
    by_cases e1 : i = p
    · subst e1
      rw [if_pos rfl, if_pos rfl]
      exact hl.asymm
    · rw [if_neg e1]
      by_cases e2 : (i - 1) / 2 = (p - 1) / 2
      · rw [if_pos e2]
        have := h.1 i i0 hi e1
        rw [e2] at this
        exact Lt.ntrans this hl.asymm
      · rw [if_neg e2]
        by_cases e3 : (i - 1) / 2 = p
        · rw [if_pos e3]
          exact h.2 i i0 hi e3 h0
        · rw [if_neg e3]
          exact h.1 i i0 hi e1
  · rw [length_swp] at hi
    rw [pt_swp hp hq, pt_swp hp hq, if_neg (by omega : ¬ ((p - 1) / 2 - 1) / 2 = (p - 1) / 2), if_neg (by omega : ¬ ((p - 1) / 2 - 1) / 2 = p), if_neg (by omega : ¬ i = (p - 1) / 2)]
    have hqq := h.1 ((p - 1) / 2) q0 hq hne
    by_cases e1 : i = p
    · rw [if_pos e1]
      exact hqq
    · rw [if_neg e1]
      have := h.1 i i0 hi e1
      rw [he] at this
      exact Lt.ntrans this hqq

theorem Down.stay {xs : List (It V)} {p : Nat} (h : Down xs p) (hn : ∀ i, 0 < i → i < xs.length → (i - 1) / 2 = p → ¬ Lt (pt xs i) (pt xs p)) : Tree xs := fun i i0 hi => by
  by_cases e : (i - 1) / 2 = p
  · rw [e]; exact hn i i0 hi e
  · exact h.1 i i0 hi e

theorem Down.sink {xs : List (It V)} {p f : Nat} (h : Down xs p) (hf0 : 0 < f) (hf : f < xs.length) (he : (f - 1) / 2 = p) (hl : Lt (pt xs f) (pt xs p)) (hm : ∀ i, 0 < i → i < xs.length → (i - 1) / 2 = p → ¬ Lt (pt xs i) (pt xs f)) : Down (swp xs p f) f := by
  have hp : p < xs.length := by omega
  have hne : f ≠ p := by omega
  refine ⟨fun i i0 hi hn => ?_, fun i i0 hi hif _ => ?_⟩
  · rw [length_swp] at hi
    rw [pt_swp hp hf, pt_swp hp hf, if_neg hn]
    by_cases e1 : i = f
    · rw [if_pos e1, e1, he, if_pos rfl]
      exact hl.asymm
    · rw [if_neg e1]
      by_cases e2 : (i - 1) / 2 = p
      · rw [if_pos e2, if_neg (by omega : ¬ i = p)]
        exact hm i i0 hi e2
      · rw [if_neg e2]
        by_cases e3 : i = p
        · rw [if_pos e3, e3]
          exact h.2 f hf0 hf he (by omega)
        · rw [if_neg e3]
          exact h.1 i i0 hi e2
  · rw [length_swp] at hi
    rw [pt_swp hp hf, pt_swp hp hf, he, if_neg (by omega : ¬ i = f), if_neg (by omega : ¬ i = p), if_neg (by omega : ¬ p = f), if_pos rfl]
    have := h.1 i i0 hi (by omega)
    rwa [hif] at this

theorem Tree.top {xs : List (It V)} (h : Tree xs) : ∀ i, i < xs.length → ¬ Lt (pt xs i) (pt xs 0) := by
  intro i
  induction i using Nat.strongRecOn with
  | ind i ih =>
    intro hi
    by_cases h0 : i = 0
    · subst h0; exact fun hh => hh.asymm hh
    · exact Lt.ntrans (h i (by omega) hi) (ih ((i - 1) / 2) (by omega) (by omega))

/-- The place of the first, among those ahead of place k. -/
def fstTo (R : List (It V)) : Nat → Nat
  | 0 => 0
  | k + 1 => if (pt R k).key < (pt R (fstTo R k)).key then k else fstTo R k

def Asc (R : List (It V)) : Prop := ∀ i j, i < j → j < R.length → (pt R i).turn < (pt R j).turn

theorem fstTo_lt (R : List (It V)) : ∀ k, 0 < k → fstTo R k < k
  | 0, h => by omega
  | 1, _ => by
    show (if _ then 0 else 0) < 1
    split <;> omega
  | k + 2, _ => by
    have := fstTo_lt R (k + 1) (by omega)
    have e : fstTo R (k + 2) = if (pt R (k + 1)).key < (pt R (fstTo R (k + 1))).key then k + 1 else fstTo R (k + 1) := rfl
    rw [e]
    split
    · exact Nat.lt_succ_self _
    · omega

theorem fstTo_least {R : List (It V)} (h : Asc R) : ∀ k, k ≤ R.length → ∀ i, i < k → ¬ Lt (pt R i) (pt R (fstTo R k))
  | 0, _, i, hi => by omega
  | k + 1, hk, i, hi => by
    have ih := fstTo_least h k (by omega)
    unfold fstTo
    by_cases e : i = k
    · subst e
      by_cases hlt : (pt R i).key < (pt R (fstTo R i)).key
      · rw [if_pos hlt]; exact fun hh => hh.asymm hh
      · rw [if_neg hlt]
        intro hh
        rcases hh with hh | ⟨_, hh⟩
        · exact hlt hh
        · by_cases h0 : i = 0
          · subst h0; simp only [fstTo] at hh; omega
          · have := h _ i (fstTo_lt R i (by omega)) (by omega)
            omega
    · by_cases hlt : (pt R k).key < (pt R (fstTo R k)).key
      · rw [if_pos hlt]
        exact Lt.ntrans (ih i (by omega)) (Lt.asymm (.inl hlt))
      · rw [if_neg hlt]
        exact ih i (by omega)

/-- What a heap holds: the row in memory is a tree of what was put in. -/
structure Holds (xs R : List (It V)) (n : Int) : Prop where
  tree : Tree xs
  perm : xs.Perm R
  asc : Asc R
  low : ∀ i, i < R.length → (pt R i).turn < n

theorem Holds.len {xs R : List (It V)} {n : Int} (h : Holds xs R n) : xs.length = R.length := h.perm.length_eq

theorem mem_pt {R : List (It V)} {i : Nat} (h : i < R.length) : pt R i ∈ R := by rw [pt_eq h]; exact List.getElem_mem h

theorem exists_pt {R : List (It V)} {x : It V} (h : x ∈ R) : ∃ i, i < R.length ∧ pt R i = x := by
  obtain ⟨i, hi, rfl⟩ := List.getElem_of_mem h
  exact ⟨i, hi, pt_eq hi⟩

theorem Asc.inj {R : List (It V)} (h : Asc R) {i j : Nat} (hi : i < R.length) (hj : j < R.length) (e : (pt R i).turn = (pt R j).turn) : i = j := by
  rcases Nat.lt_trichotomy i j with hl | rfl | hl
  · have := h i j hl hj; omega
  · rfl
  · have := h j i hl hi; omega

/-- The tree's top is the first. -/
theorem Holds.first {xs R : List (It V)} {n : Int} (h : Holds xs R n) (hn : 0 < R.length) : pt xs 0 = pt R (fstTo R R.length) := by
  have hf := fstTo_lt R R.length hn
  have hl := h.len
  obtain ⟨i, hi, he⟩ := exists_pt (h.perm.mem_iff.1 (mem_pt (R := xs) (i := 0) (by omega)))
  obtain ⟨j, hj, hje⟩ := exists_pt (h.perm.mem_iff.2 (mem_pt hf))
  have h1 := fstTo_least h.asc R.length (Nat.le_refl _) i hi
  have h2 := h.tree.top j hj
  rw [hje, ← he] at h2
  have : i = fstTo R R.length := by
    refine h.asc.inj hi hf ?_
    unfold Lt at h1 h2
    omega
  rw [← he, this]

theorem Asc.erase {R : List (It V)} (h : Asc R) (k : Nat) : Asc (R.eraseIdx k) := by
  intro i j hij hj
  have hlen : (R.eraseIdx k).length ≤ R.length := List.length_eraseIdx_le ..
  have e : ∀ m, m < (R.eraseIdx k).length → pt (R.eraseIdx k) m = pt R (if m < k then m else m + 1) := by
    intro m hm
    unfold pt
    rw [List.getD, List.getD, List.getElem?_eraseIdx]
    split <;> rfl
  have hl2 : k < R.length → (R.eraseIdx k).length + 1 = R.length := fun hk => by rw [List.length_eraseIdx, if_pos hk]; omega
  rw [e i (by omega), e j hj]
  by_cases hk : k < R.length
  · have := hl2 hk
    apply h
    · split <;> split <;> omega
    · split <;> omega
  · have : (R.eraseIdx k).length = R.length := by rw [List.length_eraseIdx, if_neg hk]
    apply h
    · split <;> split <;> omega
    · split <;> omega

theorem Asc.snoc {R : List (It V)} {n : Int} (h : Asc R) (hl : ∀ i, i < R.length → (pt R i).turn < n) (x : It V) (hx : x.turn = n) : Asc (R ++ [x]) ∧ ∀ i, i < (R ++ [x]).length → (pt (R ++ [x]) i).turn < n + 1 := by
  have e1 : ∀ i, i < R.length → pt (R ++ [x]) i = pt R i := fun i hi => by unfold pt; rw [List.getD, List.getD, List.getElem?_append_left hi]
  have e2 : pt (R ++ [x]) R.length = x := by unfold pt; simp [List.getD]
  refine ⟨fun i j hij hj => ?_, fun i hi => ?_⟩
  · rw [List.length_append, List.length_singleton] at hj
    by_cases ej : j = R.length
    · rw [ej, e2, e1 i (by omega), hx]
      exact hl i (by omega)
    · rw [e1 j (by omega), e1 i (by omega)]
      exact h i j hij (by omega)
  · rw [List.length_append, List.length_singleton] at hi
    by_cases ei : i = R.length
    · rw [ei, e2, hx]; omega
    · rw [e1 i (by omega)]
      have := hl i (by omega)
      omega

theorem up_snoc {xs : List (It V)} (h : Tree xs) (x : It V) : Up (xs ++ [x]) xs.length := by
  have e1 : ∀ i, i < xs.length → pt (xs ++ [x]) i = pt xs i := fun i hi => by unfold pt; rw [List.getD, List.getD, List.getElem?_append_left hi]
  refine ⟨fun i i0 hi hn => ?_, fun i i0 hi he => ?_⟩
  · rw [List.length_append, List.length_singleton] at hi
    rw [e1 i (by omega), e1 _ (by omega)]
    exact h i i0 (by omega)
  · rw [List.length_append, List.length_singleton] at hi
    omega

/-- A value comes in, and has risen. -/
theorem Holds.push {xs R : List (It V)} {n : Int} (h : Holds xs R n) (x : It V) (hx : x.turn = n) {ys : List (It V)} (ht : Tree ys) (hp : ys.Perm (xs ++ [x])) : Holds ys (R ++ [x]) (n + 1) := by
  obtain ⟨a, b⟩ := h.asc.snoc h.low x hx
  exact ⟨ht, hp.trans (h.perm.append_right _), a, b⟩

/-- The last goes to the top, and sinks. -/
def cut (xs : List (It V)) : List (It V) := (xs.set 0 (pt xs (xs.length - 1))).take (xs.length - 1)

theorem length_cut (xs : List (It V)) : (cut xs).length = xs.length - 1 := by simp [cut]

theorem pt_cut {xs : List (It V)} {i : Nat} (h : i < xs.length - 1) : pt (cut xs) i = if i = 0 then pt xs (xs.length - 1) else pt xs i := by
  unfold cut
  by_cases e : i = 0
  · subst e
    rw [if_pos rfl]
    unfold pt
    simp [List.getD, h]
  · rw [if_neg e]
    unfold pt
    have : ¬ 0 = i := fun q => e q.symm
    rw [List.getD, List.getElem?_take, if_pos h, List.getElem?_set, if_neg this]
    rfl

theorem down_cut {xs : List (It V)} (h : Tree xs) : Down (cut xs) 0 := by
  refine ⟨fun i i0 hi hn => ?_, fun i i0 hi he p0 => by omega⟩
  rw [length_cut] at hi
  rw [pt_cut hi, pt_cut (by omega), if_neg (by omega), if_neg hn]
  exact h i i0 (by omega)

theorem cut_perm {xs : List (It V)} (h : 0 < xs.length) : (pt xs 0 :: cut xs).Perm xs := by
  cases xs with
  | nil => simp at h
  | cons a r =>
    unfold cut pt
    cases hr : r.reverse with
    | nil =>
      have : r = [] := by simpa using congrArg List.reverse hr
      subst this
      simp [List.getD]
    | cons z q =>
      have : r = q.reverse ++ [z] := by simpa using congrArg List.reverse hr
      subst this
      simp [List.getD]
      exact (List.perm_append_singleton z q.reverse).symm

theorem erase_perm {R : List (It V)} {i : Nat} (h : i < R.length) : (pt R i :: R.eraseIdx i).Perm R := by
  rw [List.eraseIdx_eq_take_drop_succ, pt_eq h]
  refine List.perm_middle.symm.trans ?_
  rw [← List.drop_eq_getElem_cons h, List.take_append_drop]

theorem Holds.pop {xs R : List (It V)} {n : Int} (h : Holds xs R n) (hn : 0 < R.length) {ys : List (It V)} (ht : Tree ys) (hp : ys.Perm (cut xs)) : Holds ys (R.eraseIdx (fstTo R R.length)) n := by
  have hf := fstTo_lt R R.length hn
  have hl := h.len
  refine ⟨ht, ?_, h.asc.erase _, fun i hi => ?_⟩
  · have h1 : (pt xs 0 :: ys).Perm R := ((hp.cons _).trans (cut_perm (by omega))).trans h.perm
    have h2 := erase_perm hf
    rw [h.first hn] at h1
    exact (h1.trans h2.symm).cons_inv
  · have hm := List.mem_of_mem_eraseIdx (mem_pt hi)
    obtain ⟨j, hj, e⟩ := exists_pt hm
    rw [← e]
    exact h.low j hj

end Go.Proofs.YtknjblgnjoocbaaDoor.H4

namespace Go.Proofs.YtknjblgnjoocbaaDoor.H4
open Go.RowKit Go.Maps
set_option maxRecDepth 20000

theorem drew3 (w : World) (a b c : Nat) : ∃ n, ((w.drewN a).drewN b).drewN c = w.drewN n := ⟨a + (b + c), by rw [World.drewN_drewN, World.drewN_drewN]⟩

end Go.Proofs.YtknjblgnjoocbaaDoor.H4

namespace Go.Proofs.YtknjblgnjoocbaaDoor.H4
open Go.RowKit Go.Maps
set_option maxRecDepth 20000

def cellsI (x : It Int) : List Value := [.int .i64 x.key, .int .i64 x.turn, .int .i64 x.val]

def flatI (xs : List (It Int)) : List Value := xs.flatMap cellsI

theorem flatI_length (xs : List (It Int)) : (flatI xs).length = xs.length * 3 := by
  induction xs with
  | nil => rfl
  | cons a r ih => unfold flatI at ih ⊢; rw [List.flatMap_cons, List.length_append, ih]; simp [cellsI]; omega

theorem flatI_snoc (xs : List (It Int)) (x : It Int) : flatI (xs ++ [x]) = flatI xs ++ cellsI x := by simp [flatI]

theorem flatI_get : ∀ {xs : List (It Int)} {i : Nat} {x : It Int}, xs[i]? = some x → ∀ j, j < 3 → (flatI xs)[i * 3 + j]? = (cellsI x)[j]?
  | a :: r, 0, x, h, j, hj => by
    simp only [List.getElem?_cons_zero, Option.some.injEq] at h
    subst h
    unfold flatI
    rw [List.flatMap_cons, List.getElem?_append_left (by simp [cellsI]; omega)]
    simp
  | a :: r, i + 1, x, h, j, hj => by
    simp only [List.getElem?_cons_succ] at h
    have ih := flatI_get (xs := r) h j hj
    unfold flatI at ih ⊢
    rw [List.flatMap_cons, List.getElem?_append_right (by simp [cellsI]; omega)]
    rw [show (i + 1) * 3 + j - (cellsI a).length = i * 3 + j by simp [cellsI]; omega]
    exact ih

theorem flatI_set : ∀ (xs : List (It Int)) (i : Nat) (x : It Int), i < xs.length → flatI (xs.set i x) = (((flatI xs).set (i * 3) (.int .i64 x.key)).set (i * 3 + 1) (.int .i64 x.turn)).set (i * 3 + 2) (.int .i64 x.val)
  | a :: r, 0, x, _ => by simp [flatI, cellsI]
  | a :: r, i + 1, x, h => by
    have ih := flatI_set r i x (by simpa using h)
    unfold flatI at ih ⊢
    rw [List.set_cons_succ, List.flatMap_cons, ih, List.flatMap_cons]
    have e : (i + 1) * 3 = i * 3 + 3 := by omega
    rw [e]
    simp [cellsI]

theorem flatI_take (xs : List (It Int)) (n : Nat) : (flatI xs).take (n * 3) = flatI (xs.take n) := by
  induction xs generalizing n with
  | nil => simp [flatI]
  | cons a r ih =>
    cases n with
    | zero => simp [flatI]
    | succ n =>
      have h := ih n
      unfold flatI at h ⊢
      rw [List.take_succ_cons, List.flatMap_cons, List.flatMap_cons, List.take_append]
      have e : (n + 1) * 3 - (cellsI a).length = n * 3 := by simp [cellsI]; omega
      rw [e, h, List.take_of_length_le (by simp [cellsI]; omega)]

theorem cellOf {w : World} {g k : Nat} {cur : Array Value} {t : TypeId} {fz : Nat × Nat} {u : Value} (h : w.heap[g]? = some (.cells cur t fz)) (hk : cur[k]? = some u) : w.cell? ⟨g, k, none⟩ = some u := by
  unfold World.cell?
  simp only [h]
  exact hk

theorem frozenOf {w : World} {g k : Nat} {cur : Array Value} {t : TypeId} (h : w.heap[g]? = some (.cells cur t (0, 0))) : w.frozen? ⟨g, k, none⟩ = false := by
  unfold World.frozen?
  simp [h]

/-- Only the row is written. -/
structure Only (w w' : World) (b : Nat) : Prop where
  os : w'.os = w.os
  tape : w'.tape = w.tape
  output : w'.output = w.output
  size : w'.heap.size = w.heap.size
  block : ∀ k, k ≠ b → w'.heap[k]? = w.heap[k]?

theorem Only.refl (w : World) (b : Nat) : Only w w b := ⟨rfl, rfl, rfl, rfl, fun _ _ => rfl⟩
theorem Only.trans {a b c : World} {k : Nat} (h : Only a b k) (h' : Only b c k) : Only a c k := ⟨h'.os.trans h.os, h'.tape.trans h.tape, h'.output.trans h.output, h'.size.trans h.size, fun i hi => (h'.block i hi).trans (h.block i hi)⟩
theorem Only.drewN {a b : World} {k : Nat} (h : Only a b k) (n : Nat) : Only a (b.drewN n) k := ⟨h.os, h.tape, h.output, h.size, h.block⟩
theorem Only.drew {a b : World} {k : Nat} (h : Only a b k) : Only a b.drew k := ⟨h.os, h.tape, h.output, h.size, h.block⟩
theorem Only.set {a b : World} {k : Nat} (h : Only a b k) (o : Nat) (u : Value) : Only a (b.setCell ⟨k, o, none⟩ u) k :=
  ⟨h.os, h.tape, h.output, (size_setCell _ _ _).trans h.size, fun i hi => (setCell_others _ _ _ _ i hi).trans (h.block i hi)⟩

theorem heap_setCell_at {w : World} {g k : Nat} {cur : Array Value} {t : TypeId} (u : Value) (h : w.heap[g]? = some (.cells cur t (0, 0))) : (w.setCell ⟨g, k, none⟩ u).heap[g]? = some (.cells (cur.setIfInBounds k u) t (0, 0)) := by
  simp [World.setCell, Array.getElem?_modify, h]

end Go.Proofs.YtknjblgnjoocbaaDoor.H4

namespace Go.Proofs.YtknjblgnjoocbaaDoor.H4
open Go.RowKit Go.Maps
set_option maxRecDepth 20000

end Go.Proofs.YtknjblgnjoocbaaDoor.H4

namespace Go.Proofs.YtknjblgnjoocbaaDoor.H4
open Go.RowKit Go.Maps
set_option maxRecDepth 20000

/-- Which child is looked at, and which was the first so far. -/
structure Kid (ys : List (It Int)) (a c f : Nat) : Prop where
  lo : 2 * a + 1 ≤ c
  hi : c ≤ 2 * a + 3
  lt : f < ys.length
  is : f = a ∨ 0 < f ∧ (f - 1) / 2 = a ∧ Lt (pt ys f) (pt ys a)
  least : ∀ i, 0 < i → i < ys.length → (i - 1) / 2 = a → i < c → ¬ Lt (pt ys i) (pt ys f)

theorem Kid.start {ys : List (It Int)} {a : Nat} (h : a < ys.length) : Kid ys a (2 * a + 1) a :=
  ⟨Nat.le_refl _, by omega, h, .inl rfl, fun i h0 _ h1 h2 => by omega⟩

theorem Kid.take {ys : List (It Int)} {a c f : Nat} (h : Kid ys a c f) (hc : c < ys.length) (hh : c ≤ 2 * a + 2) (hl : Lt (pt ys c) (pt ys f)) : Kid ys a (c + 1) c := by
  have hlo := h.lo
  refine ⟨by omega, by omega, hc, .inr ⟨by omega, by omega, ?_⟩, fun i h0 h1 h2 h3 => ?_⟩
  · rcases h.is with rfl | ⟨_, _, h4⟩
    · exact hl
    · unfold Lt at *; omega
  · by_cases e : i = c
    · subst e; exact fun q => q.asymm q
    · exact Lt.ntrans (h.least i h0 h1 h2 (by omega)) hl.asymm

theorem Kid.pass {ys : List (It Int)} {a c f : Nat} (h : Kid ys a c f) (hh : c ≤ 2 * a + 2) (hl : ¬ Lt (pt ys c) (pt ys f)) : Kid ys a (c + 1) f := by
  have hlo := h.lo
  refine ⟨by omega, by omega, h.lt, h.is, fun i h0 h1 h2 h3 => ?_⟩
  by_cases e : i = c
  · subst e; exact hl
  · exact h.least i h0 h1 h2 (by omega)

theorem Kid.all {ys : List (It Int)} {a c f : Nat} (h : Kid ys a c f) (hh : ¬ (c ≤ 2 * a + 2 ∧ c < ys.length)) : ∀ i, 0 < i → i < ys.length → (i - 1) / 2 = a → ¬ Lt (pt ys i) (pt ys f) := by
  intro i h0 h1 h2
  have := h.hi
  exact h.least i h0 h1 h2 (by omega)

theorem sinkLess {xs ys : List (It Int)} {q c f : Nat} (hlen : ys.length = xs.length) (k1 : Kid ys q c f) (hfq : ¬ f = q) : xs.length - f < xs.length - q := by
  have hf := k1.lt
  rcases k1.is with e | ⟨e1, e2, e3⟩
  · exact absurd e hfq
  · omega

end Go.Proofs.YtknjblgnjoocbaaDoor.H4

namespace Go.Proofs.YtknjblgnjoocbaaDoor.H4
open Go.RowKit Go.Maps
set_option maxRecDepth 20000

/-- Only these two are written. -/
structure Only2 (w w' : World) (g b : Nat) : Prop where
  os : w'.os = w.os
  tape : w'.tape = w.tape
  output : w'.output = w.output
  size : w'.heap.size = w.heap.size
  block : ∀ k, k ≠ b → k ≠ g → w'.heap[k]? = w.heap[k]?

theorem Only2.of {w w' : World} {g b : Nat} (h : Only w w' b) : Only2 w w' g b := ⟨h.os, h.tape, h.output, h.size, fun k hk _ => h.block k hk⟩
theorem Only2.then {w w' w'' : World} {g b : Nat} (h : Only2 w w' g b) (k : Only w' w'' b) : Only2 w w'' g b := ⟨k.os.trans h.os, k.tape.trans h.tape, k.output.trans h.output, k.size.trans h.size, fun i hi hg => (k.block i hi).trans (h.block i hi hg)⟩
theorem Only2.set {a w : World} {g b : Nat} (h : Only2 a w g b) (o : Nat) (u : Value) : Only2 a (w.setCell ⟨g, o, none⟩ u) g b :=
  ⟨h.os, h.tape, h.output, (size_setCell _ _ _).trans h.size, fun i hi hg => (setCell_others _ _ _ _ i hg).trans (h.block i hi hg)⟩

def zeroI : It Int := ⟨0, 0, 0⟩

theorem cut_eq (xs : List (It Int)) : (((xs.set 0 (pt xs (xs.length - 1))).set (xs.length - 1) zeroI).take (xs.length - 1)) = cut xs := by
  unfold cut
  rw [List.take_set]
  exact List.set_eq_of_length_le (by simp)

end Go.Proofs.YtknjblgnjoocbaaDoor.H4

namespace Go.Proofs.YtknjblgnjoocbaaDoor.H4
open Go.RowKit
variable {F : Fence} {n : Nat} {P : Program}

theorem cellNew (W : World) (v : Value) (t : TypeId) : (W.alloc (.cells #[v] t)).cell? ⟨W.heap.size, 0, none⟩ = some v ∧ (W.alloc (.cells #[v] t)).frozen? ⟨W.heap.size, 0, none⟩ = false :=
  ⟨by rw [World.cell?_alloc_at _ _ _ _ rfl]; rfl, World.frozen?_alloc_at _ _ _ _ rfl⟩

theorem cellAlloc {W : World} {a : Addr} {v : Value} (o : Obj) (h : W.cell? a = some v) : (W.alloc o).cell? a = some v := cell_kept h (World.grownBy_alloc W o none) (fun r e => by cases e)

theorem frozenAlloc {W : World} {a : Addr} {v : Value} (o : Obj) (h : W.cell? a = some v) (hf : W.frozen? a = false) : (W.alloc o).frozen? a = false := (frozen_kept h (World.grownBy_alloc W o none) (fun r e => by cases e)).trans hf

theorem put_alloc (w : World) (o o' : Obj) : (w.alloc o).putObj w.heap.size o' = w.alloc o' := by
  have e : (w.heap.push o).setIfInBounds w.heap.size o' = w.heap.push o' := by
    apply Array.ext'
    simp [Array.toList_setIfInBounds]
  show { w with heap := (w.heap.push o).setIfInBounds w.heap.size o' } = { w with heap := w.heap.push o' }
  rw [e]

/-- How the body of a round may be left. -/
def roundEnd (I : Nat → Obj → World → Prop) (Ix : Code → Obj → World → Prop) (m : Nat) (o : Obj) : Exit → Act → World → Prop
  | .normal, _, W => ∃ m', m' < m ∧ I m' o W
  | .ret, _, W => Ix .ret o W
  | .exit id, _, W => Ix (.exit id) o W
  | .goto t, _, W => Ix (.goto t) o W
  | .panic _, _, _ => False
  | .outgrown, _, _ => False

/-- What holds of a world with the loop's record in it, whatever stands in the record. -/
structure Rec (l : Nat) (I : Obj → World → Prop) : Prop where
  get : ∀ o W, I o W → W.heap[l]? = some o
  put : ∀ o o' W, I o W → I o' (W.putObj l o')

/-- A loop over an iterator that may itself write memory, and whose body may write what the iterator reads. -/
theorem wp_range {α : Type} {g : Operand} {ps : Array Tmp} {assign body : Code} {Q : Exit → Act → World → Prop} {a : Act} {w : World} (m0 : Nat)
    (hro : F.round = none) (h1 : 1 ≤ n) {gf : Nat} {lb : Array Value} (hg : a.eval g = .func (.func gf) #[] lb) (hFg : F.fn gf) (eg : ∀ args w, (callFunc gf args).run P w = .ok (.enter gf args) w)
    {encs : α → Array Value} (hps : ∀ x, (encs x).size = ps.size)
    (I : Nat → Obj → World → Prop) (Iy : Nat → α → Obj → World → Prop) (Ie : Obj → World → Prop) (Ix : Code → Obj → World → Prop)
    (rI : ∀ m, Rec (w.heap.size + 1) (I m)) (ry : ∀ m x, Rec (w.heap.size + 1) (Iy m x)) (re : Rec (w.heap.size + 1) Ie) (rx : ∀ c, Rec (w.heap.size + 1) (Ix c))
    (h0 : ∀ o, I m0 o ((w.alloc (.deferred (some []))).alloc o))
    (hseq : ∀ (o : Obj) (Jx : World → Prop), (∀ m x W, Iy m x o W → YieldAt F (n - 1 - 1) P (w.heap.size + 1) (encs x) W fun e W' => (e = .returned (.bool true) ∧ ∃ m', m' < m ∧ I m' o W') ∨ (e = .returned (.bool false) ∧ Jx W')) →
      ∀ W, I m0 o W → CallsIn F (n - 1) P gf (#[.func (.yield (w.heap.size + 1)) #[] #[]] ++ lb) W fun e W' => (∃ v, e = .returned v) ∧ (Ie o W' ∨ Jx W'))
    (a₁ : α → Act)
    (hassign : ∀ (x : α) (W : World) (K : Act → World → Prop), K (a₁ x) W →
      assign.wpIn (F.inRound (w.heap.size + 1)) (n - 1 - 1) P (Exit.then K (fun _ _ _ => False)) { tmps := (ps.zip (encs x)).foldl (fun t (p, v) => t.setIfInBounds p v) a.tmps, defers := [] } W)
    (hbody : ∀ m x o W, Iy m x o W → body.wpIn (F.inRound (w.heap.size + 1)) (n - 1 - 1) P (roundEnd I Ix m o) (a₁ x) W)
    (hdone : ∀ o W, Ie o W → Q .normal { a with defers := { target := .collected w.heap.size, args := #[] } :: a.defers } W)
    (hstop : ∀ c o W, Ix c o W → c.wpIn F n P Q { a with defers := { target := .collected w.heap.size, args := #[] } :: a.defers } W) :
    (Code.rangeFunc g ps assign body).wpIn F n P Q a w := by
  refine wpIn_rangeFunc ?_
  intro fn hfn
  rw [hro]
  obtain ⟨rec, hrec⟩ : ∃ rec : LoopState → Option Code → Loop, rec = fun st pe => { state := st, pending := pe, fn, tmps := a.tmps, params := ps, assign, body, defers := w.heap.size } := ⟨_, rfl⟩
  obtain ⟨W1, hW1⟩ : ∃ W1, (w.alloc (.deferred (some []))).alloc (.loop (rec .ready none)) = W1 := ⟨_, rfl⟩
  have hI1 : I m0 (.loop (rec .ready none)) W1 := by rw [← hW1]; exact h0 _
  refine ⟨w.heap.size + 1, [{ target := .collected w.heap.size, args := #[] }], W1, { target := .fn (.func gf) lb, args := #[.func (.yield (w.heap.size + 1)) #[] #[]] }, W1, gf,
    #[.func (.yield (w.heap.size + 1)) #[] #[]] ++ lb, W1, ?_, ?_, ?_, ?_, fun _ => h1, ?_⟩
  · rw [← hW1, hrec]; exact run_enterLoop_outer _ _ _ _ _
  · simp only [resolve, hg]
    simp [go_sem]
  · intro f' hf'; simp [Target.leads] at hf'; subst hf'; exact hFg
  · simp [invoke, go_sem, eg]
  · refine (hseq (.loop (rec .ready none)) (fun W => ∃ c, Ix c (.loop (rec .done (some c))) W) ?_ W1 hI1).mono ?_
    · rintro m x W hi
      have hl := (ry m x).get _ _ hi
      have hlt : w.heap.size + 1 < W.heap.size := (Array.getElem?_eq_some_iff.1 hl).1
      have hy := run_yield (P := P) (args := encs x) hl (by rw [hrec]; exact hps x)
      rw [hrec] at hy
      refine ⟨fn, _, assign, body, hy, roundIn_of_wpIn hfn (hassign x W _ ⟨_, run_beginRound hl (by rw [hrec]), ?_⟩)⟩
      refine wpIn_mono (hbody m x (.loop { rec .ready none with state := .busy }) _ ((ry m x).put _ _ _ hi)) ?_
      have fin : ∀ (jump : Option Code) (W3 : World), W3.heap[w.heap.size + 1]? = some (.loop { rec .ready none with state := .busy }) →
          (Instr.endRound (w.heap.size + 1) jump).run P W3 = .ok (.bool jump.isNone) (W3.putObj (w.heap.size + 1) (.loop (rec (if jump.isNone then .ready else .done) jump))) := fun jump W3 hl3 => by
        have := run_endRound (P := P) jump hl3
        rw [hrec] at this ⊢
        exact this
      rintro e a3 W3 hp
      cases e with
      | normal =>
        obtain ⟨m', hm', hi3⟩ := hp
        exact ⟨_, _, fin none W3 ((rI m').get _ _ hi3), .inl ⟨rfl, m', hm', (rI m').put _ _ _ hi3⟩⟩
      | ret => exact ⟨_, _, fin (some .ret) W3 ((rx _).get _ _ hp), .inr ⟨rfl, .ret, (rx _).put _ _ _ hp⟩⟩
      | exit id => exact ⟨_, _, fin (some (.exit id)) W3 ((rx _).get _ _ hp), .inr ⟨rfl, .exit id, (rx _).put _ _ _ hp⟩⟩
      | goto t => exact ⟨_, _, fin (some (.goto t)) W3 ((rx _).get _ _ hp), .inr ⟨rfl, .goto t, (rx _).put _ _ _ hp⟩⟩
      | panic ch => exact hp.elim
      | outgrown => exact hp.elim
    · rintro e W2 ⟨⟨v, rfl⟩, (hi | ⟨c, hi⟩)⟩
      · exact ⟨none, _, by have := run_endLoop (P := P) (re.get _ _ hi) (by rw [hrec]; simp); rw [hrec] at this; exact this, hdone _ _ (re.put _ _ _ hi)⟩
      · exact ⟨some c, _, by have := run_endLoop (P := P) ((rx c).get _ _ hi) (by rw [hrec]; simp); rw [hrec] at this; exact this, hstop c _ _ ((rx c).put _ _ _ hi)⟩

end Go.Proofs.YtknjblgnjoocbaaDoor.H4

namespace Go.Proofs.YtknjblgnjoocbaaDoor.H4
open Go.RowKit Go.Maps
set_option maxRecDepth 20000

/-- What is not one's own stays. -/
structure Fr (K K' : Nat → Nat) (w w' : World) : Prop where
  os : w'.os = w.os
  tape : w'.tape = w.tape
  output : w'.output = w.output
  size : w.heap.size ≤ w'.heap.size
  block : ∀ k, k < w.heap.size → K k = 0 → w'.heap[k]? = w.heap[k]?
  role : ∀ k, k < w.heap.size → K' k = K k

theorem Fr.refl (K : Nat → Nat) (w : World) : Fr K K w w := ⟨rfl, rfl, rfl, Nat.le_refl _, fun _ _ _ => rfl, fun _ _ => rfl⟩

theorem Fr.trans {K K' K'' : Nat → Nat} {a b c : World} (h : Fr K K' a b) (k : Fr K' K'' b c) : Fr K K'' a c :=
  ⟨k.os.trans h.os, k.tape.trans h.tape, k.output.trans h.output, Nat.le_trans h.size k.size,
   fun i hi h0 => (k.block i (Nat.lt_of_lt_of_le hi h.size) (by rw [h.role i hi]; exact h0)).trans (h.block i hi h0),
   fun i hi => (k.role i (Nat.lt_of_lt_of_le hi h.size)).trans (h.role i hi)⟩

theorem Fr.of_below {K : Nat → Nat} {w w' : World} (h : Below w.heap.size w w') : Fr K K w w' :=
  ⟨h.os, h.tape, h.output, h.size, fun k hk _ => h.block k hk, fun _ _ => rfl⟩

theorem Fr.below {K K' : Nat → Nat} {w w' : World} {B : Nat} (h : Fr K K' w w') (hu : ∀ k, K k ≠ 0 → B ≤ k) (hB : B ≤ w.heap.size) : Below B w w' :=
  ⟨h.os, h.tape, h.output, h.size, fun k hk => h.block k (by omega) (by
    by_cases hz : K k = 0
    · exact hz
    · have := hu k hz; omega)⟩

theorem Fr.up {K K' : Nat → Nat} {w w' : World} {B : Nat} (h : Fr K K' w w') (hu : ∀ k, K k ≠ 0 → B ≤ k) (hB : B ≤ w.heap.size) : ∀ k, K' k ≠ 0 → B ≤ k := by
  intro k hk
  by_cases hl : k < w.heap.size
  · exact hu k (by rw [← h.role k hl]; exact hk)
  · omega

theorem Fr.drewN {K K' : Nat → Nat} {w w' : World} (h : Fr K K' w w') (n : Nat) : Fr K K' w (w'.drewN n) := ⟨h.os, h.tape, h.output, h.size, h.block, h.role⟩

theorem holds_nil {n : Int} : Holds ([] : List (It Int)) [] n := ⟨fun i _ hi => by simp at hi, List.Perm.refl _, fun i j _ hj => by simp at hj, fun i hi => by simp at hi⟩

def pkK (R : List (It Int)) : Int := if R = [] then 0 else (pt R (fstTo R R.length)).key
def pkV (R : List (It Int)) : Int := if R = [] then 0 else (pt R (fstTo R R.length)).val
def pkB (R : List (It Int)) : Bool := decide (R ≠ [])
def rest (R : List (It Int)) : List (It Int) := R.eraseIdx (fstTo R R.length)

end Go.Proofs.YtknjblgnjoocbaaDoor.H4

namespace Go.Proofs.YtknjblgnjoocbaaDoor.H4
open Go.RowKit Go.Maps
set_option maxRecDepth 20000

theorem row_move {w w' : World} {base : Nat} {e : TypeId} {size : Nat} {v : Value} {n : Nat} {xs : List Value} (h : w.ownsRow base e size v n xs) (hb : ∀ k, v.ownBlock = some k → w'.heap[k]? = w.heap[k]?) : w'.ownsRow base e size v n xs := by
  refine ⟨h.1, ?_⟩
  rcases h.2 with h2 | ⟨g, cap, cur, rfl, h1, h2, r⟩
  · exact .inl h2
  · exact .inr ⟨g, cap, cur, rfl, h1, (hb g rfl).trans h2, r⟩

theorem row_shape {w : World} {base : Nat} {e : TypeId} {size : Nat} {v : Value} {n : Nat} {xs : List Value} (h : w.ownsRow base e size v n xs) : ∃ a c, v = .slice a n c := by
  rcases h.2 with ⟨rfl, rfl⟩ | ⟨g, cap, cur, rfl, _⟩
  · exact ⟨none, 0, rfl⟩
  · exact ⟨_, _, rfl⟩

theorem row_lt {w : World} {base : Nat} {e : TypeId} {size : Nat} {v : Value} {n : Nat} {xs : List Value} (h : w.ownsRow base e size v n xs) : ∀ k, v.ownBlock = some k → k < w.heap.size := fun k hk => (World.ownsRow.lt h k hk).2

theorem heap_lt {w : World} {g : Nat} {o : Obj} (h : w.heap[g]? = some o) : g < w.heap.size := (Array.getElem?_eq_some_iff.1 h).1

end Go.Proofs.YtknjblgnjoocbaaDoor.H4

namespace Go.Proofs.YtknjblgnjoocbaaDoor.H4
open Go.RowKit Go.Maps
set_option maxRecDepth 20000

theorem rest_len {R : List (It Int)} (h : R ≠ []) : (rest R).length + 1 = R.length := by
  have hp : 0 < R.length := List.length_pos_iff.2 h
  have := fstTo_lt R R.length hp
  unfold rest
  rw [List.length_eraseIdx, if_pos this]
  omega

theorem rest_nil : rest [] = [] := rfl

end Go.Proofs.YtknjblgnjoocbaaDoor.H4

