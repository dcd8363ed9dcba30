import Derived.Test.YtdfggdafflkkcaaRows
import Derived.WalkKit
import Derived.ProofKit
import Derived.OpenShut
import Derived.ShutString
import Derived.ChangeOld
import Derived.Below
import Derived.WalkLawsBesides
import Derived.WalkSpells
import Derived.Deep.QuietTactic
import Derived.BigQuiet
import Derived.Laws.CopyOwn
import Derived.SizedLaws
import Derived.Maps.Own
import Derived.Laws.BytesArg
import Derived.Laws.BitsLemmas
import Derived.Maps.AppendAt
import Derived.Deep.AppendSrc
import Derived.Deep.AppendLies
import Derived.Deep.RegionLaw
import Derived.BigRegion
import Derived.RangeFuncNested
import Derived.RangeFuncBound
import Derived.RangeFuncCalls
import Derived.RangeFuncLeaves
import Derived.RangeFuncBox
namespace Go.Proofs.Ytdfggdafflkkcaa.H4
open Go.RowKit

def SI (w : World) (v : Value) (l : List Int) : Prop :=
  ∃ ao cap, v = .slice ao l.length cap ∧ l.length ≤ cap ∧ cap ≤ maxLen ∧ (ao = none → cap = 0) ∧ ∀ x, ao = some x → ∀ i, i < l.length → w.cell? (x.add i) = some (.int .i64 (l.getD i 0))

def OI (w : World) (base : Nat) (v : Value) (l : List Int) : Prop := w.ownsRow base 3 1 v l.length (l.map (Value.int .i64))

theorem hide {p : Prop} (h : p) : Hid p := h
theorem unhide {p : Prop} (h : Hid p) : p := h

theorem add_block (x : Addr) (i : Nat) : (x.add i).block = x.block := by unfold Addr.add; split <;> rfl

theorem SI.move {w w' : World} {v : Value} {l : List Int} (h : SI w v l) (hc : ∀ a u, w.cell? a = some u → v.ownBlock = some a.block → w'.cell? a = some u) : SI w' v l := by
  obtain ⟨ao, cap, rfl, h1, h2, h3, h4⟩ := h
  refine ⟨ao, cap, rfl, h1, h2, h3, fun x hx i hi => hc _ _ (h4 x hx i hi) ?_⟩
  subst hx; simp [Value.ownBlock, add_block]

theorem SI.below {w w' : World} {v : Value} {l : List Int} (h : SI w v l) (hb : Below w.heap.size w w') : SI w' v l :=
  h.move fun a _ ha _ => (hb.cell (World.block_lt_of_cell? w a ha)).trans ha

theorem OI.lt {w : World} {base : Nat} {v : Value} {l : List Int} (h : OI w base v l) : ∀ k, v.ownBlock = some k → base ≤ k ∧ k < w.heap.size := World.ownsRow.lt h

theorem OI.sb {w : World} {base : Nat} {v : Value} {l : List Int} (h : OI w base v l) : SI w v l := by
  have hc := @World.ownsRow.cells _ _ _ _ _ _ _ h
  rcases h.2 with ⟨rfl, h0⟩ | ⟨g, cap, cur, rfl, _, _, h3, h4, _, _⟩
  · obtain rfl : l = [] := List.eq_nil_of_length_eq_zero h0
    exact ⟨none, 0, rfl, Nat.le_refl _, Nat.zero_le _, fun _ => rfl, fun x hx => by cases hx⟩
  · refine ⟨some ⟨g, 0, none⟩, cap, rfl, h3, h4, (fun e => by cases e), fun x hx i hi => ?_⟩
    cases hx
    refine hc (g := g) rfl i _ ?_
    simp [hi]

theorem OI.shape {w : World} {base : Nat} {v : Value} {l : List Int} (h : OI w base v l) : ∃ a c, v = .slice a l.length c := by
  rcases h.2 with ⟨rfl, h0⟩ | ⟨g, cap, cur, rfl, _⟩
  · exact ⟨none, 0, by rw [h0]⟩
  · exact ⟨_, _, rfl⟩

theorem OI.move {w w' : World} {base : Nat} {v : Value} {l : List Int} (h : OI w base v l) (hb : ∀ k, v.ownBlock = some k → w'.heap[k]? = w.heap[k]?) : OI w' base v l := by
  refine ⟨h.1, ?_⟩
  rcases h.2 with h2 | ⟨g, cap, cur, rfl, h1, h2, r⟩
  · exact .inl h2
  · exact .inr ⟨g, cap, cur, rfl, h1, (hb g rfl).trans h2, r⟩

theorem OI.base {w : World} {base base' : Nat} {v : Value} {l : List Int} (h : OI w base v l) (hb : base' ≤ base) : OI w base' v l := by
  refine ⟨h.1, ?_⟩
  rcases h.2 with h2 | ⟨g, cap, cur, rfl, h1, r⟩
  · exact .inl h2
  · exact .inr ⟨g, cap, cur, rfl, Nat.le_trans hb h1, r⟩

theorem OI.below {w w' : World} {base B : Nat} {v : Value} {l : List Int} (h : OI w base v l) (hb : Below B w w') (hB : w.heap.size ≤ B) : OI w' base v l :=
  h.move fun k hk => hb.block k (Nat.lt_of_lt_of_le (h.lt k hk).2 hB)

theorem size_alloc' (w : World) (o : Obj) : (w.alloc o).heap.size = w.heap.size + 1 := by simp

theorem heap_two (w : World) (o p : Obj) : ((w.alloc o).alloc p).heap[w.heap.size + 1]? = some p ∧ ((w.alloc o).alloc p).heap[w.heap.size]? = some o := by
  have e := heap_alloc_new (w.alloc o) p
  rw [size_alloc'] at e
  exact ⟨e, (Below.heap_alloc (w.alloc o) p w.heap.size (by rw [size_alloc']; omega)).trans (heap_alloc_new w o)⟩

theorem infoInt : (Try.prog.info? 3).map (fun i => (i.zero, i.size, i.bytes)) = some (some (.int .i64 0), 1, 8) := by kernel_rfl

theorem madeInts (n : Nat) : (madeCells #[Value.int .i64 0] n).toList = List.replicate n (Value.int .i64 0) := by
  have e : ∀ k : Nat, [Value.int IntKind.i64 0][k % 1]?.getD default = Value.int .i64 0 := fun k => by simp [Nat.mod_one]
  simp only [madeCells]
  simp [e, List.map_const']

theorem ownsRow_full {w : World} {base g n : Nat} {xs : List Value} (h : w.ownsRow base 3 1 (.slice (some ⟨g, 0, none⟩) n n) n xs) : w.heap[g]? = some (.cells xs.toArray 3 (0, 0)) ∧ base ≤ g := by
  obtain ⟨hl, h | ⟨g', cap, cur, he, hb, hg, _, _, hs, ht⟩⟩ := h
  · exact absurd h.1 (by simp)
  · simp only [Value.slice.injEq, Option.some.injEq, Addr.mk.injEq] at he
    obtain ⟨⟨rfl, -, -⟩, -, rfl⟩ := he
    have : cur = xs.toArray := by
      apply Array.ext'
      rw [← ht, List.take_of_length_le (by simp [hs])]
    exact ⟨by rw [hg, this], hb⟩

theorem OI.of_full {w : World} {base g : Nat} {l : List Int} (hg : w.heap[g]? = some (.cells (l.map (Value.int .i64)).toArray 3 (0, 0))) (hb : base ≤ g) (hm : l.length ≤ maxLen) : OI w base (.slice (some ⟨g, 0, none⟩) l.length l.length) l :=
  ⟨by simp, .inr ⟨g, l.length, _, rfl, hb, hg, Nat.le_refl _, hm, by simp, List.take_of_length_le (by simp)⟩⟩

theorem splice_all {α : Type} (L cs : List α) (h : cs.length = L.length) : splice L 0 cs = cs := by
  simp [splice, h]

theorem addr_lit {w : World} {x : Addr} {u : Value} (h : w.cell? (x.add 0) = some u) : ∃ b o, x = ⟨b, o, none⟩ := by
  have hs := World.cell?_spot h
  obtain ⟨b, o, s⟩ := x
  refine ⟨b, o, ?_⟩
  unfold Addr.add at hs
  cases s with
  | none => rfl
  | some q => simp at hs

theorem take_step {l1 l2 : List Int} {k : Nat} (h1 : k < l1.length) (hl : l1.length = l2.length) (ht : l1.take k = l2.take k) :
    (l1.getD k 0 = l2.getD k 0 → l1.take (k + 1) = l2.take (k + 1)) ∧ (l1.getD k 0 ≠ l2.getD k 0 → l1 ≠ l2) := by
  refine ⟨fun h => ?_, fun h e => h (by rw [e])⟩
  have e1 : l1.getD k 0 = l1[k] := by simp [h1]
  have e2 : l2.getD k 0 = l2[k]'(by omega) := by simp [show k < l2.length by omega]
  rw [e1, e2] at h
  rw [List.take_succ_eq_append_getElem h1, List.take_succ_eq_append_getElem (by omega), ht, h]

theorem size_setCell (w : World) (a : Addr) (u : Value) : (w.setCell a u).heap.size = w.heap.size := by simp [World.setCell]

theorem setCell_others (w : World) (g o : Nat) (u : Value) : ∀ k, k ≠ g → (w.setCell ⟨g, o, none⟩ u).heap[k]? = w.heap[k]? := fun k hk => Below.heap_setCell w _ u k hk

end Go.Proofs.Ytdfggdafflkkcaa.H4

namespace Go.Proofs.Ytdfggdafflkkcaa.H4

/-- A value under its key, with the turn at which it was put in. -/
structure It (V : Type) where
  key : Int
  turn : Int
  val : V

instance {V : Type} [Inhabited V] : Inhabited (It V) := ⟨⟨0, 0, default⟩⟩

variable {V : Type}

def Lt (a b : It V) : Prop := a.key < b.key ∨ a.key = b.key ∧ a.turn < b.turn

instance (a b : It V) : Decidable (Lt a b) := by unfold Lt; infer_instance

theorem Lt.asymm {a b : It V} (h : Lt a b) : ¬ Lt b a := by unfold Lt at *; omega

theorem Lt.ntrans {a b c : It V} (h : ¬ Lt a b) (k : ¬ Lt b c) : ¬ Lt a c := by unfold Lt at *; omega

variable [Inhabited V]

def pt (xs : List (It V)) (i : Nat) : It V := xs.getD i default

theorem pt_eq {xs : List (It V)} {i : Nat} (h : i < xs.length) : pt xs i = xs[i] := by simp [pt, h]

theorem pt_get {xs : List (It V)} {i : Nat} (h : i < xs.length) : xs[i]? = some (pt xs i) := by rw [pt_eq h]; simp [h]

def swp (xs : List (It V)) (i j : Nat) : List (It V) := (xs.set i (pt xs j)).set j (pt xs i)

@[simp] theorem length_swp (xs : List (It V)) (i j : Nat) : (swp xs i j).length = xs.length := by simp [swp]

theorem pt_swp {xs : List (It V)} {i j : Nat} (hi : i < xs.length) (hj : j < xs.length) (k : Nat) : pt (swp xs i j) k = if k = j then pt xs i else if k = i then pt xs j else pt xs k := by
  unfold swp pt
  by_cases h1 : k = j
  · subst h1
    simp [hj, List.getD]
  · by_cases h2 : k = i
    · subst h2
      rw [if_neg h1, if_pos rfl]
      have : ¬ j = k := fun e => h1 e.symm
      simp [List.getD, this, hi]
    · rw [if_neg h1, if_neg h2]
      have a1 : ¬ j = k := fun e => h1 e.symm
      have a2 : ¬ i = k := fun e => h2 e.symm
      simp [List.getD, a1, a2]

theorem swp_perm {xs : List (It V)} {i j : Nat} (hi : i < xs.length) (hj : j < xs.length) : (swp xs i j).Perm xs := by
  have h := Array.swap_perm (xs := xs.toArray) (i := i) (j := j) (by simpa using hi) (by simpa using hj)
  have h2 := h.toList
  rw [Array.toList_swap] at h2
  unfold swp
  rw [pt_eq hi, pt_eq hj]
  simpa using h2

/-- None is ahead of its parent. -/
def Tree (xs : List (It V)) : Prop := ∀ i, 0 < i → i < xs.length → ¬ Lt (pt xs i) (pt xs ((i - 1) / 2))

/-- A tree but for the one at place p, which may be ahead of its parent. -/
def Up (xs : List (It V)) (p : Nat) : Prop :=
  (∀ i, 0 < i → i < xs.length → i ≠ p → ¬ Lt (pt xs i) (pt xs ((i - 1) / 2))) ∧ ∀ i, 0 < i → i < xs.length → (i - 1) / 2 = p → 0 < p → ¬ Lt (pt xs i) (pt xs ((p - 1) / 2))

/-- A tree but for the one at place p, which may be behind its children. -/
def Down (xs : List (It V)) (p : Nat) : Prop :=
  (∀ i, 0 < i → i < xs.length → (i - 1) / 2 ≠ p → ¬ Lt (pt xs i) (pt xs ((i - 1) / 2))) ∧ ∀ i, 0 < i → i < xs.length → (i - 1) / 2 = p → 0 < p → ¬ Lt (pt xs i) (pt xs ((p - 1) / 2))

theorem Up.top {xs : List (It V)} (h : Up xs 0) : Tree xs := fun i h0 hi => h.1 i h0 hi (by omega)

theorem Up.stay {xs : List (It V)} {p : Nat} (h : Up xs p) (hn : ¬ Lt (pt xs p) (pt xs ((p - 1) / 2))) : Tree xs := fun i h0 hi => by
  by_cases e : i = p
  · subst e; exact hn
  · exact h.1 i h0 hi e

theorem Up.rise {xs : List (It V)} {p : Nat} (h : Up xs p) (h0 : 0 < p) (hp : p < xs.length) (hl : Lt (pt xs p) (pt xs ((p - 1) / 2))) : Up (swp xs p ((p - 1) / 2)) ((p - 1) / 2) := by
  have hq : (p - 1) / 2 < xs.length := by omega
  have hne : (p - 1) / 2 ≠ p := by omega
  refine ⟨fun i i0 hi hn => ?_, fun i i0 hi he q0 => ?_⟩
  · rw [length_swp] at hi
    rw [pt_swp hp hq, pt_swp hp hq, if_neg hn]
    by_cases e1 : i = p
    · subst e1
      rw [if_pos rfl, if_pos rfl]
      exact hl.asymm
    · rw [if_neg e1]
      by_cases e2 : (i - 1) / 2 = (p - 1) / 2
      · rw [if_pos e2]
        have := h.1 i i0 hi e1
        rw [e2] at this
        exact Lt.ntrans this hl.asymm
      · rw [if_neg e2]
        by_cases e3 : (i - 1) / 2 = p
        · rw [if_pos e3]
          exact h.2 i i0 hi e3 h0
        · rw [if_neg e3]
          exact h.1 i i0 hi e1
  · rw [length_swp] at hi
    rw [pt_swp hp hq, pt_swp hp hq, if_neg (by omega : ¬ ((p - 1) / 2 - 1) / 2 = (p - 1) / 2), if_neg (by omega : ¬ ((p - 1) / 2 - 1) / 2 = p), if_neg (by omega : ¬ i = (p - 1) / 2)]
    have hqq := h.1 ((p - 1) / 2) q0 hq hne
    by_cases e1 : i = p
    · rw [if_pos e1]
      exact hqq
    · rw [if_neg e1]
      have := h.1 i i0 hi e1
      rw [he] at this
      exact Lt.ntrans this hqq

theorem Down.stay {xs : List (It V)} {p : Nat} (h : Down xs p) (hn : ∀ i, 0 < i → i < xs.length → (i - 1) / 2 = p → ¬ Lt (pt xs i) (pt xs p)) : Tree xs := fun i i0 hi => by
  by_cases e : (i - 1) / 2 = p
  · rw [e]; exact hn i i0 hi e
  · exact h.1 i i0 hi e

theorem Down.sink {xs : List (It V)} {p f : Nat} (h : Down xs p) (hf0 : 0 < f) (hf : f < xs.length) (he : (f - 1) / 2 = p) (hl : Lt (pt xs f) (pt xs p)) (hm : ∀ i, 0 < i → i < xs.length → (i - 1) / 2 = p → ¬ Lt (pt xs i) (pt xs f)) : Down (swp xs p f) f := by
  have hp : p < xs.length := by omega
  have hne : f ≠ p := by omega
  refine ⟨fun i i0 hi hn => ?_, fun i i0 hi hif _ => ?_⟩
  · rw [length_swp] at hi
    rw [pt_swp hp hf, pt_swp hp hf, if_neg hn]
    by_cases e1 : i = f
    · rw [if_pos e1, e1, he, if_pos rfl]
      exact hl.asymm
    · rw [if_neg e1]
      by_cases e2 : (i - 1) / 2 = p
      · rw [if_pos e2, if_neg (by omega : ¬ i = p)]
        exact hm i i0 hi e2
      · rw [if_neg e2]
        by_cases e3 : i = p
        · rw [if_pos e3, e3]
          exact h.2 f hf0 hf he (by omega)
        · rw [if_neg e3]
          exact h.1 i i0 hi e2
  · rw [length_swp] at hi
    rw [pt_swp hp hf, pt_swp hp hf, he, if_neg (by omega : ¬ i = f), if_neg (by omega : ¬ i = p), if_neg (by omega : ¬ p = f), if_pos rfl]
    have := h.1 i i0 hi (by omega)
    rwa [hif] at this

theorem Tree.top {xs : List (It V)} (h : Tree xs) : ∀ i, i < xs.length → ¬ Lt (pt xs i) (pt xs 0) := by
  intro i
  induction i using Nat.strongRecOn with
  | ind i ih =>
    intro hi
    by_cases h0 : i = 0
    · subst h0; exact fun hh => hh.asymm hh
    · exact Lt.ntrans (h i (by omega) hi) (ih ((i - 1) / 2) (by omega) (by omega))

/-- The place of the first, among those ahead of place k. -/
def fstTo (R : List (It V)) : Nat → Nat
  | 0 => 0
  | k + 1 => if (pt R k).key < (pt R (fstTo R k)).key then k else fstTo R k

def Asc (R : List (It V)) : Prop := ∀ i j, i < j → j < R.length → (pt R i).turn < (pt R j).turn

theorem fstTo_lt (R : List (It V)) : ∀ k, 0 < k → fstTo R k < k
  | 0, h => by omega
  | 1, _ => by
    show (if _ then 0 else 0) < 1
    split <;> omega
  | k + 2, _ => by
    have := fstTo_lt R (k + 1) (by omega)
    have e : fstTo R (k + 2) = if (pt R (k + 1)).key < (pt R (fstTo R (k + 1))).key then k + 1 else fstTo R (k + 1) := rfl
    rw [e]
    split
    · exact Nat.lt_succ_self _
    · omega

theorem fstTo_least {R : List (It V)} (h : Asc R) : ∀ k, k ≤ R.length → ∀ i, i < k → ¬ Lt (pt R i) (pt R (fstTo R k))
  | 0, _, i, hi => by omega
  | k + 1, hk, i, hi => by
    have ih := fstTo_least h k (by omega)
    unfold fstTo
    by_cases e : i = k
    · subst e
      by_cases hlt : (pt R i).key < (pt R (fstTo R i)).key
      · rw [if_pos hlt]; exact fun hh => hh.asymm hh
      · rw [if_neg hlt]
        intro hh
        rcases hh with hh | ⟨_, hh⟩
        · exact hlt hh
        · by_cases h0 : i = 0
          · subst h0; simp only [fstTo] at hh; omega
          · have := h _ i (fstTo_lt R i (by omega)) (by omega)
            omega
    · by_cases hlt : (pt R k).key < (pt R (fstTo R k)).key
      · rw [if_pos hlt]
        exact Lt.ntrans (ih i (by omega)) (Lt.asymm (.inl hlt))
      · rw [if_neg hlt]
        exact ih i (by omega)

/-- What a heap holds: the row in memory is a tree of what was put in. -/
structure Holds (xs R : List (It V)) (n : Int) : Prop where
  tree : Tree xs
  perm : xs.Perm R
  asc : Asc R
  low : ∀ i, i < R.length → (pt R i).turn < n

theorem Holds.len {xs R : List (It V)} {n : Int} (h : Holds xs R n) : xs.length = R.length := h.perm.length_eq

theorem mem_pt {R : List (It V)} {i : Nat} (h : i < R.length) : pt R i ∈ R := by rw [pt_eq h]; exact List.getElem_mem h

theorem exists_pt {R : List (It V)} {x : It V} (h : x ∈ R) : ∃ i, i < R.length ∧ pt R i = x := by
  obtain ⟨i, hi, rfl⟩ := List.getElem_of_mem h
  exact ⟨i, hi, pt_eq hi⟩

theorem Asc.inj {R : List (It V)} (h : Asc R) {i j : Nat} (hi : i < R.length) (hj : j < R.length) (e : (pt R i).turn = (pt R j).turn) : i = j := by
  rcases Nat.lt_trichotomy i j with hl | rfl | hl
  · have := h i j hl hj; omega
  · rfl
  · have := h j i hl hi; omega

/-- The tree's top is the first. -/
theorem Holds.first {xs R : List (It V)} {n : Int} (h : Holds xs R n) (hn : 0 < R.length) : pt xs 0 = pt R (fstTo R R.length) := by
  have hf := fstTo_lt R R.length hn
  have hl := h.len
  obtain ⟨i, hi, he⟩ := exists_pt (h.perm.mem_iff.1 (mem_pt (R := xs) (i := 0) (by omega)))
  obtain ⟨j, hj, hje⟩ := exists_pt (h.perm.mem_iff.2 (mem_pt hf))
  have h1 := fstTo_least h.asc R.length (Nat.le_refl _) i hi
  have h2 := h.tree.top j hj
  rw [hje, ← he] at h2
  have : i = fstTo R R.length := by
    refine h.asc.inj hi hf ?_
    unfold Lt at h1 h2
    omega
  rw [← he, this]

theorem Asc.erase {R : List (It V)} (h : Asc R) (k : Nat) : Asc (R.eraseIdx k) := by
  intro i j hij hj
  have hlen : (R.eraseIdx k).length ≤ R.length := List.length_eraseIdx_le ..
  have e : ∀ m, m < (R.eraseIdx k).length → pt (R.eraseIdx k) m = pt R (if m < k then m else m + 1) := by
    intro m hm
    unfold pt
    rw [List.getD, List.getD, List.getElem?_eraseIdx]
    split <;> rfl
  have hl2 : k < R.length → (R.eraseIdx k).length + 1 = R.length := fun hk => by rw [List.length_eraseIdx, if_pos hk]; omega
  rw [e i (by omega), e j hj]
  by_cases hk : k < R.length
  · have := hl2 hk
    apply h
    · split <;> split <;> omega
    · split <;> omega
  · have : (R.eraseIdx k).length = R.length := by rw [List.length_eraseIdx, if_neg hk]
    apply h
    · split <;> split <;> omega
    · split <;> omega

theorem Asc.snoc {R : List (It V)} {n : Int} (h : Asc R) (hl : ∀ i, i < R.length → (pt R i).turn < n) (x : It V) (hx : x.turn = n) : Asc (R ++ [x]) ∧ ∀ i, i < (R ++ [x]).length → (pt (R ++ [x]) i).turn < n + 1 := by
  have e1 : ∀ i, i < R.length → pt (R ++ [x]) i = pt R i := fun i hi => by unfold pt; rw [List.getD, List.getD, List.getElem?_append_left hi]
  have e2 : pt (R ++ [x]) R.length = x := by unfold pt; simp [List.getD]
  refine ⟨fun i j hij hj => ?_, fun i hi => ?_⟩
  · rw [List.length_append, List.length_singleton] at hj
    by_cases ej : j = R.length
    · rw [ej, e2, e1 i (by omega), hx]
      exact hl i (by omega)
    · rw [e1 j (by omega), e1 i (by omega)]
      exact h i j hij (by omega)
  · rw [List.length_append, List.length_singleton] at hi
    by_cases ei : i = R.length
    · rw [ei, e2, hx]; omega
    · rw [e1 i (by omega)]
      have := hl i (by omega)
      omega

theorem up_snoc {xs : List (It V)} (h : Tree xs) (x : It V) : Up (xs ++ [x]) xs.length := by
  have e1 : ∀ i, i < xs.length → pt (xs ++ [x]) i = pt xs i := fun i hi => by unfold pt; rw [List.getD, List.getD, List.getElem?_append_left hi]
  refine ⟨fun i i0 hi hn => ?_, fun i i0 hi he => ?_⟩
  · rw [List.length_append, List.length_singleton] at hi
    rw [e1 i (by omega), e1 _ (by omega)]
    exact h i i0 (by omega)
  · rw [List.length_append, List.length_singleton] at hi
    omega

/-- A value comes in, and has risen. -/
theorem Holds.push {xs R : List (It V)} {n : Int} (h : Holds xs R n) (x : It V) (hx : x.turn = n) {ys : List (It V)} (ht : Tree ys) (hp : ys.Perm (xs ++ [x])) : Holds ys (R ++ [x]) (n + 1) := by
  obtain ⟨a, b⟩ := h.asc.snoc h.low x hx
  exact ⟨ht, hp.trans (h.perm.append_right _), a, b⟩

/-- The last goes to the top, and sinks. -/
def cut (xs : List (It V)) : List (It V) := (xs.set 0 (pt xs (xs.length - 1))).take (xs.length - 1)

theorem length_cut (xs : List (It V)) : (cut xs).length = xs.length - 1 := by simp [cut]

theorem pt_cut {xs : List (It V)} {i : Nat} (h : i < xs.length - 1) : pt (cut xs) i = if i = 0 then pt xs (xs.length - 1) else pt xs i := by
  unfold cut
  by_cases e : i = 0
  · subst e
    rw [if_pos rfl]
    unfold pt
    simp [List.getD, h]
  · rw [if_neg e]
    unfold pt
    have : ¬ 0 = i := fun q => e q.symm
    rw [List.getD, List.getElem?_take, if_pos h, List.getElem?_set, if_neg this]
    rfl

theorem down_cut {xs : List (It V)} (h : Tree xs) : Down (cut xs) 0 := by
  refine ⟨fun i i0 hi hn => ?_, fun i i0 hi he p0 => by omega⟩
  rw [length_cut] at hi
  rw [pt_cut hi, pt_cut (by omega), if_neg (by omega), if_neg hn]
  exact h i i0 (by omega)

theorem cut_perm {xs : List (It V)} (h : 0 < xs.length) : (pt xs 0 :: cut xs).Perm xs := by
  cases xs with
  | nil => simp at h
  | cons a r =>
    unfold cut pt
    cases hr : r.reverse with
    | nil =>
      have : r = [] := by simpa using congrArg List.reverse hr
      subst this
      simp [List.getD]
    | cons z q =>
      have : r = q.reverse ++ [z] := by simpa using congrArg List.reverse hr
      subst this
      simp [List.getD]
      exact (List.perm_append_singleton z q.reverse).symm

theorem erase_perm {R : List (It V)} {i : Nat} (h : i < R.length) : (pt R i :: R.eraseIdx i).Perm R := by
  rw [List.eraseIdx_eq_take_drop_succ, pt_eq h]
  refine List.perm_middle.symm.trans ?_
  rw [← List.drop_eq_getElem_cons h, List.take_append_drop]

theorem Holds.pop {xs R : List (It V)} {n : Int} (h : Holds xs R n) (hn : 0 < R.length) {ys : List (It V)} (ht : Tree ys) (hp : ys.Perm (cut xs)) : Holds ys (R.eraseIdx (fstTo R R.length)) n := by
  have hf := fstTo_lt R R.length hn
  have hl := h.len
  refine ⟨ht, ?_, h.asc.erase _, fun i hi => ?_⟩
  · have h1 : (pt xs 0 :: ys).Perm R := ((hp.cons _).trans (cut_perm (by omega))).trans h.perm
    have h2 := erase_perm hf
    rw [h.first hn] at h1
    exact (h1.trans h2.symm).cons_inv
  · have hm := List.mem_of_mem_eraseIdx (mem_pt hi)
    obtain ⟨j, hj, e⟩ := exists_pt hm
    rw [← e]
    exact h.low j hj

end Go.Proofs.Ytdfggdafflkkcaa.H4

namespace Go.Proofs.Ytdfggdafflkkcaa.H4
open Go.RowKit Go.Maps
set_option maxRecDepth 20000

theorem drew3 (w : World) (a b c : Nat) : ∃ n, ((w.drewN a).drewN b).drewN c = w.drewN n := ⟨a + (b + c), by rw [World.drewN_drewN, World.drewN_drewN]⟩

theorem ahead_raw (w : World) (g b cap i j len : Nat) (ki ti kj tj : Int) (hi : i < len) (hj : j < len) (h0 : w.cell? ⟨g, 0, none⟩ = some (.slice (some ⟨b, 0, none⟩) len cap))
    (c1 : w.cell? ⟨b, i * 3, none⟩ = some (.int .i64 ki)) (c2 : w.cell? ⟨b, i * 3 + 1, none⟩ = some (.int .i64 ti)) (c3 : w.cell? ⟨b, j * 3, none⟩ = some (.int .i64 kj)) (c4 : w.cell? ⟨b, j * 3 + 1, none⟩ = some (.int .i64 tj)) :
    Calls Try.prog 44 #[.pointer (some ⟨g, 0, none⟩), .int .i64 i, .int .i64 j] w fun e w' => e = .returned (.bool (decide (ki < kj ∨ ki = kj ∧ ti < tj))) ∧ ∃ n, w' = w.drewN n := by
  go_enter Try.func44, Try.ntmps44
  go_wp2
  go_quiet (fail)
  go_wp2
  go_quiet (fail)
  by_cases hk : ki = kj
  · subst hk
    go_wp2
    go_quiet (fail)
    go_wp2
    go_ret
    exact ⟨by simp, _, rfl⟩
  · have hk' : (ki != kj) = true := by simpa using hk
    go_wp2
    go_quiet (fail)
    go_wp2
    go_ret
    exact ⟨by simp [hk], drew3 _ _ _ _⟩

theorem swap_raw (w : World) (g b cap i j len : Nat) (ki ti vi kj tj vj : Int) (hi : i < len) (hj : j < len) (h0 : w.cell? ⟨g, 0, none⟩ = some (.slice (some ⟨b, 0, none⟩) len cap))
    (c1 : w.cell? ⟨b, i * 3, none⟩ = some (.int .i64 ki)) (c2 : w.cell? ⟨b, i * 3 + 1, none⟩ = some (.int .i64 ti)) (c3 : w.cell? ⟨b, i * 3 + 2, none⟩ = some (.int .i64 vi)) (d1 : w.cell? ⟨b, j * 3, none⟩ = some (.int .i64 kj)) (d2 : w.cell? ⟨b, j * 3 + 1, none⟩ = some (.int .i64 tj)) (d3 : w.cell? ⟨b, j * 3 + 2, none⟩ = some (.int .i64 vj))
    (hf : ∀ o, w.frozen? ⟨b, o, none⟩ = false) (hij : i ≠ j) :
    Calls Try.prog 45 #[.pointer (some ⟨g, 0, none⟩), .int .i64 i, .int .i64 j] w fun e w' => e = .returned (.tuple #[]) ∧ w' = ((((((w.setCell ⟨b, i * 3, none⟩ (.int .i64 kj)).setCell ⟨b, i * 3 + 1, none⟩ (.int .i64 tj)).setCell ⟨b, i * 3 + 2, none⟩ (.int .i64 vj)).setCell ⟨b, j * 3, none⟩ (.int .i64 ki)).setCell ⟨b, j * 3 + 1, none⟩ (.int .i64 ti)).setCell ⟨b, j * 3 + 2, none⟩ (.int .i64 vi)).drew := by
  have f1 := hf (i * 3)
  have f2 := hf (i * 3 + 1)
  have f3 := hf (i * 3 + 2)
  have f4 := hf (j * 3)
  have f5 := hf (j * 3 + 1)
  have f6 := hf (j * 3 + 2)
  have n0 : ¬ j = i := by omega
  have n1 : ¬ i = j := by omega
  have n2 : ¬ j * 3 = i * 3 + 1 := by omega
  have n3 : ¬ i * 3 = j * 3 + 1 := by omega
  have n4 : ¬ j * 3 = i * 3 + 2 := by omega
  have n5 : ¬ i * 3 = j * 3 + 2 := by omega
  have n6 : ¬ j * 3 + 1 = i * 3 := by omega
  have n7 : ¬ i * 3 + 1 = j * 3 := by omega
  have n8 : ¬ j * 3 + 1 = i * 3 + 2 := by omega
  have n9 : ¬ i * 3 + 1 = j * 3 + 2 := by omega
  have n10 : ¬ j * 3 + 2 = i * 3 := by omega
  have n11 : ¬ i * 3 + 2 = j * 3 := by omega
  have n12 : ¬ j * 3 + 2 = i * 3 + 1 := by omega
  have n13 : ¬ i * 3 + 2 = j * 3 + 1 := by omega
  clear hf hij
  go_enter Try.func45, Try.ntmps45
  go_wp2
  go_region
  exact bodyPost_end (results_none rfl _ _ _) rfl ⟨rfl, rfl⟩

end Go.Proofs.Ytdfggdafflkkcaa.H4

namespace Go.Proofs.Ytdfggdafflkkcaa.H4
open Go.RowKit Go.Maps
set_option maxRecDepth 20000

def cellsI (x : It Int) : List Value := [.int .i64 x.key, .int .i64 x.turn, .int .i64 x.val]

def flatI (xs : List (It Int)) : List Value := xs.flatMap cellsI

theorem flatI_length (xs : List (It Int)) : (flatI xs).length = xs.length * 3 := by
  induction xs with
  | nil => rfl
  | cons a r ih => unfold flatI at ih ⊢; rw [List.flatMap_cons, List.length_append, ih]; simp [cellsI]; omega

theorem flatI_snoc (xs : List (It Int)) (x : It Int) : flatI (xs ++ [x]) = flatI xs ++ cellsI x := by simp [flatI]

theorem flatI_get : ∀ {xs : List (It Int)} {i : Nat} {x : It Int}, xs[i]? = some x → ∀ j, j < 3 → (flatI xs)[i * 3 + j]? = (cellsI x)[j]?
  | a :: r, 0, x, h, j, hj => by
    simp only [List.getElem?_cons_zero, Option.some.injEq] at h
    subst h
    unfold flatI
    rw [List.flatMap_cons, List.getElem?_append_left (by simp [cellsI]; omega)]
    simp
  | a :: r, i + 1, x, h, j, hj => by
    simp only [List.getElem?_cons_succ] at h
    have ih := flatI_get (xs := r) h j hj
    unfold flatI at ih ⊢
    rw [List.flatMap_cons, List.getElem?_append_right (by simp [cellsI]; omega)]
    rw [show (i + 1) * 3 + j - (cellsI a).length = i * 3 + j by simp [cellsI]; omega]
    exact ih

theorem flatI_set : ∀ (xs : List (It Int)) (i : Nat) (x : It Int), i < xs.length → flatI (xs.set i x) = (((flatI xs).set (i * 3) (.int .i64 x.key)).set (i * 3 + 1) (.int .i64 x.turn)).set (i * 3 + 2) (.int .i64 x.val)
  | a :: r, 0, x, _ => by simp [flatI, cellsI]
  | a :: r, i + 1, x, h => by
    have ih := flatI_set r i x (by simpa using h)
    unfold flatI at ih ⊢
    rw [List.set_cons_succ, List.flatMap_cons, ih, List.flatMap_cons]
    have e : (i + 1) * 3 = i * 3 + 3 := by omega
    rw [e]
    simp [cellsI]

theorem flatI_take (xs : List (It Int)) (n : Nat) : (flatI xs).take (n * 3) = flatI (xs.take n) := by
  induction xs generalizing n with
  | nil => simp [flatI]
  | cons a r ih =>
    cases n with
    | zero => simp [flatI]
    | succ n =>
      have h := ih n
      unfold flatI at h ⊢
      rw [List.take_succ_cons, List.flatMap_cons, List.flatMap_cons, List.take_append]
      have e : (n + 1) * 3 - (cellsI a).length = n * 3 := by simp [cellsI]; omega
      rw [e, h, List.take_of_length_le (by simp [cellsI]; omega)]

/-- A heap of the program that has a row, at block g; its row at block b. -/
structure At (w : World) (g b cap : Nat) (xs : List (It Int)) (n : Int) : Prop where
  head : w.heap[g]? = some (.cells #[.slice (some ⟨b, 0, none⟩) xs.length cap, .int .i64 n] 67 (0, 0))
  row : ∃ cur, w.heap[b]? = some (.cells cur 69 (0, 0)) ∧ cur.size = cap * 3 ∧ cur.toList.take (xs.length * 3) = flatI xs
  le : xs.length ≤ cap
  cap : cap ≤ maxLen
  ne : g ≠ b

theorem At.move {w w' : World} {g b cap : Nat} {xs : List (It Int)} {n : Int} (h : At w g b cap xs n) (h1 : w'.heap[g]? = w.heap[g]?) (h2 : w'.heap[b]? = w.heap[b]?) : At w' g b cap xs n := by
  obtain ⟨cur, a, c, d⟩ := h.row
  exact ⟨h1.trans h.head, ⟨cur, h2.trans a, c, d⟩, h.le, h.cap, h.ne⟩

theorem At.drew {w : World} {g b cap : Nat} {xs : List (It Int)} {n : Int} (h : At w g b cap xs n) : At w.drew g b cap xs n := h.move rfl rfl

theorem At.drewN {w : World} {g b cap : Nat} {xs : List (It Int)} {n : Int} (h : At w g b cap xs n) (k : Nat) : At (w.drewN k) g b cap xs n := h.move rfl rfl

theorem cellOf {w : World} {g k : Nat} {cur : Array Value} {t : TypeId} {fz : Nat × Nat} {u : Value} (h : w.heap[g]? = some (.cells cur t fz)) (hk : cur[k]? = some u) : w.cell? ⟨g, k, none⟩ = some u := by
  unfold World.cell?
  simp only [h]
  exact hk

theorem frozenOf {w : World} {g k : Nat} {cur : Array Value} {t : TypeId} (h : w.heap[g]? = some (.cells cur t (0, 0))) : w.frozen? ⟨g, k, none⟩ = false := by
  unfold World.frozen?
  simp [h]

theorem At.h0 {w : World} {g b cap : Nat} {xs : List (It Int)} {n : Int} (h : At w g b cap xs n) : w.cell? ⟨g, 0, none⟩ = some (.slice (some ⟨b, 0, none⟩) xs.length cap) := cellOf h.head rfl

theorem At.h1 {w : World} {g b cap : Nat} {xs : List (It Int)} {n : Int} (h : At w g b cap xs n) : w.cell? ⟨g, 1, none⟩ = some (.int .i64 n) := cellOf h.head rfl

theorem At.fr {w : World} {g b cap : Nat} {xs : List (It Int)} {n : Int} (h : At w g b cap xs n) (o : Nat) : w.frozen? ⟨b, o, none⟩ = false := by
  obtain ⟨cur, a, _, _⟩ := h.row
  exact frozenOf a

theorem At.cells {w : World} {g b cap : Nat} {xs : List (It Int)} {n : Int} (h : At w g b cap xs n) {i : Nat} (hi : i < xs.length) : w.cell? ⟨b, i * 3, none⟩ = some (.int .i64 (pt xs i).key) ∧ w.cell? ⟨b, i * 3 + 1, none⟩ = some (.int .i64 (pt xs i).turn) ∧ w.cell? ⟨b, i * 3 + 2, none⟩ = some (.int .i64 (pt xs i).val) := by
  obtain ⟨cur, a, c, d⟩ := h.row
  have q : ∀ j, j < 3 → ∀ u, (cellsI (pt xs i))[j]? = some u → w.cell? ⟨b, i * 3 + j, none⟩ = some u := fun j hj u hu => by
    refine cellOf a ?_
    have e := flatI_get (pt_get hi) j hj
    rw [← d, List.getElem?_take, if_pos (by omega)] at e
    rw [← hu, ← e]
    simp
  exact ⟨q 0 (by omega) _ rfl, q 1 (by omega) _ rfl, q 2 (by omega) _ rfl⟩

/-- Only the row is written. -/
structure Only (w w' : World) (b : Nat) : Prop where
  os : w'.os = w.os
  tape : w'.tape = w.tape
  output : w'.output = w.output
  size : w'.heap.size = w.heap.size
  block : ∀ k, k ≠ b → w'.heap[k]? = w.heap[k]?

theorem Only.refl (w : World) (b : Nat) : Only w w b := ⟨rfl, rfl, rfl, rfl, fun _ _ => rfl⟩
theorem Only.trans {a b c : World} {k : Nat} (h : Only a b k) (h' : Only b c k) : Only a c k := ⟨h'.os.trans h.os, h'.tape.trans h.tape, h'.output.trans h.output, h'.size.trans h.size, fun i hi => (h'.block i hi).trans (h.block i hi)⟩
theorem Only.drewN {a b : World} {k : Nat} (h : Only a b k) (n : Nat) : Only a (b.drewN n) k := ⟨h.os, h.tape, h.output, h.size, h.block⟩
theorem Only.drew {a b : World} {k : Nat} (h : Only a b k) : Only a b.drew k := ⟨h.os, h.tape, h.output, h.size, h.block⟩
theorem Only.set {a b : World} {k : Nat} (h : Only a b k) (o : Nat) (u : Value) : Only a (b.setCell ⟨k, o, none⟩ u) k :=
  ⟨h.os, h.tape, h.output, (size_setCell _ _ _).trans h.size, fun i hi => (setCell_others _ _ _ _ i hi).trans (h.block i hi)⟩

theorem heap_setCell_at {w : World} {g k : Nat} {cur : Array Value} {t : TypeId} (u : Value) (h : w.heap[g]? = some (.cells cur t (0, 0))) : (w.setCell ⟨g, k, none⟩ u).heap[g]? = some (.cells (cur.setIfInBounds k u) t (0, 0)) := by
  simp [World.setCell, Array.getElem?_modify, h]

/-- An item is written in its place. -/
theorem At.put {w : World} {g b cap : Nat} {xs : List (It Int)} {n : Int} (h : At w g b cap xs n) {i : Nat} (hi : i < xs.length) (x : It Int) :
    At (((w.setCell ⟨b, i * 3, none⟩ (.int .i64 x.key)).setCell ⟨b, i * 3 + 1, none⟩ (.int .i64 x.turn)).setCell ⟨b, i * 3 + 2, none⟩ (.int .i64 x.val)) g b cap (xs.set i x) n := by
  obtain ⟨cur, a, c, d⟩ := h.row
  refine ⟨?_, ⟨_, heap_setCell_at _ (heap_setCell_at _ (heap_setCell_at _ a)), by simp [c], ?_⟩, by simpa using h.le, h.cap, h.ne⟩
  · rw [setCell_others _ _ _ _ _ h.ne, setCell_others _ _ _ _ _ h.ne, setCell_others _ _ _ _ _ h.ne, List.length_set]
    exact h.head
  · simp only [Array.toList_setIfInBounds, List.length_set, List.take_set]
    rw [d, flatI_set _ _ _ hi]

theorem ahead_at {w : World} {g b cap : Nat} {xs : List (It Int)} {n : Int} (h : At w g b cap xs n) {i j : Nat} (hi : i < xs.length) (hj : j < xs.length) :
    Calls Try.prog 44 #[.pointer (some ⟨g, 0, none⟩), .int .i64 i, .int .i64 j] w fun e w' => e = .returned (.bool (decide (Lt (pt xs i) (pt xs j)))) ∧ ∃ n, w' = w.drewN n :=
  ahead_raw w g b cap i j xs.length _ _ _ _ hi hj h.h0 (h.cells hi).1 (h.cells hi).2.1 (h.cells hj).1 (h.cells hj).2.1

theorem swap_at {w : World} {g b cap : Nat} {xs : List (It Int)} {n : Int} (h : At w g b cap xs n) {i j : Nat} (hi : i < xs.length) (hj : j < xs.length) (hij : i ≠ j) :
    Calls Try.prog 45 #[.pointer (some ⟨g, 0, none⟩), .int .i64 i, .int .i64 j] w fun e w' => e = .returned (.tuple #[]) ∧ At w' g b cap (swp xs i j) n ∧ Only w w' b := by
  refine (swap_raw w g b cap i j xs.length _ _ _ _ _ _ hi hj h.h0 (h.cells hi).1 (h.cells hi).2.1 (h.cells hi).2.2 (h.cells hj).1 (h.cells hj).2.1 (h.cells hj).2.2 h.fr hij).mono ?_
  rintro e w' ⟨rfl, rfl⟩
  refine ⟨rfl, ?_, ((((((((Only.refl w b).set _ _).set _ _).set _ _).set _ _).set _ _).set _ _).drew)⟩
  have h1 := h.put hi (pt xs j)
  have h2 := h1.put (i := j) (by simpa using hj) (pt xs i)
  exact h2.drew

end Go.Proofs.Ytdfggdafflkkcaa.H4

namespace Go.Proofs.Ytdfggdafflkkcaa.H4
open Go.RowKit Go.Maps
set_option maxRecDepth 20000

set_option maxHeartbeats 1000000 in
theorem rise_at {w : World} {g b cap : Nat} {xs : List (It Int)} {n : Int} (h : At w g b cap xs n) (p : Nat) (hp : p < xs.length) (hm : xs.length ≤ 6000000000000) (hu : Up xs p) :
    Calls Try.prog 39 #[.pointer (some ⟨g, 0, none⟩), .int .i64 p] w fun e w' => e = .returned (.tuple #[]) ∧ ∃ ys, At w' g b cap ys n ∧ Only w w' b ∧ Tree ys ∧ ys.Perm xs := by
  have HU := hide hu
  clear hu
  go_enter Try.func39, Try.ntmps39
  go_wp2
  go_loopw [1] (fun a wr => ∃ (q : Nat) (ys : List (It Int)), a = .int .i64 q ∧ q < 6000000000000 ∧ Hid (q < ys.length ∧ At wr g b cap ys n ∧ Only w wr b ∧ Up ys q ∧ ys.Perm xs)) (fun a _ => (intOf a).toNat)
  case atStart => exact ⟨p, xs, rfl, by omega, hp, h, Only.refl _ _, HU.out, List.Perm.refl _⟩
  case round =>
    obtain ⟨q, ys, rfl, hq, HR⟩ := hrel
    obtain ⟨h1, h2, h3, h4, h5⟩ := HR.out
    by_cases h0 : 0 < q
    · have e0 : ((q : Int) - 1) / 2 = (((q - 1) / 2 : Nat) : Int) := by omega
      obtain ⟨r, hr⟩ : ∃ r, r = (q - 1) / 2 := ⟨_, rfl⟩
      rw [← hr] at e0
      have hrl : r < ys.length := by omega
      have hA := ahead_at h2 h1 hrl
      have HQ := hide hr
      clear hr
      by_cases hl : Lt (pt ys q) (pt ys r)
      · rw [decide_eq_true hl] at hA
        go_wp2_with fail
        refine hA.mono ?_
        rintro e w1 ⟨rfl, k, rfl⟩
        go_wp2_with fail
        refine (swap_at (h2.drewN k) h1 hrl (by have := HQ.out; omega)).mono ?_
        rintro e w2 ⟨rfl, hB, hO⟩
        go_wp2
        go_roundw
        case rel =>
          refine ⟨r, swp ys q r, rfl, by omega, by simpa using hrl, hB, (h3.drewN k).trans hO, ?_, (swp_perm h1 hrl).trans h5⟩
          have := HQ.out
          subst this
          exact h4.rise h0 h1 hl
        case measure => simp [intOf]; have := HQ.out; omega
      · rw [decide_eq_false hl] at hA
        go_wp2_with fail
        refine hA.mono ?_
        rintro e w1 ⟨rfl, k, rfl⟩
        go_wp2
        refine bodyPost_ret (results_none rfl _ _ _) rfl ?_
        have := HQ.out
        subst this
        exact ⟨rfl, ys, h2.drewN k, h3.drewN k, h4.stay hl, h5⟩
    · obtain rfl : q = 0 := by omega
      go_wp2
      (try simp only [Exit.inBlock, Exit.then]); refine bodyPost_end (results_none rfl _ _ _) rfl ?_
      exact ⟨rfl, ys, h2, h3, h4.top, h5⟩

end Go.Proofs.Ytdfggdafflkkcaa.H4

namespace Go.Proofs.Ytdfggdafflkkcaa.H4
open Go.RowKit Go.Maps
set_option maxRecDepth 20000

/-- Which child is looked at, and which was the first so far. -/
structure Kid (ys : List (It Int)) (a c f : Nat) : Prop where
  lo : 2 * a + 1 ≤ c
  hi : c ≤ 2 * a + 3
  lt : f < ys.length
  is : f = a ∨ 0 < f ∧ (f - 1) / 2 = a ∧ Lt (pt ys f) (pt ys a)
  least : ∀ i, 0 < i → i < ys.length → (i - 1) / 2 = a → i < c → ¬ Lt (pt ys i) (pt ys f)

theorem Kid.start {ys : List (It Int)} {a : Nat} (h : a < ys.length) : Kid ys a (2 * a + 1) a :=
  ⟨Nat.le_refl _, by omega, h, .inl rfl, fun i h0 _ h1 h2 => by omega⟩

theorem Kid.take {ys : List (It Int)} {a c f : Nat} (h : Kid ys a c f) (hc : c < ys.length) (hh : c ≤ 2 * a + 2) (hl : Lt (pt ys c) (pt ys f)) : Kid ys a (c + 1) c := by
  have hlo := h.lo
  refine ⟨by omega, by omega, hc, .inr ⟨by omega, by omega, ?_⟩, fun i h0 h1 h2 h3 => ?_⟩
  · rcases h.is with rfl | ⟨_, _, h4⟩
    · exact hl
    · unfold Lt at *; omega
  · by_cases e : i = c
    · subst e; exact fun q => q.asymm q
    · exact Lt.ntrans (h.least i h0 h1 h2 (by omega)) hl.asymm

theorem Kid.pass {ys : List (It Int)} {a c f : Nat} (h : Kid ys a c f) (hh : c ≤ 2 * a + 2) (hl : ¬ Lt (pt ys c) (pt ys f)) : Kid ys a (c + 1) f := by
  have hlo := h.lo
  refine ⟨by omega, by omega, h.lt, h.is, fun i h0 h1 h2 h3 => ?_⟩
  by_cases e : i = c
  · subst e; exact hl
  · exact h.least i h0 h1 h2 (by omega)

theorem Kid.all {ys : List (It Int)} {a c f : Nat} (h : Kid ys a c f) (hh : ¬ (c ≤ 2 * a + 2 ∧ c < ys.length)) : ∀ i, 0 < i → i < ys.length → (i - 1) / 2 = a → ¬ Lt (pt ys i) (pt ys f) := by
  intro i h0 h1 h2
  have := h.hi
  exact h.least i h0 h1 h2 (by omega)

theorem sinkEnd {w w1 w2 : World} {g b cap : Nat} {xs ys : List (It Int)} {n : Int} {q c f : Nat} (hlen : ys.length = xs.length) (hm : xs.length ≤ 6000000000000) (k1 : Kid ys q c f) (h1 : q < ys.length) (h4 : Down ys q) (h5 : ys.Perm xs) (k3 : Only w w1 b)
    (ha : ∀ i, 0 < i → i < ys.length → (i - 1) / 2 = q → ¬ Lt (pt ys i) (pt ys f)) (hfq : ¬ f = q) (hB : At w2 g b cap (swp ys q f) n) (hO : Only w1 w2 b) :
    ∃ (q' : Nat) (zs : List (It Int)), Value.int .i64 (f : Int) = .int .i64 q' ∧ q' < 6000000000000 ∧ Hid (q' < zs.length ∧ zs.length = xs.length ∧ At w2 g b cap zs n ∧ Only w w2 b ∧ Down zs q' ∧ zs.Perm xs) := by
  have hf := k1.lt
  rcases k1.is with e | ⟨e1, e2, e3⟩
  · exact absurd e hfq
  · exact ⟨f, swp ys q f, rfl, by omega, by simpa using hf, by simpa using hlen, hB, k3.trans hO, h4.sink e1 hf e2 e3 ha, (swp_perm h1 hf).trans h5⟩

theorem sinkLess {xs ys : List (It Int)} {q c f : Nat} (hlen : ys.length = xs.length) (k1 : Kid ys q c f) (hfq : ¬ f = q) : xs.length - f < xs.length - q := by
  have hf := k1.lt
  rcases k1.is with e | ⟨e1, e2, e3⟩
  · exact absurd e hfq
  · omega

set_option maxHeartbeats 1000000 in
theorem sink_at {w : World} {g b cap : Nat} {xs : List (It Int)} {n : Int} (h : At w g b cap xs n) (hm : xs.length ≤ 6000000000000) (hu : Down xs 0) (hp : 0 < xs.length) :
    Calls Try.prog 46 #[.pointer (some ⟨g, 0, none⟩), .int .i64 0] w fun e w' => e = .returned (.tuple #[]) ∧ ∃ ys, At w' g b cap ys n ∧ Only w w' b ∧ Tree ys ∧ ys.Perm xs := by
  have HU := hide hu
  clear hu
  go_enter Try.func46, Try.ntmps46
  go_wp2
  go_loopw [1] (fun a wr => ∃ (q : Nat) (ys : List (It Int)), a = .int .i64 q ∧ q < 6000000000000 ∧ Hid (q < ys.length ∧ ys.length = xs.length ∧ At wr g b cap ys n ∧ Only w wr b ∧ Down ys q ∧ ys.Perm xs)) (fun a _ => xs.length - (intOf a).toNat)
  case atStart => exact ⟨0, xs, rfl, by omega, hp, rfl, h, Only.refl _ _, HU.out, List.Perm.refl _⟩
  case round =>
    obtain ⟨q, ys, rfl, hq, HR⟩ := hrel
    obtain ⟨h1, hlen, h2, h3, h4, h5⟩ := HR.out
    have HL := hide hlen
    clear hlen
    have hy : (ys.length : Int) ≤ 6000000000000 := by have := HL.out; omega
    go_wp2
    go_loopw [4, 5] (fun fv cv wr => ∃ (f c : Nat), fv = .int .i64 f ∧ cv = .int .i64 c ∧ f < 20000000000000 ∧ c < 20000000000000 ∧ Hid (Kid ys q c f ∧ At wr g b cap ys n ∧ Only w wr b)) (fun _ cv _ => 2 * q + 3 - (intOf cv).toNat)
    case atStart => exact ⟨q, 2 * q + 1, rfl, by go_num, by omega, by omega, Kid.start h1, h2, h3⟩
    case round =>
      obtain ⟨f, c, rfl, rfl, hf, hc, HK⟩ := hrel
      obtain ⟨k1, k2, k3⟩ := HK.out
      have k0 := k2.h0
      by_cases hcc : c ≤ 2 * q + 2
      · have hcc' : (c : Int) ≤ 2 * q + 2 := by omega
        by_cases hcl : c < ys.length
        · have hcl' : (c : Int) < (ys.length : Int) := by omega
          have hA := ahead_at k2 hcl k1.lt
          by_cases hl : Lt (pt ys c) (pt ys f)
          · rw [decide_eq_true hl] at hA
            go_wp2_with fail
            refine hA.mono ?_
            rintro e w1 ⟨rfl, k, rfl⟩
            go_wp2
            go_roundw
            case rel => exact ⟨c, c + 1, rfl, by go_num, hc, by omega, k1.take hcl hcc hl, k2.drewN k, k3.drewN k⟩
            case measure => simp [intOf]; omega
          · rw [decide_eq_false hl] at hA
            go_wp2_with fail
            refine hA.mono ?_
            rintro e w1 ⟨rfl, k, rfl⟩
            go_wp2
            go_roundw
            case rel => exact ⟨f, c + 1, rfl, by go_num, hf, by omega, k1.pass hcc hl, k2.drewN k, k3.drewN k⟩
            case measure => simp [intOf]; omega
        · have hcl' : ¬ (c : Int) < (ys.length : Int) := by omega
          have HA := hide (k1.all (by omega))
          clear hcl
          by_cases hfq : f = q
          · subst hfq
            go_wp2
            refine bodyPost_ret (results_none rfl _ _ _) rfl ?_
            exact ⟨rfl, ys, k2, k3, h4.stay HA.out, h5⟩
          · have hfq' : ¬ (f : Int) = (q : Int) := by omega
            go_wp2_with fail
            refine (swap_at k2 h1 k1.lt (fun e => hfq e.symm)).mono ?_
            rintro e w2 ⟨rfl, hB, hO⟩
            go_wp2
            go_roundw
            case rel => exact sinkEnd HL.out hm k1 h1 h4 h5 k3 HA.out hfq hB hO
            case measure => simp [intOf]; exact sinkLess HL.out k1 hfq
      · have hcc' : ¬ (c : Int) ≤ 2 * q + 2 := by omega
        have HA := hide (k1.all (by omega))
        clear hcc
        by_cases hfq : f = q
        · subst hfq
          go_wp2
          refine bodyPost_ret (results_none rfl _ _ _) rfl ?_
          exact ⟨rfl, ys, k2, k3, h4.stay HA.out, h5⟩
        · have hfq' : ¬ (f : Int) = (q : Int) := by omega
          go_wp2_with fail
          refine (swap_at k2 h1 k1.lt (fun e => hfq e.symm)).mono ?_
          rintro e w2 ⟨rfl, hB, hO⟩
          go_wp2
          go_roundw
          case rel => exact sinkEnd HL.out hm k1 h1 h4 h5 k3 HA.out hfq hB hO
          case measure => simp [intOf]; exact sinkLess HL.out k1 hfq

set_option maxHeartbeats 1000000 in
theorem sink_nil {w : World} {g b cap : Nat} {n : Int} (h : At w g b cap [] n) :
    Calls Try.prog 46 #[.pointer (some ⟨g, 0, none⟩), .int .i64 0] w fun e w' => e = .returned (.tuple #[]) ∧ w' = w := by
  have h0 : w.cell? ⟨g, 0, none⟩ = some (.slice (some ⟨b, 0, none⟩) 0 cap) := h.h0
  go_enter Try.func46, Try.ntmps46
  go_wp2
  go_loopw [1] (fun a wr => a = .int .i64 0 ∧ wr = w) (fun _ _ => 0)
  case atStart => exact ⟨rfl, rfl⟩
  case round =>
    obtain ⟨rfl, rfl⟩ := hrel
    go_wp2
    go_loopw [4, 5] (fun fv cv wr' => fv = .int .i64 0 ∧ cv = .int .i64 1 ∧ wr' = wr) (fun _ _ _ => 0)
    case atStart => exact ⟨rfl, rfl, rfl⟩
    case round =>
      obtain ⟨rfl, rfl, rfl⟩ := hrel
      go_wp2
      refine bodyPost_ret (results_none rfl _ _ _) rfl ?_
      exact ⟨rfl, rfl⟩

end Go.Proofs.Ytdfggdafflkkcaa.H4

namespace Go.Proofs.Ytdfggdafflkkcaa.H4
open Go.RowKit Go.Maps
set_option maxRecDepth 20000

theorem At.shrink {w : World} {g b cap : Nat} {xs : List (It Int)} {n : Int} (h : At w g b cap xs n) {m : Nat} (hm : m ≤ xs.length) :
    At (w.setCell ⟨g, 0, none⟩ (.slice (some ⟨b, 0, none⟩) m cap)) g b cap (xs.take m) n := by
  obtain ⟨cur, a, c, d⟩ := h.row
  have e : (xs.take m).length = m := by simp [hm]
  refine ⟨?_, ⟨cur, ?_, c, ?_⟩, by rw [e]; exact Nat.le_trans hm h.le, h.cap, h.ne⟩
  · rw [e, heap_setCell_at _ h.head]; rfl
  · rw [setCell_others _ _ _ _ _ (fun q => h.ne q.symm)]; exact a
  · rw [e, ← flatI_take, ← d, List.take_take, Nat.min_eq_left (by omega)]

/-- Only these two are written. -/
structure Only2 (w w' : World) (g b : Nat) : Prop where
  os : w'.os = w.os
  tape : w'.tape = w.tape
  output : w'.output = w.output
  size : w'.heap.size = w.heap.size
  block : ∀ k, k ≠ b → k ≠ g → w'.heap[k]? = w.heap[k]?

theorem Only2.of {w w' : World} {g b : Nat} (h : Only w w' b) : Only2 w w' g b := ⟨h.os, h.tape, h.output, h.size, fun k hk _ => h.block k hk⟩
theorem Only2.then {w w' w'' : World} {g b : Nat} (h : Only2 w w' g b) (k : Only w' w'' b) : Only2 w w'' g b := ⟨k.os.trans h.os, k.tape.trans h.tape, k.output.trans h.output, k.size.trans h.size, fun i hi hg => (k.block i hi).trans (h.block i hi hg)⟩
theorem Only2.set {a w : World} {g b : Nat} (h : Only2 a w g b) (o : Nat) (u : Value) : Only2 a (w.setCell ⟨g, o, none⟩ u) g b :=
  ⟨h.os, h.tape, h.output, (size_setCell _ _ _).trans h.size, fun i hi hg => (setCell_others _ _ _ _ i hg).trans (h.block i hi hg)⟩

def zeroI : It Int := ⟨0, 0, 0⟩

theorem cut_eq (xs : List (It Int)) : (((xs.set 0 (pt xs (xs.length - 1))).set (xs.length - 1) zeroI).take (xs.length - 1)) = cut xs := by
  unfold cut
  rw [List.take_set]
  exact List.set_eq_of_length_le (by simp)

theorem At.put0 {w : World} {g b cap : Nat} {xs : List (It Int)} {n : Int} (h : At w g b cap xs n) (hi : 0 < xs.length) (x : It Int) :
    At (((w.setCell ⟨b, 0, none⟩ (.int .i64 x.key)).setCell ⟨b, 1, none⟩ (.int .i64 x.turn)).setCell ⟨b, 2, none⟩ (.int .i64 x.val)).drew g b cap (xs.set 0 x) n := by
  have := (h.put hi x).drew
  simpa using this

set_option maxHeartbeats 1000000 in
theorem drop_at {w : World} {g b cap : Nat} {xs : List (It Int)} {n : Int} (h : At w g b cap xs n) (hp : 0 < xs.length) (hm : xs.length ≤ 6000000000000) (ht : Tree xs) :
    Calls Try.prog 41 #[.pointer (some ⟨g, 0, none⟩)] w fun e w' => e = .returned (.tuple #[]) ∧ ∃ ys, At w' g b cap ys n ∧ Only2 w w' g b ∧ Tree ys ∧ ys.Perm (cut xs) := by
  obtain ⟨m, hm1⟩ : ∃ m, xs.length = m + 1 := ⟨xs.length - 1, by omega⟩
  have h0 := h.h0
  have hle := h.le
  have hg := frozenOf (k := 0) h.head
  have hne := h.ne
  have hne' : ¬ b = g := fun e => hne e.symm
  obtain ⟨d1, d2, d3⟩ := h.cells (i := 0) hp
  obtain ⟨c1, c2, c3⟩ := h.cells (i := m) (by omega)
  simp only [Nat.zero_mul, Nat.zero_add] at d1 d2 d3
  have P1 := hide (h.put0 hp (pt xs m))
  obtain ⟨x, hx⟩ : ∃ x, pt xs m = x := ⟨_, rfl⟩
  obtain ⟨y, hy⟩ : ∃ y, pt xs 0 = y := ⟨_, rfl⟩
  rw [hx] at c1 c2 c3 P1
  rw [hy] at d1 d2 d3
  have HX := hide hx
  have HT := hide ht
  have HM := hide hm1
  have HA := hide h
  rw [hm1] at h0 hle hm
  have f1 := h.fr 0
  have f2 := h.fr 1
  have f3 := h.fr 2
  clear hx hy ht hm1 hp h
  go_enter Try.func41, Try.ntmps41
  go_wp2
  go_region
  obtain ⟨W1, hW1⟩ : ∃ W1, (((w.setCell { block := b, off := 0 } (Value.int IntKind.i64 x.key)).setCell { block := b, off := 1 } (Value.int IntKind.i64 x.turn)).setCell { block := b, off := 2 } (Value.int IntKind.i64 x.val)).drew = W1 := ⟨_, rfl⟩
  have O1 := hide ((((Only.refl w b).set 0 (.int .i64 x.key)).set 1 (.int .i64 x.turn)).set 2 (.int .i64 x.val)).drew
  rw [hW1] at O1 P1 ⊢
  have hA1 := P1.out
  have hl1 : (xs.set 0 x).length = m + 1 := by rw [List.length_set]; exact HM.out
  have e0 := hA1.h0
  rw [hl1] at e0
  obtain ⟨a1, a2, a3⟩ := hA1.cells (i := m) (by omega)
  have g1 := hA1.fr (m * 3)
  have g2 := hA1.fr (m * 3 + 1)
  have g3 := hA1.fr (m * 3 + 2)
  have g4 := frozenOf (k := 0) hA1.head
  have P2 := hide ((hA1.put (i := m) (by omega) zeroI).shrink (m := m) (by rw [List.length_set]; omega))
  clear hW1 h0 hg d1 d2 d3 c1 c2 c3 f1 f2 f3 hA1 hl1
  unfold zeroI at P2
  go_wp2_with fail
  have hL : ((xs.set 0 x).set m ⟨0, 0, 0⟩).take m = cut xs := by
    have := cut_eq xs
    rw [HM.out] at this
    simp only [Nat.add_sub_cancel] at this
    rw [HX.out] at this
    exact this
  have P3 := P2.out
  rw [hL] at P3
  have hlc : (cut xs).length = m := by rw [length_cut, HM.out]; rfl
  have O2 := (Only2.of (g := g) ((((O1.out).set (m * 3) (.int .i64 0)).set (m * 3 + 1) (.int .i64 0)).set (m * 3 + 2) (.int .i64 0))).set 0 (.slice (some ⟨b, 0, none⟩) m cap)
  by_cases hm0 : m = 0
  · have hcn : cut xs = [] := List.eq_nil_of_length_eq_zero (by omega)
    rw [hcn] at P3
    clear hm0
    refine (sink_nil P3).mono ?_
    rintro e w2 ⟨rfl, rfl⟩
    go_wp2
    (try simp only [Exit.inBlock, Exit.then]); refine bodyPost_end (results_none rfl _ _ _) rfl ?_
    exact ⟨rfl, [], P3, O2, (fun i _ hi => by simp at hi), by rw [hcn]⟩
  · refine (sink_at P3 (by omega) (down_cut HT.out) (by omega)).mono ?_
    rintro e w2 ⟨rfl, ys, q1, q2, q3, q4⟩
    go_wp2
    (try simp only [Exit.inBlock, Exit.then]); refine bodyPost_end (results_none rfl _ _ _) rfl ?_
    exact ⟨rfl, ys, q1, O2.then q2, q3, q4⟩

end Go.Proofs.Ytdfggdafflkkcaa.H4

namespace Go.Proofs.Ytdfggdafflkkcaa.H4
open Go.RowKit
variable {F : Fence} {n : Nat} {P : Program}

theorem cellNew (W : World) (v : Value) (t : TypeId) : (W.alloc (.cells #[v] t)).cell? ⟨W.heap.size, 0, none⟩ = some v ∧ (W.alloc (.cells #[v] t)).frozen? ⟨W.heap.size, 0, none⟩ = false :=
  ⟨by rw [World.cell?_alloc_at _ _ _ _ rfl]; rfl, World.frozen?_alloc_at _ _ _ _ rfl⟩

theorem cellAlloc {W : World} {a : Addr} {v : Value} (o : Obj) (h : W.cell? a = some v) : (W.alloc o).cell? a = some v := cell_kept h (World.grownBy_alloc W o none) (fun r e => by cases e)

theorem frozenAlloc {W : World} {a : Addr} {v : Value} (o : Obj) (h : W.cell? a = some v) (hf : W.frozen? a = false) : (W.alloc o).frozen? a = false := (frozen_kept h (World.grownBy_alloc W o none) (fun r e => by cases e)).trans hf

theorem put_alloc (w : World) (o o' : Obj) : (w.alloc o).putObj w.heap.size o' = w.alloc o' := by
  have e : (w.heap.push o).setIfInBounds w.heap.size o' = w.heap.push o' := by
    apply Array.ext'
    simp [Array.toList_setIfInBounds]
  show { w with heap := (w.heap.push o).setIfInBounds w.heap.size o' } = { w with heap := w.heap.push o' }
  rw [e]

/-- How the body of a round may be left. -/
def roundEnd (I : Nat → Obj → World → Prop) (Ix : Code → Obj → World → Prop) (m : Nat) (o : Obj) : Exit → Act → World → Prop
  | .normal, _, W => ∃ m', m' < m ∧ I m' o W
  | .ret, _, W => Ix .ret o W
  | .exit id, _, W => Ix (.exit id) o W
  | .goto t, _, W => Ix (.goto t) o W
  | .panic _, _, _ => False
  | .outgrown, _, _ => False

/-- What holds of a world with the loop's record in it, whatever stands in the record. -/
structure Rec (l : Nat) (I : Obj → World → Prop) : Prop where
  get : ∀ o W, I o W → W.heap[l]? = some o
  put : ∀ o o' W, I o W → I o' (W.putObj l o')

/-- A loop over an iterator that may itself write memory, and whose body may write what the iterator reads. -/
theorem wp_range {α : Type} {g : Operand} {ps : Array Tmp} {assign body : Code} {Q : Exit → Act → World → Prop} {a : Act} {w : World} (m0 : Nat)
    (hro : F.round = none) (h1 : 1 ≤ n) {gf : Nat} {lb : Array Value} (hg : a.eval g = .func (.func gf) #[] lb) (hFg : F.fn gf) (eg : ∀ args w, (callFunc gf args).run P w = .ok (.enter gf args) w)
    {encs : α → Array Value} (hps : ∀ x, (encs x).size = ps.size)
    (I : Nat → Obj → World → Prop) (Iy : Nat → α → Obj → World → Prop) (Ie : Obj → World → Prop) (Ix : Code → Obj → World → Prop)
    (rI : ∀ m, Rec (w.heap.size + 1) (I m)) (ry : ∀ m x, Rec (w.heap.size + 1) (Iy m x)) (re : Rec (w.heap.size + 1) Ie) (rx : ∀ c, Rec (w.heap.size + 1) (Ix c))
    (h0 : ∀ o, I m0 o ((w.alloc (.deferred (some []))).alloc o))
    (hseq : ∀ (o : Obj) (Jx : World → Prop), (∀ m x W, Iy m x o W → YieldAt F (n - 1 - 1) P (w.heap.size + 1) (encs x) W fun e W' => (e = .returned (.bool true) ∧ ∃ m', m' < m ∧ I m' o W') ∨ (e = .returned (.bool false) ∧ Jx W')) →
      ∀ W, I m0 o W → CallsIn F (n - 1) P gf (#[.func (.yield (w.heap.size + 1)) #[] #[]] ++ lb) W fun e W' => (∃ v, e = .returned v) ∧ (Ie o W' ∨ Jx W'))
    (a₁ : α → Act)
    (hassign : ∀ (x : α) (W : World) (K : Act → World → Prop), K (a₁ x) W →
      assign.wpIn (F.inRound (w.heap.size + 1)) (n - 1 - 1) P (Exit.then K (fun _ _ _ => False)) { tmps := (ps.zip (encs x)).foldl (fun t (p, v) => t.setIfInBounds p v) a.tmps, defers := [] } W)
    (hbody : ∀ m x o W, Iy m x o W → body.wpIn (F.inRound (w.heap.size + 1)) (n - 1 - 1) P (roundEnd I Ix m o) (a₁ x) W)
    (hdone : ∀ o W, Ie o W → Q .normal { a with defers := { target := .collected w.heap.size, args := #[] } :: a.defers } W)
    (hstop : ∀ c o W, Ix c o W → c.wpIn F n P Q { a with defers := { target := .collected w.heap.size, args := #[] } :: a.defers } W) :
    (Code.rangeFunc g ps assign body).wpIn F n P Q a w := by
  refine wpIn_rangeFunc ?_
  intro fn hfn
  rw [hro]
  obtain ⟨rec, hrec⟩ : ∃ rec : LoopState → Option Code → Loop, rec = fun st pe => { state := st, pending := pe, fn, tmps := a.tmps, params := ps, assign, body, defers := w.heap.size } := ⟨_, rfl⟩
  obtain ⟨W1, hW1⟩ : ∃ W1, (w.alloc (.deferred (some []))).alloc (.loop (rec .ready none)) = W1 := ⟨_, rfl⟩
  have hI1 : I m0 (.loop (rec .ready none)) W1 := by rw [← hW1]; exact h0 _
  refine ⟨w.heap.size + 1, [{ target := .collected w.heap.size, args := #[] }], W1, { target := .fn (.func gf) lb, args := #[.func (.yield (w.heap.size + 1)) #[] #[]] }, W1, gf,
    #[.func (.yield (w.heap.size + 1)) #[] #[]] ++ lb, W1, ?_, ?_, ?_, ?_, fun _ => h1, ?_⟩
  · rw [← hW1, hrec]; exact run_enterLoop_outer _ _ _ _ _
  · simp only [resolve, hg]
    simp [go_sem]
  · intro f' hf'; simp [Target.leads] at hf'; subst hf'; exact hFg
  · simp [invoke, go_sem, eg]
  · refine (hseq (.loop (rec .ready none)) (fun W => ∃ c, Ix c (.loop (rec .done (some c))) W) ?_ W1 hI1).mono ?_
    · rintro m x W hi
      have hl := (ry m x).get _ _ hi
      have hlt : w.heap.size + 1 < W.heap.size := (Array.getElem?_eq_some_iff.1 hl).1
      have hy := run_yield (P := P) (args := encs x) hl (by rw [hrec]; exact hps x)
      rw [hrec] at hy
      refine ⟨fn, _, assign, body, hy, roundIn_of_wpIn hfn (hassign x W _ ⟨_, run_beginRound hl (by rw [hrec]), ?_⟩)⟩
      refine wpIn_mono (hbody m x (.loop { rec .ready none with state := .busy }) _ ((ry m x).put _ _ _ hi)) ?_
      have fin : ∀ (jump : Option Code) (W3 : World), W3.heap[w.heap.size + 1]? = some (.loop { rec .ready none with state := .busy }) →
          (Instr.endRound (w.heap.size + 1) jump).run P W3 = .ok (.bool jump.isNone) (W3.putObj (w.heap.size + 1) (.loop (rec (if jump.isNone then .ready else .done) jump))) := fun jump W3 hl3 => by
        have := run_endRound (P := P) jump hl3
        rw [hrec] at this ⊢
        exact this
      rintro e a3 W3 hp
      cases e with
      | normal =>
        obtain ⟨m', hm', hi3⟩ := hp
        exact ⟨_, _, fin none W3 ((rI m').get _ _ hi3), .inl ⟨rfl, m', hm', (rI m').put _ _ _ hi3⟩⟩
      | ret => exact ⟨_, _, fin (some .ret) W3 ((rx _).get _ _ hp), .inr ⟨rfl, .ret, (rx _).put _ _ _ hp⟩⟩
      | exit id => exact ⟨_, _, fin (some (.exit id)) W3 ((rx _).get _ _ hp), .inr ⟨rfl, .exit id, (rx _).put _ _ _ hp⟩⟩
      | goto t => exact ⟨_, _, fin (some (.goto t)) W3 ((rx _).get _ _ hp), .inr ⟨rfl, .goto t, (rx _).put _ _ _ hp⟩⟩
      | panic ch => exact hp.elim
      | outgrown => exact hp.elim
    · rintro e W2 ⟨⟨v, rfl⟩, (hi | ⟨c, hi⟩)⟩
      · exact ⟨none, _, by have := run_endLoop (P := P) (re.get _ _ hi) (by rw [hrec]; simp); rw [hrec] at this; exact this, hdone _ _ (re.put _ _ _ hi)⟩
      · exact ⟨some c, _, by have := run_endLoop (P := P) ((rx c).get _ _ hi) (by rw [hrec]; simp); rw [hrec] at this; exact this, hstop c _ _ ((rx c).put _ _ _ hi)⟩

end Go.Proofs.Ytdfggdafflkkcaa.H4

namespace Go.Proofs.Ytdfggdafflkkcaa.H4
open Go.RowKit Go.Maps
set_option maxRecDepth 20000

/-- What is not one's own stays. -/
structure Fr (K K' : Nat → Nat) (w w' : World) : Prop where
  os : w'.os = w.os
  tape : w'.tape = w.tape
  output : w'.output = w.output
  size : w.heap.size ≤ w'.heap.size
  block : ∀ k, k < w.heap.size → K k = 0 → w'.heap[k]? = w.heap[k]?
  role : ∀ k, k < w.heap.size → K' k = K k

theorem Fr.refl (K : Nat → Nat) (w : World) : Fr K K w w := ⟨rfl, rfl, rfl, Nat.le_refl _, fun _ _ _ => rfl, fun _ _ => rfl⟩

theorem Fr.trans {K K' K'' : Nat → Nat} {a b c : World} (h : Fr K K' a b) (k : Fr K' K'' b c) : Fr K K'' a c :=
  ⟨k.os.trans h.os, k.tape.trans h.tape, k.output.trans h.output, Nat.le_trans h.size k.size,
   fun i hi h0 => (k.block i (Nat.lt_of_lt_of_le hi h.size) (by rw [h.role i hi]; exact h0)).trans (h.block i hi h0),
   fun i hi => (k.role i (Nat.lt_of_lt_of_le hi h.size)).trans (h.role i hi)⟩

theorem Fr.of_below {K : Nat → Nat} {w w' : World} (h : Below w.heap.size w w') : Fr K K w w' :=
  ⟨h.os, h.tape, h.output, h.size, fun k hk _ => h.block k hk, fun _ _ => rfl⟩

theorem Fr.below {K K' : Nat → Nat} {w w' : World} {B : Nat} (h : Fr K K' w w') (hu : ∀ k, K k ≠ 0 → B ≤ k) (hB : B ≤ w.heap.size) : Below B w w' :=
  ⟨h.os, h.tape, h.output, h.size, fun k hk => h.block k (by omega) (by
    by_cases hz : K k = 0
    · exact hz
    · have := hu k hz; omega)⟩

theorem Fr.up {K K' : Nat → Nat} {w w' : World} {B : Nat} (h : Fr K K' w w') (hu : ∀ k, K k ≠ 0 → B ≤ k) (hB : B ≤ w.heap.size) : ∀ k, K' k ≠ 0 → B ≤ k := by
  intro k hk
  by_cases hl : k < w.heap.size
  · exact hu k (by rw [← h.role k hl]; exact hk)
  · omega

theorem Fr.drewN {K K' : Nat → Nat} {w w' : World} (h : Fr K K' w w') (n : Nat) : Fr K K' w (w'.drewN n) := ⟨h.os, h.tape, h.output, h.size, h.block, h.role⟩

/-- A heap of the program: what was put in and not yet taken, in the order of putting in; the next turn. -/
structure Hq (w : World) (K : Nat → Nat) (g : Nat) (R : List (It Int)) (n : Nat) : Prop where
  is : (R = [] ∧ n = 0 ∧ w.heap[g]? = some (.cells #[.slice none 0 0, .int .i64 0] 67 (0, 0))) ∨ ∃ b cap xs, At w g b cap xs n ∧ Holds xs R n ∧ K b ≠ 0
  kg : K g ≠ 0
  sup : ∀ k, K k ≠ 0 → k < w.heap.size

theorem Hq.far {w w' : World} {K : Nat → Nat} {g : Nat} {R : List (It Int)} {n : Nat} (h : Hq w K g R n) (hs : w.heap.size ≤ w'.heap.size) (hb : ∀ k, K k ≠ 0 → w'.heap[k]? = w.heap[k]?) : Hq w' K g R n := by
  refine ⟨?_, h.kg, fun k hk => Nat.lt_of_lt_of_le (h.sup k hk) hs⟩
  rcases h.is with ⟨a, b, c⟩ | ⟨b, cap, xs, a, c, d⟩
  · exact .inl ⟨a, b, (hb g h.kg).trans c⟩
  · exact .inr ⟨b, cap, xs, a.move (hb g h.kg) (hb b d), c, d⟩

theorem holds_nil {n : Int} : Holds ([] : List (It Int)) [] n := ⟨fun i _ hi => by simp at hi, List.Perm.refl _, fun i j _ hj => by simp at hj, fun i hi => by simp at hi⟩

theorem new_any (w : World) : Calls Try.prog 30 #[] w fun e w' => e = .returned (.pointer (some ⟨w.heap.size, 0, none⟩)) ∧ w' = w.alloc (.cells #[.slice none 0 0, .int .i64 0] 67) := by
  go_enter Try.func30, Try.ntmps30
  go_wp2
  go_ret
  exact ⟨rfl, rfl⟩

theorem len_any {w : World} {K : Nat → Nat} {g : Nat} {R : List (It Int)} {n : Nat} (h : Hq w K g R n) : Calls Try.prog 32 #[.pointer (some ⟨g, 0, none⟩)] w fun e w' => e = .returned (.int .i64 R.length) ∧ w' = w := by
  rcases h.is with ⟨rfl, rfl, c⟩ | ⟨b, cap, xs, a, c, d⟩
  · have h0 : w.cell? ⟨g, 0, none⟩ = some (.slice none 0 0) := cellOf c rfl
    go_enter Try.func32, Try.ntmps32
    go_wp2
    go_ret
    exact ⟨rfl, rfl⟩
  · have h0 := a.h0
    rw [c.len] at h0
    go_enter Try.func32, Try.ntmps32
    go_wp2
    go_ret
    exact ⟨rfl, rfl⟩

def pkK (R : List (It Int)) : Int := if R = [] then 0 else (pt R (fstTo R R.length)).key
def pkV (R : List (It Int)) : Int := if R = [] then 0 else (pt R (fstTo R R.length)).val
def pkB (R : List (It Int)) : Bool := decide (R ≠ [])
def rest (R : List (It Int)) : List (It Int) := R.eraseIdx (fstTo R R.length)

theorem peek_any {w : World} {K : Nat → Nat} {g : Nat} {R : List (It Int)} {n : Nat} (h : Hq w K g R n) : Calls Try.prog 40 #[.pointer (some ⟨g, 0, none⟩)] w fun e w' => e = .returned (.tuple #[.int .i64 (pkK R), .int .i64 (pkV R), .bool (pkB R)]) ∧ ∃ n, w' = w.drewN n := by
  have hL := len_any h
  by_cases hR : R = []
  · subst hR
    go_enter Try.func40, Try.ntmps40
    go_wp2_with fail
    refine hL.mono ?_
    rintro e w1 ⟨rfl, rfl⟩
    go_wp2
    go_ret3
    exact ⟨by simp [pkK, pkV, pkB], 0, rfl⟩
  · rcases h.is with ⟨a, b, c⟩ | ⟨b, cap, xs, a, c, d⟩
    · exact absurd a hR
    · have hpos : 0 < R.length := List.length_pos_iff.2 hR
      have h0 := a.h0
      obtain ⟨c1, c2, c3⟩ := a.cells (i := 0) (by rw [c.len]; exact hpos)
      simp only [Nat.zero_mul, Nat.zero_add] at c1 c2 c3
      rw [c.first hpos] at c1 c2 c3
      rw [c.len] at h0
      have HK := hide (show pkK R = (pt R (fstTo R R.length)).key by unfold pkK; rw [if_neg hR])
      have HV := hide (show pkV R = (pt R (fstTo R R.length)).val by unfold pkV; rw [if_neg hR])
      have HB := hide (show pkB R = true by simp [pkB, hR])
      obtain ⟨x, hx⟩ : ∃ x, pt R (fstTo R R.length) = x := ⟨_, rfl⟩
      rw [hx] at c1 c2 c3 HK HV
      have h1 : ¬ (R.length : Int) = 0 := by omega
      clear hx hR
      go_enter Try.func40, Try.ntmps40
      go_wp2_with fail
      refine hL.mono ?_
      rintro e w1 ⟨rfl, rfl⟩
      go_wp2
      go_quiet (fail)
      go_wp2
      go_ret3
      exact ⟨by rw [HK.out, HV.out, HB.out]; rfl, _, rfl⟩

/-- The head and the row, whether there is one yet or not. -/
theorem Hq.open {w : World} {K : Nat → Nat} {g : Nat} {R : List (It Int)} {n : Nat} (h : Hq w K g R n) : ∃ v xs, w.heap[g]? = some (.cells #[v, .int .i64 n] 67 (0, 0)) ∧ w.ownsRow 0 69 3 v xs.length (flatI xs) ∧ Holds xs R n ∧ v.ownBlock ≠ some g ∧ ∀ k, v.ownBlock = some k → K k ≠ 0 := by
  rcases h.is with ⟨rfl, rfl, c⟩ | ⟨b, cap, xs, a, c, d⟩
  · exact ⟨_, [], c, World.ownsRow_nil _ _ _ _, holds_nil, by simp [Value.ownBlock], fun k hk => by simp [Value.ownBlock] at hk⟩
  · obtain ⟨cur, q1, q2, q3⟩ := a.row
    refine ⟨_, xs, a.head, ⟨flatI_length xs, .inr ⟨b, cap, cur, rfl, Nat.zero_le _, q1, a.le, a.cap, q2, q3⟩⟩, c, ?_, fun k hk => ?_⟩
    · simp only [Value.ownBlock, ne_eq, Option.some.injEq]; exact fun e => a.ne e.symm
    · simp only [Value.ownBlock, Option.some.injEq] at hk; subst hk; exact d

end Go.Proofs.Ytdfggdafflkkcaa.H4

namespace Go.Proofs.Ytdfggdafflkkcaa.H4
open Go.RowKit Go.Maps
set_option maxRecDepth 20000

theorem infoIt : (Try.prog.info? 69).map (fun i => (i.zero, i.size, i.bytes)) = some (some (.agg #[.int .i64 0, .int .i64 0, .int .i64 0]), 3, 24) := by kernel_rfl

theorem row_move {w w' : World} {base : Nat} {e : TypeId} {size : Nat} {v : Value} {n : Nat} {xs : List Value} (h : w.ownsRow base e size v n xs) (hb : ∀ k, v.ownBlock = some k → w'.heap[k]? = w.heap[k]?) : w'.ownsRow base e size v n xs := by
  refine ⟨h.1, ?_⟩
  rcases h.2 with h2 | ⟨g, cap, cur, rfl, h1, h2, r⟩
  · exact .inl h2
  · exact .inr ⟨g, cap, cur, rfl, h1, (hb g rfl).trans h2, r⟩

theorem row_shape {w : World} {base : Nat} {e : TypeId} {size : Nat} {v : Value} {n : Nat} {xs : List Value} (h : w.ownsRow base e size v n xs) : ∃ a c, v = .slice a n c := by
  rcases h.2 with ⟨rfl, rfl⟩ | ⟨g, cap, cur, rfl, _⟩
  · exact ⟨none, 0, rfl⟩
  · exact ⟨_, _, rfl⟩

theorem row_lt {w : World} {base : Nat} {e : TypeId} {size : Nat} {v : Value} {n : Nat} {xs : List Value} (h : w.ownsRow base e size v n xs) : ∀ k, v.ownBlock = some k → k < w.heap.size := fun k hk => (World.ownsRow.lt h k hk).2

theorem heap_lt {w : World} {g : Nat} {o : Obj} (h : w.heap[g]? = some o) : g < w.heap.size := (Array.getElem?_eq_some_iff.1 h).1

/-- What an append and the two stores leave. -/
theorem push_fin {w w6 : World} {K : Nat → Nat} {g gg cap6 : Nat} {R xs : List (It Int)} {n : Nat} {v : Value} {key val : Int} (h : Hq w K g R n) (hhead : w.heap[g]? = some (.cells #[v, .int .i64 n] 67 (0, 0))) (hng : v.ownBlock ≠ some g) (hkv : ∀ k, v.ownBlock = some k → K k ≠ 0)
    (hown : w6.ownsRow 0 69 3 (.slice (some ⟨gg, 0, none⟩) (xs.length + 1) cap6) (xs.length + 1) (flatI xs ++ [.int .i64 key, .int .i64 n, .int .i64 val]))
    (hgrow : (w.alloc (.cells #[.int .i64 key, .int .i64 n, .int .i64 val] 69)).grownBy w6 v.ownBlock) (hat : v.ownBlock = some gg ∨ gg = w.heap.size + 1) (hlt : gg < w6.heap.size) :
    At ((w6.setCell ⟨g, 0, none⟩ (.slice (some ⟨gg, 0, none⟩) (xs.length + 1) cap6)).setCell ⟨g, 1, none⟩ (.int .i64 ((n : Int) + 1))) g gg cap6 (xs ++ [⟨key, n, val⟩]) ((n : Int) + 1) ∧
    ∀ ys w7, At w7 g gg cap6 ys ((n : Int) + 1) → Only ((w6.setCell ⟨g, 0, none⟩ (.slice (some ⟨gg, 0, none⟩) (xs.length + 1) cap6)).setCell ⟨g, 1, none⟩ (.int .i64 ((n : Int) + 1))) w7 gg → Holds ys (R ++ [⟨key, n, val⟩]) ((n : Int) + 1) →
      ∃ K', Hq w7 K' g (R ++ [⟨key, n, val⟩]) (n + 1) ∧ Fr K K' w w7 := by
  have hgl := heap_lt hhead
  have hs := hgrow.size
  rw [size_alloc'] at hs
  have e6 : w6.heap[g]? = some (.cells #[v, .int .i64 n] 67 (0, 0)) := by
    rw [hgrow.block g (by rw [size_alloc']; omega) (fun e => hng e.symm), Below.heap_alloc _ _ g hgl]; exact hhead
  have hne : g ≠ gg := by
    rcases hat with e | e
    · intro e2; exact hng (by rw [e, e2])
    · omega
  have e7 : ((w6.setCell ⟨g, 0, none⟩ (.slice (some ⟨gg, 0, none⟩) (xs.length + 1) cap6)).setCell ⟨g, 1, none⟩ (.int .i64 ((n : Int) + 1))).heap[g]? = some (.cells #[.slice (some ⟨gg, 0, none⟩) (xs.length + 1) cap6, .int .i64 ((n : Int) + 1)] 67 (0, 0)) := by
    exact heap_setCell_at _ (heap_setCell_at _ e6)
  refine ⟨?_, fun ys w7 hA hO hH => ?_⟩
  · rcases hown.2 with ⟨c, _⟩ | ⟨g', cap, cur, c, _, q1, q2, q3, q4, q5⟩
    · cases c
    · simp only [Value.slice.injEq, Option.some.injEq, Addr.mk.injEq] at c
      obtain ⟨⟨rfl, -, -⟩, -, rfl⟩ := c
      refine ⟨by rw [e7, List.length_append]; rfl, ⟨cur, ?_, q4, ?_⟩, by rw [List.length_append]; exact q2, q3, hne⟩
      · rw [setCell_others _ _ _ _ _ (fun e => hne e.symm), setCell_others _ _ _ _ _ (fun e => hne e.symm)]
        exact q1
      · rw [List.length_append, flatI_snoc]; exact q5
  · have hsz : w7.heap.size = w6.heap.size := by rw [hO.size, size_setCell, size_setCell]
    refine ⟨fun k => if k < w.heap.size then K k else if k = gg then 1 else 0, ⟨.inr ⟨gg, cap6, ys, ?_, ?_, ?_⟩, ?_, fun k hk => ?_⟩, ⟨hO.os.trans hgrow.os, hO.tape.trans hgrow.tape, hO.output.trans hgrow.output, by omega, fun k hk h0 => ?_, fun k hk => by simp only [if_pos hk]⟩⟩
    · rw [show ((n + 1 : Nat) : Int) = (n : Int) + 1 by omega]; exact hA
    · rw [show ((n + 1 : Nat) : Int) = (n : Int) + 1 by omega]; exact hH
    · by_cases hl : gg < w.heap.size
      · simp only [if_pos hl]
        rcases hat with e | e
        · exact hkv gg e
        · omega
      · simp [hl]
    · simp only [if_pos hgl]; exact h.kg
    · by_cases hl : k < w.heap.size
      · omega
      · simp only [if_neg hl] at hk
        by_cases e : k = gg
        · omega
        · simp [e] at hk
    · have hkg : k ≠ g := fun e => h.kg (by rw [← e]; exact h0)
      have hkk : k ≠ gg := by
        rcases hat with e | e
        · intro e2; exact hkv gg e (by rw [← e2]; exact h0)
        · omega
      rw [hO.block k hkk, setCell_others _ _ _ _ _ hkg, setCell_others _ _ _ _ _ hkg]
      exact (hgrow.block k (by rw [size_alloc']; omega) (fun e => hkv k e.symm h0)).trans (Below.heap_alloc _ _ k hk)

set_option maxHeartbeats 1000000 in
theorem push_any {w : World} {K : Nat → Nat} {g : Nat} {R : List (It Int)} {n : Nat} (h : Hq w K g R n) (key val : Int) (hR : R.length ≤ 5864062014804) (hn : n ≤ 10000000000000) :
    Calls Try.prog 31 #[.pointer (some ⟨g, 0, none⟩), .int .i64 key, .int .i64 val] w fun e w' => e = .returned (.tuple #[]) ∧ ∃ K', Hq w' K' g (R ++ [⟨key, n, val⟩]) (n + 1) ∧ Fr K K' w w' := by
  obtain ⟨v, xs, hhead, hrow, hH, hng, hkv⟩ := h.open
  have hgl := heap_lt hhead
  have hrl := row_lt hrow
  obtain ⟨a, p, rfl⟩ := row_shape hrow
  have hL : xs.length ≤ 5864062014804 := by rw [hH.len]; exact hR
  have c0 : w.cell? ⟨g, 0, none⟩ = some (.slice a xs.length p) := cellOf hhead rfl
  have c1 : w.cell? ⟨g, 1, none⟩ = some (.int .i64 n) := cellOf hhead rfl
  have k0 : (w.alloc (.cells #[.int .i64 key, .int .i64 n, .int .i64 val] 69)).cell? ⟨g, 0, none⟩ = some (.slice a xs.length p) := cellAlloc _ c0
  have HROW : Hid (∀ W : World, W.heap = (w.alloc (.cells #[.int .i64 key, .int .i64 n, .int .i64 val] 69)).heap → W.ownsRow 0 69 3 (.slice a xs.length p) xs.length (flatI xs)) := fun W hW => row_move hrow fun x hx => by rw [hW]; exact Below.heap_alloc _ _ x (hrl x hx)
  have HG6 : Hid (∀ (w5 w6 : World), w5.heap = (w.alloc (.cells #[.int .i64 key, .int .i64 n, .int .i64 val] 69)).heap → w5.grownBy w6 (Value.slice a xs.length p).ownBlock → (w6.cell? ⟨g, 0, none⟩ = some (.slice a xs.length p) ∧ w6.cell? ⟨g, 1, none⟩ = some (.int .i64 n)) ∧ w6.frozen? ⟨g, 0, none⟩ = false ∧ w6.frozen? ⟨g, 1, none⟩ = false) := fun w5 w6 h5 hg => by
    have e1 : w6.heap[g]? = some (.cells #[.slice a xs.length p, .int .i64 n] 67 (0, 0)) := by
      rw [hg.block g (by rw [h5, size_alloc']; omega) (fun e => hng e.symm), h5, Below.heap_alloc _ _ g hgl]; exact hhead
    exact ⟨⟨cellOf e1 rfl, cellOf e1 rfl⟩, frozenOf e1, frozenOf e1⟩
  obtain ⟨i0, hi0, hz0, hz1, hz2⟩ := info_parts infoIt
  have HI0 := hide hi0
  have HZ0 := hide hz0
  have HZ1 := hide hz1
  have HZ2 := hide hz2
  have HP1 : Hid (0 < 1) := by show 0 < 1; omega
  have HP3 : Hid (0 < 3) := by show 0 < 3; omega
  have HPM : Hid (xs.length + 1 ≤ maxLen) := by show _ ≤ _; unfold maxLen; omega
  have HPB : Hid ((xs.length + 1) * 24 ≤ 140737488355328) := by show _ ≤ _; omega
  have H1C : Hid (∀ u ∈ [Value.int .i64 key, .int .i64 n, .int .i64 val], u.oneCell' = true) := fun u hu => by
    rcases List.mem_cons.1 hu with rfl | hu
    · rfl
    · rcases List.mem_cons.1 hu with rfl | hu
      · rfl
      · rw [List.mem_singleton.1 hu]; rfl
  have HH := hide hH
  have HQ := hide h
  have HHEAD := hide hhead
  have HNG := hide hng
  have HKV := hide hkv
  clear hi0 hz0 hz1 hz2 hrow hH h hhead hng hkv hrl hR
  go_enter Try.func31, Try.ntmps31
  go_wp2
  go_region_law (refine step_append_lies _ (by rfl) _ _ _ (by rfl) 0 69 i0 _ 3 24 Try.underlying65 HI0.out HZ0.out HZ1.out HZ2.out rfl HP3.out (.slice a xs.length p) xs.length (flatI xs) (by simp [Act.eval]) (HROW.out _ (by rfl)) ⟨w.heap.size, 0, none⟩ 1 1 [.int .i64 key, .int .i64 n, .int .i64 val] (by simp [Act.eval]) (by rfl) (World.news_of_block (cs := #[.int .i64 key, .int .i64 n, .int .i64 val]) (t := 69) (fr := (0, 0)) (heap_alloc_new w _)) H1C.out HP1.out HPM.out HPB.out (Nat.zero_le _) (w.heap.size + 1) (by simp) ?_; intro gg cap6 w6 hown6 hgrow6 hat6 hlt6; obtain ⟨⟨t0, t1⟩, tf0, tf1⟩ := HG6.out _ w6 (by rfl) hgrow6; have HALL := hide (And.intro hown6 (And.intro hgrow6 (And.intro hat6 hlt6))); clear hown6 hgrow6 hat6 hlt6)
  all_goals
    obtain ⟨hown6, hgrow6, hat6, hlt6⟩ := HALL.out
    obtain ⟨hA7, hfin⟩ := push_fin HQ.out HHEAD.out HNG.out HKV.out hown6 ⟨hgrow6.os, hgrow6.tape, hgrow6.output, hgrow6.size, fun k hk hne => hgrow6.block k hk hne⟩ hat6 hlt6
    have HA7 := hide hA7
    have HFIN := hide hfin
    have hgg : ¬ gg = g := fun e => hA7.ne e.symm
    clear hown6 hgrow6 hat6 hlt6 HALL hA7 hfin c0 c1 k0
    go_wp2_with fail
    refine (rise_at HA7.out xs.length (by simp) (by simp; omega) (up_snoc HH.out.tree _)).mono ?_
    rintro e w7 ⟨rfl, ys, q1, q2, q3, q4⟩
    have hf2 := HFIN.out ys w7 q1 q2 (HH.out.push ⟨key, n, val⟩ rfl q3 q4)
    go_wp2
    (try simp only [Exit.inBlock, Exit.then]); refine bodyPost_end (results_none rfl _ _ _) rfl ?_
    exact ⟨rfl, hf2⟩

end Go.Proofs.Ytdfggdafflkkcaa.H4

namespace Go.Proofs.Ytdfggdafflkkcaa.H4
open Go.RowKit Go.Maps
set_option maxRecDepth 20000

theorem Hq.drewN {w : World} {K : Nat → Nat} {g : Nat} {R : List (It Int)} {n : Nat} (h : Hq w K g R n) (q : Nat) : Hq (w.drewN q) K g R n := h.far (Nat.le_refl _) (fun _ _ => rfl)

theorem rest_len {R : List (It Int)} (h : R ≠ []) : (rest R).length + 1 = R.length := by
  have hp : 0 < R.length := List.length_pos_iff.2 h
  have := fstTo_lt R R.length hp
  unfold rest
  rw [List.length_eraseIdx, if_pos this]
  omega

theorem rest_nil : rest [] = [] := rfl

set_option maxHeartbeats 1000000 in
theorem pop_any {w : World} {K : Nat → Nat} {g : Nat} {R : List (It Int)} {n : Nat} (h : Hq w K g R n) (hR : R.length ≤ 6000000000000) :
    Calls Try.prog 33 #[.pointer (some ⟨g, 0, none⟩)] w fun e w' => e = .returned (.tuple #[.int .i64 (pkK R), .int .i64 (pkV R), .bool (pkB R)]) ∧ Hq w' K g (rest R) n ∧ Fr K K w w' := by
  have hP := peek_any h
  by_cases hn : R = []
  · have hb : pkB R = false := by simp [pkB, hn]
    rw [hb] at hP ⊢
    have HN := hide hn
    clear hb hn
    go_enter Try.func33, Try.ntmps33
    go_wp2_with fail
    refine hP.mono ?_
    rintro e w1 ⟨rfl, q, rfl⟩
    go_wp2
    go_ret3
    refine ⟨rfl, ?_, (Fr.refl K w).drewN q⟩
    have := HN.out
    subst this
    exact h.drewN q
  · have hb : pkB R = true := by simp [pkB, hn]
    rw [hb] at hP ⊢
    obtain ⟨b, cap, xs, a, c, d⟩ : ∃ b cap xs, At w g b cap xs n ∧ Holds xs R n ∧ K b ≠ 0 := by
      rcases h.is with ⟨q1, _⟩ | q
      · exact absurd q1 hn
      · exact q
    have hpos : 0 < R.length := List.length_pos_iff.2 hn
    have HN := hide hn
    clear hb hn
    go_enter Try.func33, Try.ntmps33
    go_wp2_with fail
    refine hP.mono ?_
    rintro e w1 ⟨rfl, q, rfl⟩
    go_wp2_with fail
    refine (drop_at (a.drewN q) (by rw [c.len]; exact hpos) (by rw [c.len]; exact hR) c.tree).mono ?_
    rintro e w2 ⟨rfl, ys, q1, q2, q3, q4⟩
    go_wp2
    go_ret3
    refine ⟨rfl, ⟨.inr ⟨b, cap, ys, q1, c.pop hpos q3 q4, d⟩, h.kg, fun k hk => ?_⟩, q2.os, q2.tape, q2.output, Nat.le_of_eq q2.size.symm, fun k _ h0 => ?_, fun _ _ => rfl⟩
    · rw [q2.size]; exact h.sup k hk
    · exact q2.block k (fun e => d (by rw [← e]; exact h0)) (fun e => h.kg (by rw [← e]; exact h0))

end Go.Proofs.Ytdfggdafflkkcaa.H4

