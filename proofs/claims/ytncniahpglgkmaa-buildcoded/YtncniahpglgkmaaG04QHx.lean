import Derived.Test.YtncniahpglgkmaaRows
import Derived.Test.YtncniahpglgkmaaG03QBase
import Derived.BigRegion
namespace Go.Proofs.Ytncniahpglgkmaa.H4

/-- A value under its key, with the turn at which it was put in. -/
structure It (V : Type) where
  key : Int
  turn : Int
  val : V

instance {V : Type} [Inhabited V] : Inhabited (It V) := ⟨⟨0, 0, default⟩⟩

variable {V : Type}

def Lt (a b : It V) : Prop := a.key < b.key ∨ a.key = b.key ∧ a.turn < b.turn

instance (a b : It V) : Decidable (Lt a b) := by unfold Lt; infer_instance

theorem Lt.asymm {a b : It V} (h : Lt a b) : ¬ Lt b a := by unfold Lt at *; omega

theorem Lt.ntrans {a b c : It V} (h : ¬ Lt a b) (k : ¬ Lt b c) : ¬ Lt a c := by unfold Lt at *; omega

variable [Inhabited V]

def pt (xs : List (It V)) (i : Nat) : It V := xs.getD i default

theorem pt_eq {xs : List (It V)} {i : Nat} (h : i < xs.length) : pt xs i = xs[i] := by simp [pt, h]

theorem pt_get {xs : List (It V)} {i : Nat} (h : i < xs.length) : xs[i]? = some (pt xs i) := by rw [pt_eq h]; simp [h]

def swp (xs : List (It V)) (i j : Nat) : List (It V) := (xs.set i (pt xs j)).set j (pt xs i)

@[simp] theorem length_swp (xs : List (It V)) (i j : Nat) : (swp xs i j).length = xs.length := by simp [swp]

theorem pt_swp {xs : List (It V)} {i j : Nat} (hi : i < xs.length) (hj : j < xs.length) (k : Nat) : pt (swp xs i j) k = if k = j then pt xs i else if k = i then pt xs j else pt xs k := by
  unfold swp pt
  by_cases h1 : k = j
  · subst h1
    simp [hj, List.getD]
  · by_cases h2 : k = i
    · subst h2
      rw [if_neg h1, if_pos rfl]
      have : ¬ j = k := fun e => h1 e.symm
      simp [List.getD, this, hi]
    · rw [if_neg h1, if_neg h2]
      have a1 : ¬ j = k := fun e => h1 e.symm
      have a2 : ¬ i = k := fun e => h2 e.symm
      simp [List.getD, a1, a2]

theorem swp_perm {xs : List (It V)} {i j : Nat} (hi : i < xs.length) (hj : j < xs.length) : (swp xs i j).Perm xs := by
  have h := Array.swap_perm (xs := xs.toArray) (i := i) (j := j) (by simpa using hi) (by simpa using hj)
  have h2 := h.toList
  rw [Array.toList_swap] at h2
  unfold swp
  rw [pt_eq hi, pt_eq hj]
  simpa using h2

/-- None is ahead of its parent. -/
def Tree (xs : List (It V)) : Prop := ∀ i, 0 < i → i < xs.length → ¬ Lt (pt xs i) (pt xs ((i - 1) / 2))

/-- A tree but for the one at place p, which may be ahead of its parent. -/
def Up (xs : List (It V)) (p : Nat) : Prop :=
  (∀ i, 0 < i → i < xs.length → i ≠ p → ¬ Lt (pt xs i) (pt xs ((i - 1) / 2))) ∧ ∀ i, 0 < i → i < xs.length → (i - 1) / 2 = p → 0 < p → ¬ Lt (pt xs i) (pt xs ((p - 1) / 2))

/-- A tree but for the one at place p, which may be behind its children. -/
def Down (xs : List (It V)) (p : Nat) : Prop :=
  (∀ i, 0 < i → i < xs.length → (i - 1) / 2 ≠ p → ¬ Lt (pt xs i) (pt xs ((i - 1) / 2))) ∧ ∀ i, 0 < i → i < xs.length → (i - 1) / 2 = p → 0 < p → ¬ Lt (pt xs i) (pt xs ((p - 1) / 2))

theorem Up.top {xs : List (It V)} (h : Up xs 0) : Tree xs := fun i h0 hi => h.1 i h0 hi (by omega)

theorem Up.stay {xs : List (It V)} {p : Nat} (h : Up xs p) (hn : ¬ Lt (pt xs p) (pt xs ((p - 1) / 2))) : Tree xs := fun i h0 hi => by
  by_cases e : i = p
  · subst e; exact hn
  · exact h.1 i h0 hi e

theorem Up.rise {xs : List (It V)} {p : Nat} (h : Up xs p) (h0 : 0 < p) (hp : p < xs.length) (hl : Lt (pt xs p) (pt xs ((p - 1) / 2))) : Up (swp xs p ((p - 1) / 2)) ((p - 1) / 2) := by
  have hq : (p - 1) / 2 < xs.length := by omega
  have hne : (p - 1) / 2 ≠ p := by omega
  refine ⟨fun i i0 hi hn => ?_, fun i i0 hi he q0 => ?_⟩
  · rw [length_swp] at hi
    rw [pt_swp hp hq, pt_swp hp hq, if_neg hn]
    by_cases e1 : i = p
    · subst e1
      rw [if_pos rfl, if_pos rfl]
      exact hl.asymm
    · rw [if_neg e1]
      by_cases e2 : (i - 1) / 2 = (p - 1) / 2
      · rw [if_pos e2]
        have := h.1 i i0 hi e1
        rw [e2] at this
        exact Lt.ntrans this hl.asymm
      · rw [if_neg e2]
        by_cases e3 : (i - 1) / 2 = p
        · rw [if_pos e3]
          exact h.2 i i0 hi e3 h0
        · rw [if_neg e3]
          exact h.1 i i0 hi e1
  · rw [length_swp] at hi
    rw [pt_swp hp hq, pt_swp hp hq, if_neg (by omega : ¬ ((p - 1) / 2 - 1) / 2 = (p - 1) / 2), if_neg (by omega : ¬ ((p - 1) / 2 - 1) / 2 = p), if_neg (by omega : ¬ i = (p - 1) / 2)]
    have hqq := h.1 ((p - 1) / 2) q0 hq hne
    by_cases e1 : i = p
    · rw [if_pos e1]
      exact hqq
    · rw [if_neg e1]
      have := h.1 i i0 hi e1
      rw [he] at this
      exact Lt.ntrans this hqq

theorem Down.stay {xs : List (It V)} {p : Nat} (h : Down xs p) (hn : ∀ i, 0 < i → i < xs.length → (i - 1) / 2 = p → ¬ Lt (pt xs i) (pt xs p)) : Tree xs := fun i i0 hi => by
  by_cases e : (i - 1) / 2 = p
  · rw [e]; exact hn i i0 hi e
  · exact h.1 i i0 hi e

theorem Down.sink {xs : List (It V)} {p f : Nat} (h : Down xs p) (hf0 : 0 < f) (hf : f < xs.length) (he : (f - 1) / 2 = p) (hl : Lt (pt xs f) (pt xs p)) (hm : ∀ i, 0 < i → i < xs.length → (i - 1) / 2 = p → ¬ Lt (pt xs i) (pt xs f)) : Down (swp xs p f) f := by
  have hp : p < xs.length := by omega
  have hne : f ≠ p := by omega
  refine ⟨fun i i0 hi hn => ?_, fun i i0 hi hif _ => ?_⟩
  · rw [length_swp] at hi
    rw [pt_swp hp hf, pt_swp hp hf, if_neg hn]
    by_cases e1 : i = f
    · rw [if_pos e1, e1, he, if_pos rfl]
      exact hl.asymm
    · rw [if_neg e1]
      by_cases e2 : (i - 1) / 2 = p
      · rw [if_pos e2, if_neg (by omega : ¬ i = p)]
        exact hm i i0 hi e2
      · rw [if_neg e2]
        by_cases e3 : i = p
        · rw [if_pos e3, e3]
          exact h.2 f hf0 hf he (by omega)
        · rw [if_neg e3]
          exact h.1 i i0 hi e2
  · rw [length_swp] at hi
    rw [pt_swp hp hf, pt_swp hp hf, he, if_neg (by omega : ¬ i = f), if_neg (by omega : ¬ i = p), if_neg (by omega : ¬ p = f), if_pos rfl]
    have := h.1 i i0 hi (by omega)
    rwa [hif] at this

theorem Tree.top {xs : List (It V)} (h : Tree xs) : ∀ i, i < xs.length → ¬ Lt (pt xs i) (pt xs 0) := by
  intro i
  induction i using Nat.strongRecOn with
  | ind i ih =>
    intro hi
    by_cases h0 : i = 0
    · subst h0; exact fun hh => hh.asymm hh
    · exact Lt.ntrans (h i (by omega) hi) (ih ((i - 1) / 2) (by omega) (by omega))

/-- The place of the first, among those ahead of place k. -/
def fstTo (R : List (It V)) : Nat → Nat
  | 0 => 0
  | k + 1 => if (pt R k).key < (pt R (fstTo R k)).key then k else fstTo R k

def Asc (R : List (It V)) : Prop := ∀ i j, i < j → j < R.length → (pt R i).turn < (pt R j).turn

theorem fstTo_lt (R : List (It V)) : ∀ k, 0 < k → fstTo R k < k
  | 0, h => by omega
  | 1, _ => by
    show (if _ then 0 else 0) < 1
    split <;> omega
  | k + 2, _ => by
    have := fstTo_lt R (k + 1) (by omega)
    have e : fstTo R (k + 2) = if (pt R (k + 1)).key < (pt R (fstTo R (k + 1))).key then k + 1 else fstTo R (k + 1) := rfl
    rw [e]
    split
    · exact Nat.lt_succ_self _
    · omega

theorem fstTo_least {R : List (It V)} (h : Asc R) : ∀ k, k ≤ R.length → ∀ i, i < k → ¬ Lt (pt R i) (pt R (fstTo R k))
  | 0, _, i, hi => by omega
  | k + 1, hk, i, hi => by
    have ih := fstTo_least h k (by omega)
    unfold fstTo
    by_cases e : i = k
    · subst e
      by_cases hlt : (pt R i).key < (pt R (fstTo R i)).key
      · rw [if_pos hlt]; exact fun hh => hh.asymm hh
      · rw [if_neg hlt]
        intro hh
        rcases hh with hh | ⟨_, hh⟩
        · exact hlt hh
        · by_cases h0 : i = 0
          · subst h0; simp only [fstTo] at hh; omega
          · have := h _ i (fstTo_lt R i (by omega)) (by omega)
            omega
    · by_cases hlt : (pt R k).key < (pt R (fstTo R k)).key
      · rw [if_pos hlt]
        exact Lt.ntrans (ih i (by omega)) (Lt.asymm (.inl hlt))
      · rw [if_neg hlt]
        exact ih i (by omega)

/-- What a heap holds: the row in memory is a tree of what was put in. -/
structure Holds (xs R : List (It V)) (n : Int) : Prop where
  tree : Tree xs
  perm : xs.Perm R
  asc : Asc R
  low : ∀ i, i < R.length → (pt R i).turn < n

theorem Holds.len {xs R : List (It V)} {n : Int} (h : Holds xs R n) : xs.length = R.length := h.perm.length_eq

theorem mem_pt {R : List (It V)} {i : Nat} (h : i < R.length) : pt R i ∈ R := by rw [pt_eq h]; exact List.getElem_mem h

theorem exists_pt {R : List (It V)} {x : It V} (h : x ∈ R) : ∃ i, i < R.length ∧ pt R i = x := by
  obtain ⟨i, hi, rfl⟩ := List.getElem_of_mem h
  exact ⟨i, hi, pt_eq hi⟩

theorem Asc.inj {R : List (It V)} (h : Asc R) {i j : Nat} (hi : i < R.length) (hj : j < R.length) (e : (pt R i).turn = (pt R j).turn) : i = j := by
  rcases Nat.lt_trichotomy i j with hl | rfl | hl
  · have := h i j hl hj; omega
  · rfl
  · have := h j i hl hi; omega

/-- The tree's top is the first. -/
theorem Holds.first {xs R : List (It V)} {n : Int} (h : Holds xs R n) (hn : 0 < R.length) : pt xs 0 = pt R (fstTo R R.length) := by
  have hf := fstTo_lt R R.length hn
  have hl := h.len
  obtain ⟨i, hi, he⟩ := exists_pt (h.perm.mem_iff.1 (mem_pt (R := xs) (i := 0) (by omega)))
  obtain ⟨j, hj, hje⟩ := exists_pt (h.perm.mem_iff.2 (mem_pt hf))
  have h1 := fstTo_least h.asc R.length (Nat.le_refl _) i hi
  have h2 := h.tree.top j hj
  rw [hje, ← he] at h2
  have : i = fstTo R R.length := by
    refine h.asc.inj hi hf ?_
    unfold Lt at h1 h2
    omega
  rw [← he, this]

theorem Asc.erase {R : List (It V)} (h : Asc R) (k : Nat) : Asc (R.eraseIdx k) := by
  intro i j hij hj
  have hlen : (R.eraseIdx k).length ≤ R.length := List.length_eraseIdx_le ..
  have e : ∀ m, m < (R.eraseIdx k).length → pt (R.eraseIdx k) m = pt R (if m < k then m else m + 1) := by
    intro m hm
    unfold pt
    rw [List.getD, List.getD, List.getElem?_eraseIdx]
    split <;> rfl
  have hl2 : k < R.length → (R.eraseIdx k).length + 1 = R.length := fun hk => by rw [List.length_eraseIdx, if_pos hk]; omega
  rw [e i (by omega), e j hj]
  by_cases hk : k < R.length
  · have := hl2 hk
    apply h
    · split <;> split <;> omega
    · split <;> omega
  · have : (R.eraseIdx k).length = R.length := by rw [List.length_eraseIdx, if_neg hk]
    apply h
    · split <;> split <;> omega
    · split <;> omega

theorem Asc.snoc {R : List (It V)} {n : Int} (h : Asc R) (hl : ∀ i, i < R.length → (pt R i).turn < n) (x : It V) (hx : x.turn = n) : Asc (R ++ [x]) ∧ ∀ i, i < (R ++ [x]).length → (pt (R ++ [x]) i).turn < n + 1 := by
  have e1 : ∀ i, i < R.length → pt (R ++ [x]) i = pt R i := fun i hi => by unfold pt; rw [List.getD, List.getD, List.getElem?_append_left hi]
  have e2 : pt (R ++ [x]) R.length = x := by unfold pt; simp [List.getD]
  refine ⟨fun i j hij hj => ?_, fun i hi => ?_⟩
  · rw [List.length_append, List.length_singleton] at hj
    by_cases ej : j = R.length
    · rw [ej, e2, e1 i (by omega), hx]
      exact hl i (by omega)
    · rw [e1 j (by omega), e1 i (by omega)]
      exact h i j hij (by omega)
  · rw [List.length_append, List.length_singleton] at hi
    by_cases ei : i = R.length
    · rw [ei, e2, hx]; omega
    · rw [e1 i (by omega)]
      have := hl i (by omega)
      omega

theorem up_snoc {xs : List (It V)} (h : Tree xs) (x : It V) : Up (xs ++ [x]) xs.length := by
  have e1 : ∀ i, i < xs.length → pt (xs ++ [x]) i = pt xs i := fun i hi => by unfold pt; rw [List.getD, List.getD, List.getElem?_append_left hi]
  refine ⟨fun i i0 hi hn => ?_, fun i i0 hi he => ?_⟩
  · rw [List.length_append, List.length_singleton] at hi
    rw [e1 i (by omega), e1 _ (by omega)]
    exact h i i0 (by omega)
  · rw [List.length_append, List.length_singleton] at hi
    omega

/-- A value comes in, and has risen. -/
theorem Holds.push {xs R : List (It V)} {n : Int} (h : Holds xs R n) (x : It V) (hx : x.turn = n) {ys : List (It V)} (ht : Tree ys) (hp : ys.Perm (xs ++ [x])) : Holds ys (R ++ [x]) (n + 1) := by
  obtain ⟨a, b⟩ := h.asc.snoc h.low x hx
  exact ⟨ht, hp.trans (h.perm.append_right _), a, b⟩

/-- The last goes to the top, and sinks. -/
def cut (xs : List (It V)) : List (It V) := (xs.set 0 (pt xs (xs.length - 1))).take (xs.length - 1)

theorem length_cut (xs : List (It V)) : (cut xs).length = xs.length - 1 := by simp [cut]

theorem pt_cut {xs : List (It V)} {i : Nat} (h : i < xs.length - 1) : pt (cut xs) i = if i = 0 then pt xs (xs.length - 1) else pt xs i := by
  unfold cut
  by_cases e : i = 0
  · subst e
    rw [if_pos rfl]
    unfold pt
    simp [List.getD, h]
  · rw [if_neg e]
    unfold pt
    have : ¬ 0 = i := fun q => e q.symm
    rw [List.getD, List.getElem?_take, if_pos h, List.getElem?_set, if_neg this]
    rfl

theorem down_cut {xs : List (It V)} (h : Tree xs) : Down (cut xs) 0 := by
  refine ⟨fun i i0 hi hn => ?_, fun i i0 hi he p0 => by omega⟩
  rw [length_cut] at hi
  rw [pt_cut hi, pt_cut (by omega), if_neg (by omega), if_neg hn]
  exact h i i0 (by omega)

theorem cut_perm {xs : List (It V)} (h : 0 < xs.length) : (pt xs 0 :: cut xs).Perm xs := by
  cases xs with
  | nil => simp at h
  | cons a r =>
    unfold cut pt
    cases hr : r.reverse with
    | nil =>
      have : r = [] := by simpa using congrArg List.reverse hr
      subst this
      simp [List.getD]
    | cons z q =>
      have : r = q.reverse ++ [z] := by simpa using congrArg List.reverse hr
      subst this
      simp [List.getD]
      exact (List.perm_append_singleton z q.reverse).symm

theorem erase_perm {R : List (It V)} {i : Nat} (h : i < R.length) : (pt R i :: R.eraseIdx i).Perm R := by
  rw [List.eraseIdx_eq_take_drop_succ, pt_eq h]
  refine List.perm_middle.symm.trans ?_
  rw [← List.drop_eq_getElem_cons h, List.take_append_drop]

theorem Holds.pop {xs R : List (It V)} {n : Int} (h : Holds xs R n) (hn : 0 < R.length) {ys : List (It V)} (ht : Tree ys) (hp : ys.Perm (cut xs)) : Holds ys (R.eraseIdx (fstTo R R.length)) n := by
  have hf := fstTo_lt R R.length hn
  have hl := h.len
  refine ⟨ht, ?_, h.asc.erase _, fun i hi => ?_⟩
  · have h1 : (pt xs 0 :: ys).Perm R := ((hp.cons _).trans (cut_perm (by omega))).trans h.perm
    have h2 := erase_perm hf
    rw [h.first hn] at h1
    exact (h1.trans h2.symm).cons_inv
  · have hm := List.mem_of_mem_eraseIdx (mem_pt hi)
    obtain ⟨j, hj, e⟩ := exists_pt hm
    rw [← e]
    exact h.low j hj

end Go.Proofs.Ytncniahpglgkmaa.H4

namespace Go.Proofs.Ytncniahpglgkmaa.H4
open Go.RowKit Go.Maps
set_option maxRecDepth 20000

theorem drew3 (w : World) (a b c : Nat) : ∃ n, ((w.drewN a).drewN b).drewN c = w.drewN n := ⟨a + (b + c), by rw [World.drewN_drewN, World.drewN_drewN]⟩

end Go.Proofs.Ytncniahpglgkmaa.H4

