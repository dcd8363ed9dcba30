import Derived.Test.YtjdgeonlbjokaaaGTtw
import Derived.Test.YtjdgeonlbjokaaaGEx
import Derived.Test.YtjdgeonlbjokaaaGMn
import Derived.Test.YtjdgeonlbjokaaaGBn
import Derived.Test.YtjdgeonlbjokaaaGLnb
import Derived.Test.YtjdgeonlbjokaaaGTby
import Derived.Test.YtjdgeonlbjokaaaGTaw
import Derived.BigQuiet
import Derived.Deep.DeepCutAuto
import Derived.Deep.RegionWith
namespace Go.Proofs.Ytjdgeonlbjokaaa
open Go.RowKit Go.Maps
set_option maxRecDepth 20000
set_option linter.unusedVariables false

/-- Lists of tokens and lists of bytes in new memory, no two in one block. -/
structure Sq (w0 w : World) (ts : List (Value × List Tk)) (bs : List (Value × List Int)) : Prop where
  low : Below w0.heap.size w0 w
  ot : ∀ (j : Nat) (p : Value × List Tk), ts[j]? = some p → OK w w0.heap.size p.1 p.2
  ob : ∀ (j : Nat) (p : Value × List Int), bs[j]? = some p → OB w w0.heap.size p.1 p.2
  st : ∀ (i j : Nat) (p q : Value × List Tk), ts[i]? = some p → ts[j]? = some q → i ≠ j → ∀ k, p.1.ownBlock = some k → q.1.ownBlock ≠ some k
  sb : ∀ (i j : Nat) (p q : Value × List Int), bs[i]? = some p → bs[j]? = some q → i ≠ j → ∀ k, p.1.ownBlock = some k → q.1.ownBlock ≠ some k
  tb : ∀ (i j : Nat) (p : Value × List Tk) (q : Value × List Int), ts[i]? = some p → bs[j]? = some q → ∀ k, p.1.ownBlock = some k → q.1.ownBlock ≠ some k

theorem Sq.nil (w : World) : Sq w w [] [] := ⟨Below.refl _ _, fun j p h => by simp at h, fun j p h => by simp at h, fun i j p q h => by simp at h, fun i j p q h => by simp at h, fun i j p q h => by simp at h⟩

theorem Sq.go {w0 w w' : World} {ts : List (Value × List Tk)} {bs : List (Value × List Int)} (h : Sq w0 w ts bs) (hb : Below w.heap.size w w') : Sq w0 w' ts bs :=
  ⟨h.low.trans (hb.mono h.low.size), fun j p hp => (h.ot j p hp).below hb (Nat.le_refl _), fun j p hp => (h.ob j p hp).below hb (Nat.le_refl _), h.st, h.sb, h.tb⟩

theorem getElem?_snoc {α : Type} {l : List α} {a x : α} {j : Nat} (h : (l ++ [a])[j]? = some x) : l[j]? = some x ∨ (j = l.length ∧ x = a) := by
  by_cases q : j < l.length
  · rw [List.getElem?_append_left q] at h; exact .inl h
  · rw [List.getElem?_append_right (by omega)] at h
    by_cases e : j - l.length = 0
    · rw [e] at h; simp at h; exact .inr ⟨by omega, h.symm⟩
    · rw [List.getElem?_eq_none (by simp; omega)] at h; simp at h

theorem Sq.addT {w0 w w' : World} {ts : List (Value × List Tk)} {bs : List (Value × List Int)} {u : Value} {L : List Tk} (h : Sq w0 w ts bs) (hb : Below w.heap.size w w') (ho : OK w' w.heap.size u L) : Sq w0 w' (ts ++ [(u, L)]) bs := by
  have hs := h.low.size
  have g := h.go hb
  refine ⟨g.low, fun j p hp => ?_, g.ob, fun i j p q hp hq hij k hk => ?_, g.sb, fun i j p q hp hq k hk => ?_⟩
  · rcases getElem?_snoc hp with r | ⟨_, rfl⟩
    · exact g.ot j p r
    · exact ho.base hs
  · rcases getElem?_snoc hp with r | ⟨ri, rfl⟩ <;> rcases getElem?_snoc hq with t | ⟨tj, rfl⟩
    · exact h.st i j p q r t hij k hk
    · intro e
      have h1 := ((h.ot i p r).lt k hk).2
      have h2 := (ho.lt k e).1
      omega
    · intro e
      have h1 := ((h.ot j q t).lt k e).2
      have h2 := (ho.lt k hk).1
      omega
    · omega
  · rcases getElem?_snoc hp with r | ⟨ri, rfl⟩
    · exact h.tb i j p q r hq k hk
    · intro e
      have h1 := ((h.ob j q hq).lt k e).2
      have h2 := (ho.lt k hk).1
      omega

theorem Sq.addB {w0 w w' : World} {ts : List (Value × List Tk)} {bs : List (Value × List Int)} {u : Value} {L : List Int} (h : Sq w0 w ts bs) (hb : Below w.heap.size w w') (ho : OB w' w.heap.size u L) : Sq w0 w' ts (bs ++ [(u, L)]) := by
  have hs := h.low.size
  have g := h.go hb
  refine ⟨g.low, g.ot, fun j p hp => ?_, g.st, fun i j p q hp hq hij k hk => ?_, fun i j p q hp hq k hk => ?_⟩
  · rcases getElem?_snoc hp with r | ⟨_, rfl⟩
    · exact g.ob j p r
    · exact ho.base hs
  · rcases getElem?_snoc hp with r | ⟨ri, rfl⟩ <;> rcases getElem?_snoc hq with t | ⟨tj, rfl⟩
    · exact h.sb i j p q r t hij k hk
    · intro e
      have h1 := ((h.ob i p r).lt k hk).2
      have h2 := (ho.lt k e).1
      omega
    · intro e
      have h1 := ((h.ob j q t).lt k e).2
      have h2 := (ho.lt k hk).1
      omega
    · omega
  · rcases getElem?_snoc hq with r | ⟨ri, rfl⟩
    · exact h.tb i j p q hp r k hk
    · intro e
      have h1 := ((h.ot i p hp).lt k hk).2
      have h2 := (ho.lt k e).1
      omega

/-- A row of three lists of bytes. -/
theorem Sq.lists3B {w0 w : World} {ts : List (Value × List Tk)} {bs : List (Value × List Int)} (h : Sq w0 w ts bs) {n : Nat} {v1 v2 v3 : Value} {l1 l2 l3 : List Int} (h1 : bs[n]? = some (v1, l1)) (h2 : bs[n + 1]? = some (v2, l2)) (h3 : bs[n + 2]? = some (v3, l3))
    (hl : l1.length ≤ 100000000000000 ∧ l2.length ≤ 100000000000000 ∧ l3.length ≤ 100000000000000) {O : Obj} (hO : ∀ (W : World), W.heap[w.heap.size]? = some O → W.cell? ⟨w.heap.size, 0, none⟩ = some v1 ∧ W.cell? ⟨w.heap.size, 1, none⟩ = some v2 ∧ W.cell? ⟨w.heap.size, 2, none⟩ = some v3) :
    ListsB (w.alloc O) w0.heap.size [(v1, l1), (v2, l2), (v3, l3)] w.heap.size := by
  have hal := heap_alloc_new w O
  obtain ⟨c1, c2, c3⟩ := hO _ hal
  have g := h.go ((Below.refl _ _).alloc (Nat.le_refl _) O)
  have hi : ∀ (j : Nat) (p : Value × List Int), ([(v1, l1), (v2, l2), (v3, l3)] : List (Value × List Int))[j]? = some p → bs[n + j]? = some p := fun j p hp => by
    rcases j with _ | _ | _ | j
    · simp only [List.getElem?_cons_zero, Option.some.injEq] at hp; rw [← hp]; exact h1
    · simp only [List.getElem?_cons_succ, List.getElem?_cons_zero, Option.some.injEq] at hp; rw [← hp]; exact h2
    · simp only [List.getElem?_cons_succ, List.getElem?_cons_zero, Option.some.injEq] at hp; rw [← hp]; exact h3
    · simp at hp
  refine ⟨fun j p hp => g.ob _ p (hi j p hp), fun i j p q hp hq hij => g.sb _ _ p q (hi i p hp) (hi j q hq) (by omega), fun j p hp => ?_, fun p hp e => ?_, by simp, fun p hp => ?_, by have := h.low.size; rw [size_alloc']; omega⟩
  · rcases j with _ | _ | _ | j
    · simp only [List.getElem?_cons_zero, Option.some.injEq] at hp; rw [← hp]; exact c1
    · simp only [List.getElem?_cons_succ, List.getElem?_cons_zero, Option.some.injEq] at hp; rw [← hp]; exact c2
    · simp only [List.getElem?_cons_succ, List.getElem?_cons_zero, Option.some.injEq] at hp; rw [← hp]; exact c3
    · simp at hp
  · obtain ⟨j, hj⟩ := List.getElem?_of_mem hp
    have := ((h.ob _ p (hi j p hj)).lt _ e).2
    omega
  · simp only [List.mem_cons, List.not_mem_nil, or_false] at hp
    rcases hp with rfl | rfl | rfl
    · exact hl.1
    · exact hl.2.1
    · exact hl.2.2

/-- A row of three lists of tokens. -/
theorem Sq.lists3T {w0 w : World} {ts : List (Value × List Tk)} {bs : List (Value × List Int)} (h : Sq w0 w ts bs) {n : Nat} {v1 v2 v3 : Value} {l1 l2 l3 : List Tk} (h1 : ts[n]? = some (v1, l1)) (h2 : ts[n + 1]? = some (v2, l2)) (h3 : ts[n + 2]? = some (v3, l3))
    (hl : l1.length ≤ 5000000000000 ∧ l2.length ≤ 5000000000000 ∧ l3.length ≤ 5000000000000) {O : Obj} (hO : ∀ (W : World), W.heap[w.heap.size]? = some O → W.cell? ⟨w.heap.size, 0, none⟩ = some v1 ∧ W.cell? ⟨w.heap.size, 1, none⟩ = some v2 ∧ W.cell? ⟨w.heap.size, 2, none⟩ = some v3) :
    Lists (w.alloc O) w0.heap.size [(v1, l1), (v2, l2), (v3, l3)] w.heap.size := by
  have hal := heap_alloc_new w O
  obtain ⟨c1, c2, c3⟩ := hO _ hal
  have g := h.go ((Below.refl _ _).alloc (Nat.le_refl _) O)
  have hi : ∀ (j : Nat) (p : Value × List Tk), ([(v1, l1), (v2, l2), (v3, l3)] : List (Value × List Tk))[j]? = some p → ts[n + j]? = some p := fun j p hp => by
    rcases j with _ | _ | _ | j
    · simp only [List.getElem?_cons_zero, Option.some.injEq] at hp; rw [← hp]; exact h1
    · simp only [List.getElem?_cons_succ, List.getElem?_cons_zero, Option.some.injEq] at hp; rw [← hp]; exact h2
    · simp only [List.getElem?_cons_succ, List.getElem?_cons_zero, Option.some.injEq] at hp; rw [← hp]; exact h3
    · simp at hp
  refine ⟨fun j p hp => g.ot _ p (hi j p hp), fun i j p q hp hq hij => g.st _ _ p q (hi i p hp) (hi j q hq) (by omega), fun j p hp => ?_, fun p hp e => ?_, by simp, fun p hp => ?_, by have := h.low.size; rw [size_alloc']; omega⟩
  · rcases j with _ | _ | _ | j
    · simp only [List.getElem?_cons_zero, Option.some.injEq] at hp; rw [← hp]; exact c1
    · simp only [List.getElem?_cons_succ, List.getElem?_cons_zero, Option.some.injEq] at hp; rw [← hp]; exact c2
    · simp only [List.getElem?_cons_succ, List.getElem?_cons_zero, Option.some.injEq] at hp; rw [← hp]; exact c3
    · simp at hp
  · obtain ⟨j, hj⟩ := List.getElem?_of_mem hp
    have := ((h.ot _ p (hi j p hj)).lt _ e).2
    omega
  · simp only [List.mem_cons, List.not_mem_nil, or_false] at hp
    rcases hp with rfl | rfl | rfl
    · exact hl.1
    · exact hl.2.1
    · exact hl.2.2

/-- Behind what wrote into some of the lists of bytes: the lists of tokens are as they were. -/
theorem Sq.keptT {w0 w W w' : World} {ts : List (Value × List Tk)} {bs ls : List (Value × List Int)} (h : Sq w0 w ts bs) (hW : Below w.heap.size w W) (hk : KeepB ls W w') (hin : ∀ p ∈ ls, p ∈ bs) : Sq w0 w' ts [] := by
  have hs := h.low.size
  have hw := hW.size
  have hno : ∀ k, k < w0.heap.size → ∀ p ∈ ls, p.1.ownBlock ≠ some k := fun k hk' p hp e => by
    obtain ⟨j, hj⟩ := List.getElem?_of_mem (hin p hp)
    have := ((h.ob j p hj).lt k e).1
    omega
  refine ⟨⟨hk.os.trans (hW.os.trans h.low.os), hk.tape.trans (hW.tape.trans h.low.tape), hk.output.trans (hW.output.trans h.low.output), Nat.le_trans hs (Nat.le_trans hw hk.size), fun k hk' => ?_⟩, fun j p hp => ?_, fun j p h => by simp at h, h.st, fun i j p q h => by simp at h, fun i j p q _ h => by simp at h⟩
  · rw [hk.block k (by omega) (fun p hp e => hno k hk' p hp e), hW.block k (by omega)]
    exact h.low.block k hk'
  · refine (h.ot j p hp).move fun k hk' => ?_
    have hl := ((h.ot j p hp).lt k hk').2
    rw [hk.block k (by omega) (fun q hq e => ?_), hW.block k hl]
    obtain ⟨i, hi⟩ := List.getElem?_of_mem (hin q hq)
    exact h.tb j i p q hp hi k hk' e

theorem Sq.belowT {w0 w W w' : World} {ts ls : List (Value × List Tk)} {bs : List (Value × List Int)} (h : Sq w0 w ts bs) (hW : Below w.heap.size w W) (hk : Keep ls W w') (hin : ∀ p ∈ ls, p ∈ ts) : Below w0.heap.size w0 w' := by
  have hs := h.low.size
  have hw := hW.size
  refine ⟨hk.os.trans (hW.os.trans h.low.os), hk.tape.trans (hW.tape.trans h.low.tape), hk.output.trans (hW.output.trans h.low.output), Nat.le_trans hs (Nat.le_trans hw hk.size), fun k hk' => ?_⟩
  rw [hk.block k (by omega) (fun p hp e => ?_), hW.block k (by omega)]
  · exact h.low.block k hk'
  · obtain ⟨j, hj⟩ := List.getElem?_of_mem (hin p hp)
    have := ((h.ot j p hj).lt k e).1
    omega
end Go.Proofs.Ytjdgeonlbjokaaa

