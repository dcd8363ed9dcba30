import Derived.Test.YtcgeaidegppiaaaDoorGA23
import Derived.Test.YtcgeaidegppiaaaDoorGA08
namespace Go.Proofs.YtcgeaidegppiaaaDoor
open Go.RowKit Go.Maps
set_option maxRecDepth 20000

/-- A list, and what was appended to it. -/
def tii (v : Value) (l : List Int) (u : Value) (r : List Int) : Thing :=
  ⟨fun w K => (OI w 0 v l ∧ OI w 0 u r) ∧ ((∀ k, v.ownBlock = some k → K k ≠ 0) ∧ ∀ k, u.ownBlock = some k → K k ≠ 0) ∧ ∀ k, K k ≠ 0 → k < w.heap.size,
   fun h a b => ⟨⟨h.1.1.move fun k hk => b k (h.2.1.1 k hk), h.1.2.move fun k hk => b k (h.2.1.2 k hk)⟩, h.2.1, fun k hk => Nat.lt_of_lt_of_le (h.2.2 k hk) a⟩, fun h => h.2.2⟩

theorem Herd.grow2 {W w w' : World} {xs : List ((Nat → Nat) × Thing)} (H : Herd W w xs) (i : Nat) {K : Nat → Nat} {v v' : Value} {l l' : List Int} (hi : xs[i]? = some (K, ti v l)) {o : Obj} (ho : OI w' 0 v' l') (hk0 : OI w' 0 v l) (hg : Grew (w.alloc o) w' v v') : ∃ K', Herd W w' (xs.set i (K', tii v l v' l')) := by
  have hp : (ti v l).P w K := H.rep i _ hi
  have hs : w.heap.size ≤ w'.heap.size := by have := hg.by.size; rw [size_alloc'] at this; omega
  refine ⟨fun k => if k < w.heap.size then K k else if v'.ownBlock = some k then 1 else 0, H.op i hi (x' := tii v l v' l') ⟨⟨hk0, ho⟩, ⟨fun k hk => ?_, fun k hk => ?_⟩, fun k hk => ?_⟩ ⟨hg.by.os, hg.by.tape, hg.by.output, hs, fun k hk h0 => ?_, fun k hk => by simp [hk]⟩⟩
  · have c : k < w.heap.size := (hp.1.lt k hk).2
    simp only [c, if_true]
    exact hp.2.1 k hk
  · by_cases c : k < w.heap.size
    · simp only [c, if_true]
      rcases hg.at with e | e
      · rw [e, size_alloc'] at hk
        simp at hk
        omega
      · exact hp.2.1 k (by rw [← e]; exact hk)
    · simp [c, hk]
  · by_cases c : k < w.heap.size
    · omega
    · simp only [c, if_false] at hk
      by_cases e : v'.ownBlock = some k
      · exact (ho.lt k e).2
      · simp [e] at hk
  · have hne : some k ≠ v.ownBlock := fun e => hp.2.1 k e.symm h0
    rw [hg.by.block k (by rw [size_alloc']; omega) hne]
    exact Below.heap_alloc w o k hk

theorem Herd.weak {W w : World} {xs : List ((Nat → Nat) × Thing)} (H : Herd W w xs) (i : Nat) {K : Nat → Nat} {v u : Value} {l r : List Int} (hi : xs[i]? = some (K, tii v l u r)) : Herd W w (xs.set i (K, ti v l)) := by
  have hp : (tii v l u r).P w K := H.rep i _ hi
  exact H.op i hi (x' := ti v l) ⟨hp.1.1, hp.2.1.1, hp.2.2⟩ (Fr.refl _ _)

theorem set_get {α : Type} (xs : List α) {i : Nat} (a : α) (h : i < xs.length) : (xs.set i a)[i]? = some a := by rw [List.getElem?_set, if_pos rfl, if_pos h]

theorem set_get_ne {α : Type} (xs : List α) {i j : Nat} (a : α) (h : i ≠ j) : (xs.set i a)[j]? = xs[j]? := by rw [List.getElem?_set, if_neg h]

theorem rep_get (n : Nat) (m : Int) {k : Nat} (h : k < n) : (List.replicate n m).getD k 0 = m := by simp [List.getD, h]

theorem rep_last (n : Nat) (m x : Int) : (List.replicate n m ++ [x]).getD n 0 = x := by simp [List.getD]

theorem OI.capc {w : World} {base : Nat} {a : Option Addr} {n c : Nat} {l : List Int} (h : OI w base (.slice a n c) l) : n = l.length ∧ l.length ≤ c ∧ c ≤ 9223372036854775807 := by
  obtain ⟨_, _, e1, e2, e3⟩ := h.sb.open
  simp only [Value.slice.injEq] at e1
  obtain ⟨-, e4, rfl⟩ := e1
  exact ⟨e4, e2, e3⟩

end Go.Proofs.YtcgeaidegppiaaaDoor

namespace Go.Proofs.YtcgeaidegppiaaaDoor
open Go.RowKit Go.Maps
set_option maxRecDepth 20000

theorem usum_succ {l : List Int} {k : Nat} (h : k < l.length) : usum (l.take (k + 1)) = usum (l.take k) + wt (l.getD k 0) ∧ tsum (l.take (k + 1)) = tsum (l.take k) + one (l.getD k 0) := by
  have e : l.getD k 0 = l[k] := by simp [h]
  rw [List.take_succ_eq_append_getElem h, e]
  unfold usum tsum
  rw [List.map_append, List.map_append, List.sum_append, List.sum_append]
  simp

theorem sum_bound {l : List Int} (hl : Lens l) (k : Nat) : usum (l.take k) ≤ 288 * 16384 ∧ tsum (l.take k) ≤ 288 := by
  have h1 : Lens (l.take k) := ⟨by rw [List.length_take]; have := hl.1; omega, fun x hx => hl.2 x (List.mem_of_mem_take hx)⟩
  have h2 := us_bound h1
  rw [us_sum h1.2] at h2
  have h3 := sh_le (l.take k) 16
  rw [sh_sum h1.2] at h3
  exact ⟨h2, Nat.le_trans h3 h1.1⟩

/-- The document's words so far: all of the shorter lengths, of this length those ahead. -/
def outN (l : List Int) (n s : Nat) : List Int := (List.range l.length).map fun t => if 0 < ln l t ∧ (ln l t < n ∨ (ln l t = n ∧ t < s)) then (wd l t : Int) else 0

theorem outN_len (l : List Int) (n s : Nat) : (outN l n s).length = l.length := by simp [outN]

theorem outN_start (l : List Int) : outN l 1 0 = List.replicate l.length 0 := by
  apply List.ext_getElem
  · simp [outN]
  · intro i h1 h2
    simp only [outN, List.getElem_map, List.getElem_range, List.getElem_replicate]
    rw [if_neg (by omega)]

theorem outN_skip {l : List Int} {n s : Nat} (h : ln l s ≠ n) : outN l n (s + 1) = outN l n s := by
  unfold outN
  apply List.map_congr_left
  intro t _
  by_cases e : t = s
  · subst e
    by_cases c : 0 < ln l t ∧ (ln l t < n ∨ (ln l t = n ∧ t < t))
    · rw [if_pos c, if_pos (by omega)]
    · rw [if_neg c, if_neg (by omega)]
  · by_cases c : 0 < ln l t ∧ (ln l t < n ∨ (ln l t = n ∧ t < s))
    · rw [if_pos c, if_pos (by omega)]
    · rw [if_neg c, if_neg (by omega)]

theorem outN_step {l : List Int} {n s : Nat} (h : ln l s = n) (h0 : 0 < n) : outN l n (s + 1) = (outN l n s).set s (wd l s : Int) := by
  apply List.ext_getElem
  · simp [outN]
  · intro t h1 h2
    rw [List.getElem_set]
    simp only [outN, List.getElem_map, List.getElem_range]
    by_cases e : s = t
    · subst e
      rw [if_pos (by omega), if_pos rfl]
    · rw [if_neg e]
      by_cases c : 0 < ln l t ∧ (ln l t < n ∨ (ln l t = n ∧ t < s))
      · rw [if_pos c, if_pos (by omega)]
      · rw [if_neg c, if_neg (by omega)]

theorem outN_next {l : List Int} {n : Nat} : outN l (n + 1) 0 = outN l n l.length := by
  unfold outN
  apply List.map_congr_left
  intro t ht
  have ht' : t < l.length := List.mem_range.1 ht
  by_cases c : 0 < ln l t ∧ (ln l t < n ∨ (ln l t = n ∧ t < l.length))
  · rw [if_pos c, if_pos (by omega)]
  · rw [if_neg c, if_neg (by omega)]

theorem outN_end {l : List Int} (hl : Lens l) : outN l 16 0 = wds l := by
  unfold outN wds
  apply List.map_congr_left
  intro t _
  have := (hl.ln t).2
  by_cases c : 0 < ln l t
  · rw [if_pos (by omega)]
  · rw [if_neg (by omega)]
    have : ln l t = 0 := by omega
    simp [wd, this]

def Xst (w : World) (l : List Int) (n s : Nat) (wr : World) : Prop := wr.heap[w.heap.size]? = some (.cells ((outN l n s).map (Value.int .i64)).toArray 3 (0, 0)) ∧ Below w.heap.size w wr

theorem Xst.step {w wr : World} {l : List Int} {n s : Nat} (h : Xst w l n s wr) (hn : ln l s = n) (h0 : 0 < n) (x : Int) (hx : x = (wd l s : Int)) : Xst w l n (s + 1) (wr.setCell ⟨w.heap.size, s, none⟩ (.int .i64 x)) :=
  ⟨by rw [heap_setCell_same _ _ _ _ _ _ h.1, map_set, outN_step hn h0, hx], h.2.setCell (by show _ ≤ w.heap.size; omega) _⟩

theorem wd_at {l : List Int} (hl : Lens l) {s n : Nat} (hn : ln l s = n) (h0 : 0 < n) : wd l s = fi l n + (l.take s).count (n : Int) := by
  unfold wd rk
  rw [if_neg (by omega), (hl.ln s).1, hn]

end Go.Proofs.YtcgeaidegppiaaaDoor

