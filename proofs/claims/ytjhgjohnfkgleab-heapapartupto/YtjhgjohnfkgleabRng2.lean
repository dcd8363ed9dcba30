import Derived.Test.YtjhgjohnfkgleabDrn
import Derived.Maps.OwnIn
namespace Go.Proofs.Ytjhgjohnfkgleab
open Go.RowKit Go.Shelf
set_option maxRecDepth 20000

/-- A herd with the record of a loop over an iterator, and the block for what its rounds defer. -/
def InH (W0 : World) (d l : Nat) (Q : List ((Nat → Nat) × Thing) → Prop) (o : Obj) (W : World) : Prop :=
  ∃ xs Kd Kl, Q xs ∧ Herd W0 W (xs ++ [(Kd, tb d (.deferred (some []))), (Kl, tb l o)])

theorem get_two {α : Type} (xs : List α) (a b : α) : (xs ++ [a, b])[xs.length]? = some a ∧ (xs ++ [a, b])[xs.length + 1]? = some b := by
  constructor
  · simp
  · rw [List.getElem?_append_right (by omega)]
    simp

theorem set_two {α : Type} (xs : List α) (a b c : α) : (xs ++ [a, b]).set (xs.length + 1) c = xs ++ [a, c] := by
  rw [List.set_append_right _ _ (by omega)]
  simp

theorem Herd.putB {W w : World} {xs : List ((Nat → Nat) × Thing)} (H : Herd W w xs) (i : Nat) {B : Nat → Nat} {g : Nat} {o : Obj} (hi : xs[i]? = some (B, tb g o)) (o' : Obj) : Herd W (w.putObj g o') (xs.set i (B, tb g o')) := by
  have h : (tb g o).P w B := H.rep i _ hi
  have hg : w.heap[g]? = some o := h.1
  have hlt := heap_lt hg
  have hz : (w.putObj g o').heap.size = w.heap.size := by simp [World.putObj]
  refine H.op i hi (x' := tb g o') ⟨?_, h.2.1, fun k hk => ?_⟩ ⟨rfl, rfl, rfl, by omega, fun k _ h0 => ?_, fun _ _ => rfl⟩
  · simp [World.putObj, hlt]
  · rw [hz]; exact h.2.2 k hk
  · have hne : g ≠ k := fun e => h.2.1 (by rw [e]; exact h0)
    simp [World.putObj, hne]

theorem InH.rec (W0 : World) (d l : Nat) (Q : List ((Nat → Nat) × Thing) → Prop) : Rec l (InH W0 d l Q) := by
  refine ⟨fun o W ⟨xs, Kd, Kl, _, H⟩ => H.at_tb _ (get_two xs _ _).2, fun o o' W ⟨xs, Kd, Kl, q, H⟩ => ⟨xs, Kd, Kl, q, ?_⟩⟩
  have := H.putB _ (get_two xs _ _).2 o'
  rwa [set_two] at this

theorem InH.start {W0 w : World} {xs : List ((Nat → Nat) × Thing)} {Q : List ((Nat → Nat) × Thing) → Prop} (H : Herd W0 w xs) (q : Q xs) (o : Obj) : InH W0 w.heap.size (w.heap.size + 1) Q o ((w.alloc (.deferred (some []))).alloc o) := by
  obtain ⟨Kd, H1⟩ := H.box (.deferred (some []))
  obtain ⟨Kl, H2⟩ := H1.box o
  rw [size_alloc', List.append_assoc] at H2
  exact ⟨xs, Kd, Kl, q, H2⟩

theorem Herd.setB {W w : World} {xs : List ((Nat → Nat) × Thing)} (H : Herd W w xs) (i : Nat) {B : Nat → Nat} {g : Nat} {cs : Array Value} {t : TypeId} (hi : xs[i]? = some (B, tb g (.cells cs t))) (k : Nat) (u : Value) : Herd W (w.setCell ⟨g, k, none⟩ u) (xs.set i (B, tb g (.cells (cs.setIfInBounds k u) t))) := by
  have h : (tb g (.cells cs t)).P w B := H.rep i _ hi
  refine H.op i hi (x' := tb g _) ⟨heap_setCell_at u h.1, h.2.1, fun k hk => ?_⟩ ⟨rfl, rfl, rfl, by rw [size_setCell]; exact Nat.le_refl _, fun k _ h0 => ?_, fun _ _ => rfl⟩
  · rw [size_setCell]; exact h.2.2 k hk
  · exact setCell_others _ _ _ _ _ (fun e => h.2.1 (by rw [← e]; exact h0))

/-- A list of the herd, one longer. -/
theorem Herd.appI {W w w' : World} {xs : List ((Nat → Nat) × Thing)} (H : Herd W w xs) (i : Nat) {K : Nat → Nat} {v v' : Value} {l : List Int} {x : Int} (hi : xs[i]? = some (K, tl v l)) {o : Obj}
    (hown : w'.ownsRow 0 3 1 v' (l.length + 1) (l.map (Value.int .i64) ++ [.int .i64 x])) (hgrow : (w.alloc o).grownBy w' v.ownBlock) (hat : v'.ownBlock = v.ownBlock ∨ v'.ownBlock = some (w.heap.size + 1)) : ∃ K', Herd W w' (xs.set i (K', tl v' (l ++ [x]))) := by
  have h : (tl v l).P w K := H.rep i _ hi
  have hs := hgrow.size
  rw [size_alloc'] at hs
  have hlt : ∀ k, v'.ownBlock = some k → k < w'.heap.size := row_lt hown
  refine ⟨fun k => if k < w.heap.size then K k else if v'.ownBlock = some k then 1 else 0, H.op i hi (x' := tl v' (l ++ [x])) ⟨?_, fun k hk => ?_, fun k hk => ?_⟩ ⟨hgrow.os, hgrow.tape, hgrow.output, by omega, fun k hk h0 => ?_, fun k hk => by simp only [if_pos hk]⟩⟩
  · unfold OI; rw [List.length_append, List.map_append]; exact hown
  · by_cases hkl : k < w.heap.size
    · simp only [if_pos hkl]
      rcases hat with e | e
      · exact h.2.1 k (e.symm.trans hk)
      · rw [hk] at e; simp at e; omega
    · simp [hkl, hk]
  · by_cases hkl : k < w.heap.size
    · omega
    · simp only [if_neg hkl] at hk
      by_cases e : v'.ownBlock = some k
      · exact hlt k e
      · simp [e] at hk
  · rw [hgrow.block k (by rw [size_alloc']; omega) (fun e => h.2.1 k e.symm h0)]
    exact Below.heap_alloc _ _ k hk

theorem wpListIn_int {F : Fence} {nF : Nat} {W w : World} {ops : Array Oper} {rest : List Oper} {o : Oper} {a : Act} {Q : Exit → Act → World → Prop} (hgd : o.guard = none) (s x : Operand)
    (ho : o.op = .call { callee := .builtin .append, args := #[s, x], argTypes := #[22, 22] }) {xs : List ((Nat → Nat) × Thing)} (H : Herd W w xs) (i : Nat) {K : Nat → Nat} {v : Value} {l : List Int} (hi : xs[i]? = some (K, tl v l)) (y : Int)
    (c : Nat) (hs : a.eval s = v) (hx : a.eval x = .slice (some ⟨w.heap.size, 0, none⟩) 1 c) (hn : l.length ≤ 10000000000000)
    (h : ∀ ad cap w' K', Herd W w' (xs.set i (K', tl (.slice ad (l.length + 1) cap) (l ++ [y]))) → wpListIn F nF Try.prog ops Q rest (a.put o.dst (.slice ad (l.length + 1) cap)) w') :
    wpListIn F nF Try.prog ops Q (o :: rest) a (w.alloc (.cells #[.int .i64 y] 3)) := by
  obtain ⟨i0, hi0, hz0, hz1, hz2⟩ := info_parts infoInt
  have hp : (tl v l).P w K := H.rep i _ hi
  have hr : w.ownsRow 0 3 1 v l.length (l.map (Value.int .i64)) := hp.1
  refine wpListIn_append_own_at _ hgd s x 22 ho 0 3 i0 _ 1 8 Try.underlying22 hi0 hz0 hz1 hz2 rfl (by omega) v l.length _ hs (hr.alloc _) ⟨w.heap.size, 0, none⟩ 1 c [.int .i64 y] hx rfl (World.news_of_block (cs := #[.int .i64 y]) (t := 3) (fr := (0, 0)) (heap_alloc_new w _)) (fun u hu => by rw [List.mem_singleton.1 hu]; rfl) (by unfold maxLen; omega) (by omega) (Nat.zero_le _) ?_
  intro v' w' hown hgrow _ hat
  rw [size_alloc'] at hat
  obtain ⟨K', H'⟩ := H.appI i hi hown hgrow hat
  obtain ⟨ad, cap, rfl⟩ := row_shape hown
  exact h ad cap w' K' H'

theorem wpList_int {W w : World} {ops : Array Oper} {rest : List Oper} {o : Oper} {a : Act} {Q : Exit → Act → World → Prop} (hgd : o.guard = none) (s x : Operand)
    (ho : o.op = .call { callee := .builtin .append, args := #[s, x], argTypes := #[22, 22] }) {xs : List ((Nat → Nat) × Thing)} (H : Herd W w xs) (i : Nat) {K : Nat → Nat} {v : Value} {l : List Int} (hi : xs[i]? = some (K, tl v l)) (y : Int)
    (c : Nat) (hs : a.eval s = v) (hx : a.eval x = .slice (some ⟨w.heap.size, 0, none⟩) 1 c) (hn : l.length ≤ 10000000000000)
    (h : ∀ ad cap w' K', Herd W w' (xs.set i (K', tl (.slice ad (l.length + 1) cap) (l ++ [y]))) → wpList Try.prog ops Q rest (a.put o.dst (.slice ad (l.length + 1) cap)) w') :
    wpList Try.prog ops Q (o :: rest) a (w.alloc (.cells #[.int .i64 y] 3)) := by
  obtain ⟨i0, hi0, hz0, hz1, hz2⟩ := info_parts infoInt
  have hp : (tl v l).P w K := H.rep i _ hi
  have hr : w.ownsRow 0 3 1 v l.length (l.map (Value.int .i64)) := hp.1
  refine wpList_append_lies _ hgd s x 22 ho 0 3 i0 _ 1 8 Try.underlying22 hi0 hz0 hz1 hz2 rfl (by omega) v l.length _ hs (hr.alloc _) ⟨w.heap.size, 0, none⟩ 1 c [.int .i64 y] hx rfl (World.news_of_block (cs := #[.int .i64 y]) (t := 3) (fr := (0, 0)) (heap_alloc_new w _)) (fun u hu => by rw [List.mem_singleton.1 hu]; rfl) (by omega) (by unfold maxLen; omega) (by omega) (Nat.zero_le _) (w.heap.size + 1) (size_alloc' _ _) ?_
  intro g cap w' hown hgrow hat hlt
  obtain ⟨K', H'⟩ := H.appI i hi hown hgrow (hat.elim (fun e => .inl (by rw [e]; rfl)) (fun e => .inr (by rw [e]; rfl)))
  exact h _ cap w' K' H'

/-- A list that was just made. -/
theorem Herd.list {W w w' : World} {xs : List ((Nat → Nat) × Thing)} (h : Herd W w xs) (hb : Below w.heap.size w w') {v : Value} {l : List Int} (ho : OI w' w.heap.size v l) : ∃ K, Herd W w' (xs ++ [(K, tl v l)]) := by
  refine ⟨fun k => if v.ownBlock = some k then 1 else 0, h.push hb ⟨ho.base (Nat.zero_le _), fun k hk => by simp [hk], fun k hk => ?_⟩ fun k hk => ?_⟩
  · by_cases e : v.ownBlock = some k
    · exact (ho.lt k e).2
    · simp [e] at hk
  · by_cases e : v.ownBlock = some k
    · exact (ho.lt k e).1
    · simp [e] at hk

theorem Herd.oi {W w : World} {xs : List ((Nat → Nat) × Thing)} (H : Herd W w xs) (i : Nat) {K : Nat → Nat} {v : Value} {l : List Int} (hi : xs[i]? = some (K, tl v l)) : OI w W.heap.size v l := by
  have h : (tl v l).P w K := H.rep i _ hi
  have hr : w.ownsRow 0 3 1 v l.length (l.map (Value.int .i64)) := h.1
  refine ⟨hr.1, ?_⟩
  rcases hr.2 with h2 | ⟨g, cap, cur, rfl, h1, r⟩
  · exact .inl h2
  · exact .inr ⟨g, cap, cur, rfl, H.up i _ hi g (h.2.1 g rfl), r⟩

end Go.Proofs.Ytjhgjohnfkgleab
