import Derived.Test.YtknjblgnjoocbaaDoorGOwx
namespace Go.Proofs.YtknjblgnjoocbaaDoor
open Go.RowKit Go.Maps
set_option maxRecDepth 20000
set_option linter.unusedVariables false
set_option linter.unusedSimpArgs false

/-- Lists of numbers in blocks of their own (or nil), all of them new memory. -/
structure OwI (w0 W : World) (ls : List (Value × List Int)) : Prop where
  bel : Below w0.heap.size w0 W
  sl : ∀ (i : Nat) (v : Value) (l : List Int), ls[i]? = some (v, l) → OI W w0.heap.size v l
  nn : ∀ (i j : Nat) (v u : Value) (l m : List Int), ls[i]? = some (v, l) → ls[j]? = some (u, m) → i ≠ j → ∀ k, v.ownBlock = some k → u.ownBlock ≠ some k

theorem last_ofI {α : Type} {l : List α} {x y : α} {i : Nat} (h : (l ++ [x])[i]? = some y) : l[i]? = some y ∨ (i = l.length ∧ y = x) := by
  by_cases hi : i < l.length
  · rw [List.getElem?_append_left hi] at h
    exact .inl h
  · rw [List.getElem?_append_right (by omega)] at h
    right
    cases e : i - l.length with
    | zero =>
      rw [e] at h
      simp at h
      exact ⟨by omega, h.symm⟩
    | succ n =>
      rw [e] at h
      simp at h

theorem OwI.start (w : World) : OwI w w [] := ⟨Below.refl _ _, fun i v l e => by simp at e, fun i j v u l m e => by simp at e⟩

theorem OwI.low {w0 W W' : World} {ls : List (Value × List Int)} (h : OwI w0 W ls) (hb : Below W.heap.size W W') : OwI w0 W' ls :=
  ⟨h.bel.trans (hb.mono h.bel.size), fun i v l e => (h.sl i v l e).below hb (Nat.le_refl _), h.nn⟩

theorem OwI.add {w0 W W' : World} {ls : List (Value × List Int)} (h : OwI w0 W ls) (hb : Below W.heap.size W W') {v : Value} {l : List Int} (ho : OI W' W.heap.size v l) : OwI w0 W' (ls ++ [(v, l)]) := by
  have h1 := h.low hb
  refine ⟨h1.bel, ?_, ?_⟩
  · intro i u m e
    rcases last_ofI e with f | ⟨-, f⟩
    · exact h1.sl _ _ _ f
    · simp only [Prod.mk.injEq] at f
      rw [f.1, f.2]
      exact ho.base h.bel.size
  · intro i j u x m n e e2 hn k hk hk2
    rcases last_ofI e with f | ⟨fi, f⟩
    · rcases last_ofI e2 with f2 | ⟨-, f2⟩
      · exact h1.nn _ _ _ _ _ _ f f2 hn k hk hk2
      · simp only [Prod.mk.injEq] at f2
        rw [f2.1] at hk2
        have a1 := ((h.sl _ _ _ f).lt k hk).2
        have a2 := (ho.lt k hk2).1
        omega
    · rcases last_ofI e2 with f2 | ⟨fj, f2⟩
      · simp only [Prod.mk.injEq] at f
        rw [f.1] at hk
        have a1 := ((h.sl _ _ _ f2).lt k hk2).2
        have a2 := (ho.lt k hk).1
        omega
      · omega

theorem OwI.set {w0 W W' : World} {ls : List (Value × List Int)} (h : OwI w0 W ls) {i : Nat} {v : Value} {l l' : List Int} (hi : ls[i]? = some (v, l)) (hg : W.grownBy W' v.ownBlock) (ho : OI W' w0.heap.size v l') : OwI w0 W' (ls.set i (v, l')) := by
  have hil := (List.getElem?_eq_some_iff.1 hi).1
  have key : ∀ (j : Nat) (u : Value) (m : List Int), (ls.set i (v, l'))[j]? = some (u, m) → (i = j ∧ u = v ∧ m = l') ∨ (i ≠ j ∧ ls[j]? = some (u, m)) := by
    intro j u m e
    by_cases hij : i = j
    · subst hij
      rw [List.getElem?_set_self hil] at e
      simp only [Option.some.injEq, Prod.mk.injEq] at e
      exact .inl ⟨rfl, e.1.symm, e.2.symm⟩
    · rw [List.getElem?_set_ne hij] at e
      exact .inr ⟨hij, e⟩
  refine ⟨h.bel.grown hg h.bel.size (fun k hk => ((h.sl _ _ _ hi).lt k hk).1), ?_, ?_⟩
  · intro j u m e
    rcases key j u m e with ⟨-, rfl, rfl⟩ | ⟨hn, e⟩
    · exact ho
    · have h2 := h.sl _ _ _ e
      exact h2.move fun b hb => hg.block b (h2.lt b hb).2 (fun e2 => h.nn _ _ _ _ _ _ e hi (fun x => hn x.symm) b hb e2.symm)
  · intro a j u x m n e e2 hn k hk hk2
    rcases key a u m e with ⟨f, fu, -⟩ | ⟨hn1, f⟩
    · rcases key j x n e2 with ⟨f2, -, -⟩ | ⟨hn2, f2⟩
      · omega
      · rw [fu] at hk
        exact h.nn _ _ _ _ _ _ hi f2 (by omega) k hk hk2
    · rcases key j x n e2 with ⟨f2, fx, -⟩ | ⟨hn2, f2⟩
      · rw [fx] at hk2
        exact h.nn _ _ _ _ _ _ f hi (by omega) k hk hk2
      · exact h.nn _ _ _ _ _ _ f f2 hn k hk hk2

theorem OwI.lists {w0 W : World} {ls : List (Value × List Int)} (h : OwI w0 W ls) (hm : ls.length ≤ 100) (hc : ∀ p ∈ ls, p.2.length ≤ 10000000000000) : Lists (W.alloc (.cells (ls.map (·.1)).toArray 26)) w0.heap.size ls W.heap.size := by
  have hb : Below W.heap.size W (W.alloc (.cells (ls.map (·.1)).toArray 26)) := (Below.refl _ _).alloc (Nat.le_refl _) _
  have h1 := h.low hb
  refine ⟨fun j p hp => h1.sl j p.1 p.2 hp, fun i j p q hp hq hn k hk => h1.nn i j p.1 q.1 p.2 q.2 hp hq hn k hk, ?_, ?_, hm, hc, h1.bel.size⟩
  · intro j p hp
    have hn : (W.alloc (.cells (ls.map (·.1)).toArray 26)).heap[W.heap.size]? = some (.cells (ls.map (·.1)).toArray 26 (0, 0)) := heap_alloc_new W _
    simp only [World.cell?, hn]
    simp [hp]
  · intro p hp e
    obtain ⟨j, hj⟩ := List.getElem?_of_mem hp
    have := ((h.sl j p.1 p.2 hj).lt _ e).2
    omega

theorem OwI.kept {w0 W W' : World} {ls : List (Value × List Int)} (h : OwI w0 W ls) (hk : Keep ls W W') : Below w0.heap.size w0 W' := by
  have hb := h.bel
  refine ⟨hk.os.trans hb.os, hk.tape.trans hb.tape, hk.output.trans hb.output, Nat.le_trans hb.size hk.size, fun k hkl => ?_⟩
  refine (hk.block k (Nat.lt_of_lt_of_le hkl hb.size) ?_).trans (hb.block k hkl)
  intro p hp e
  obtain ⟨j, hj⟩ := List.getElem?_of_mem hp
  have := ((h.sl j p.1 p.2 hj).lt k e).1
  omega

/-- Two lists more at once. -/
theorem OwI.add2 {w0 W W' : World} {ls : List (Value × List Int)} (h : OwI w0 W ls) (hb : Below W.heap.size W W') {v u : Value} {l m : List Int} (ho : OI W' W.heap.size v l) (hp : OI W' W.heap.size u m) (hn : ∀ k, v.ownBlock = some k → u.ownBlock ≠ some k) : OwI w0 W' (ls ++ [(v, l), (u, m)]) := by
  have h1 := h.add hb ho
  have e : ls ++ [(v, l), (u, m)] = (ls ++ [(v, l)]) ++ [(u, m)] := by simp
  rw [e]
  refine ⟨h1.bel, ?_, ?_⟩
  · intro i x y e
    rcases last_ofI e with f | ⟨-, f⟩
    · exact h1.sl _ _ _ f
    · simp only [Prod.mk.injEq] at f
      rw [f.1, f.2]
      exact hp.base h.bel.size
  · have key : ∀ (i : Nat) (x : Value) (y : List Int), (ls ++ [(v, l)])[i]? = some (x, y) → ∀ k, x.ownBlock = some k → u.ownBlock ≠ some k := by
      intro i x y e k hk hk2
      rcases last_ofI e with f | ⟨-, f⟩
      · have a1 := ((h.sl _ _ _ f).lt k hk).2
        have a2 := (hp.lt k hk2).1
        omega
      · simp only [Prod.mk.injEq] at f
        rw [f.1] at hk
        exact hn k hk hk2
    intro i j a c m1 m2 e e2 hne k hk hk2
    rcases last_ofI e with f | ⟨fi, f⟩
    · rcases last_ofI e2 with f2 | ⟨-, f2⟩
      · exact h1.nn _ _ _ _ _ _ f f2 hne k hk hk2
      · simp only [Prod.mk.injEq] at f2
        rw [f2.1] at hk2
        exact key _ _ _ f k hk hk2
    · rcases last_ofI e2 with f2 | ⟨fj, f2⟩
      · simp only [Prod.mk.injEq] at f
        rw [f.1] at hk
        exact key _ _ _ f2 k hk2 hk
      · omega
end Go.Proofs.YtknjblgnjoocbaaDoor

