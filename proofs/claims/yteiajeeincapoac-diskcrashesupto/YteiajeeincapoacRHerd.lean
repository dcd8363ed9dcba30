import Derived.Test.YteiajeeincapoacRSim
namespace Go.Proofs.Yteiajeeincapoac
open Go.RowKit Go.Maps

/-- A disk of the program, a disk of the document, or a block that nobody writes. -/
inductive Thing where
  | inl (st : St)
  | inr (rs : RSt)
  | box (o : Obj)

def RepX (w : World) (K : Nat → Nat) (g : Nat) : Thing → Prop
  | .inl st => Rep w K g st
  | .inr rs => RRep w K g rs
  | .box o => w.heap[g]? = some o ∧ K g ≠ 0 ∧ ∀ k, K k ≠ 0 → k = g

theorem RepX.sup {w : World} {K : Nat → Nat} {g : Nat} : ∀ {x : Thing}, RepX w K g x → ∀ k, K k ≠ 0 → k < w.heap.size
  | .inl _, h => Rep.sup h
  | .inr _, h => RRep.sup h
  | .box _, h => fun k hk => by rw [h.2.2 k hk]; exact (Array.getElem?_eq_some_iff.1 h.1).1

theorem RepX.far {w w' : World} {K : Nat → Nat} {g : Nat} (hsz : w.heap.size ≤ w'.heap.size) (hb : ∀ k, K k ≠ 0 → w'.heap[k]? = w.heap[k]?) : ∀ {x : Thing}, RepX w K g x → RepX w' K g x
  | .inl _, h => Rep.far h hsz hb
  | .inr _, h => RRep.far h hsz hb
  | .box _, h => ⟨(hb g h.2.1).trans h.1, h.2⟩

structure Herd (W w : World) (xs : List ((Nat → Nat) × Nat × (Thing))) : Prop where
  bel : Below W.heap.size W w
  rep : ∀ (i : Nat) (d : (Nat → Nat) × Nat × (Thing)), xs[i]? = some d → RepX w d.1 d.2.1 d.2.2
  up : ∀ (i : Nat) (d : (Nat → Nat) × Nat × (Thing)), xs[i]? = some d → ∀ k, d.1 k ≠ 0 → W.heap.size ≤ k
  sep : ∀ (i j : Nat) (d e : (Nat → Nat) × Nat × (Thing)), xs[i]? = some d → xs[j]? = some e → i ≠ j → ∀ k, d.1 k ≠ 0 → e.1 k = 0

theorem RepX.zero {w : World} {K : Nat → Nat} {g : Nat} {x : Thing} (h : RepX w K g x) {k : Nat} (hk : w.heap.size ≤ k) : K k = 0 := by
  by_cases e : K k = 0
  · exact e
  · have := h.sup k e; omega

theorem get_set {α : Type} {l : List α} {x y : α} {i j : Nat} (h : (l.set j x)[i]? = some y) : (i ≠ j ∧ l[i]? = some y) ∨ (i = j ∧ y = x) := by
  by_cases e : j = i
  · subst e
    rw [List.getElem?_set_self'] at h
    obtain ⟨u, hu, e⟩ := Option.map_eq_some_iff.1 h
    exact .inr ⟨rfl, e.symm⟩
  · rw [List.getElem?_set_ne e] at h
    exact .inl ⟨fun e2 => e e2.symm, h⟩

theorem Herd.below {W w w' : World} {xs : List ((Nat → Nat) × Nat × (Thing))} (h : Herd W w xs) (hb : Below w.heap.size w w') : Herd W w' xs :=
  ⟨h.bel.trans (hb.mono h.bel.size), fun i d hd => (h.rep i d hd).far hb.size fun k hk => hb.block k ((h.rep i d hd).sup k hk), h.up, h.sep⟩

theorem Herd.op {W w w' : World} {xs : List ((Nat → Nat) × Nat × (Thing))} (h : Herd W w xs) (n : Nat) {K K' : Nat → Nat} {g : Nat} {x x' : Thing} (hn : xs[n]? = some (K, g, x)) (hr : RepX w' K' g x') (hF : Fr K K' w w') : Herd W w' (xs.set n (K', g, x')) := by
  have hs := h.bel.size
  have hup := h.up n _ hn
  refine ⟨h.bel.trans (hF.below hup hs), fun i d hd => ?_, fun i d hd k hk => ?_, fun i j d e hd he hne k hk => ?_⟩
  · rcases get_set hd with ⟨hne, hd⟩ | ⟨_, rfl⟩
    · exact (h.rep i d hd).far hF.size fun k hk => hF.block k ((h.rep i d hd).sup k hk) (.inl (h.sep i n d _ hd hn hne k hk))
    · exact hr
  · rcases get_set hd with ⟨hne, hd⟩ | ⟨_, rfl⟩
    · exact h.up i d hd k hk
    · exact hF.up hup hs k hk
  · rcases get_set hd with ⟨hn1, hd⟩ | ⟨e1, rfl⟩
    · rcases get_set he with ⟨hn2, he⟩ | ⟨e2, rfl⟩
      · exact h.sep i j d e hd he hne k hk
      · exact (hF.role k ((h.rep i d hd).sup k hk)).trans (h.sep i n d _ hd hn hn1 k hk)
    · rcases get_set he with ⟨hn2, he⟩ | ⟨e2, rfl⟩
      · by_cases hl : k < w.heap.size
        · exact h.sep n j _ e hn he (fun e3 => hn2 e3.symm) k (fun e0 => hk ((hF.role k hl).trans e0))
        · exact (h.rep j e he).zero (by omega)
      · omega

theorem Herd.role {W w : World} {xs : List ((Nat → Nat) × Nat × (Thing))} (h : Herd W w xs) {n : Nat} {K : Nat → Nat} {g : Nat} {x : Thing} (hn : xs[n]? = some (K, g, x)) {w1 : World} {base : Nat} {v : Value} {l : List Int} (hb : w.heap.size ≤ base) (ho : OB w1 base v l) : Role K v 0 := fun k hk =>
  (h.rep n _ hn).zero (Nat.le_trans hb (ho.lt k hk).1)

theorem arg_role {W : World} {K : Nat → Nat} {v : Value} {data : List Int} (h : SB W v data) (hu : ∀ k, K k ≠ 0 → W.heap.size ≤ k) : 0 < data.length → Role K v 0 := fun h0 q hq => by
  have := h.lt h0 q hq
  by_cases e : K q = 0
  · exact e
  · have := hu q e; omega

theorem set_other {α : Type} {l : List α} {x y : α} {i j : Nat} (h : l[j]? = some y) (hne : i ≠ j) : (l.set i x)[j]? = some y := by
  rw [List.getElem?_set_ne hne]; exact h
end Go.Proofs.Yteiajeeincapoac
