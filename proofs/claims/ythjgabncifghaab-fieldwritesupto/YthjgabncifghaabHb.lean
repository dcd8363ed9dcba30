import Derived.Test.YthjgabncifghaabBNew
namespace Go.Proofs.Ythjgabncifghaab
open Go.RowKit Go.Maps
set_option maxRecDepth 20000

theorem ownsRow_alloc {w : World} {B : Nat} {e : TypeId} {v : Value} {n : Nat} {xs : List Value} (h : w.ownsRow B e 1 v n xs) (o : Obj) : (w.alloc o).ownsRow B e 1 v n xs := by
  refine ⟨h.1, ?_⟩
  rcases h.2 with h2 | ⟨g, cap, cur, rfl, h1, h2, r⟩
  · exact .inl h2
  · exact .inr ⟨g, cap, cur, rfl, h1, (Below.heap_alloc w o g (Array.getElem?_eq_some_iff.1 h2).1).trans h2, r⟩

theorem ownsRow_move {w w' : World} {B : Nat} {e : TypeId} {v : Value} {n : Nat} {xs : List Value} (h : w.ownsRow B e 1 v n xs) (hk : ∀ k, v.ownBlock = some k → w'.heap[k]? = w.heap[k]?) : w'.ownsRow B e 1 v n xs := by
  refine ⟨h.1, ?_⟩
  rcases h.2 with h2 | ⟨g, cap, cur, rfl, h1, h2, r⟩
  · exact .inl h2
  · exact .inr ⟨g, cap, cur, rfl, h1, (hk g rfl).trans h2, r⟩

/-- A buffer of the program, a buffer of the document, a list of bytes, a row of lists. -/
inductive Thing where
  | b (st : BSt)
  | r (st : BSt)
  | list (v : Value) (l : List Int)
  | row (v : Value) (vs : List Value)

def RepX (w : World) (K : Nat → Nat) (g : Nat) : Thing → Prop
  | .b st => Bu true w K g st
  | .r st => Bu false w K g st
  | .list v l => OB w 0 v l ∧ (∀ k, v.ownBlock = some k → K k ≠ 0) ∧ ∀ k, K k ≠ 0 → k < w.heap.size
  | .row v vs => w.ownsRow 0 28 1 v vs.length vs ∧ (∀ k, v.ownBlock = some k → K k ≠ 0) ∧ ∀ k, K k ≠ 0 → k < w.heap.size

theorem Bu.sup {p : Bool} {w : World} {K : Nat → Nat} {g : Nat} {st : BSt} (h : Bu p w K g st) : ∀ k, K k ≠ 0 → k < w.heap.size := by
  obtain ⟨v, h⟩ := h
  exact h.sup

theorem RepX.sup {w : World} {K : Nat → Nat} {g : Nat} : ∀ {x : Thing}, RepX w K g x → ∀ k, K k ≠ 0 → k < w.heap.size
  | .b _, h => Bu.sup h
  | .r _, h => Bu.sup h
  | .list _ _, h => h.2.2
  | .row _ _, h => h.2.2

theorem RepX.far {w w' : World} {K : Nat → Nat} {g : Nat} (hsz : w.heap.size ≤ w'.heap.size) (hb : ∀ k, K k ≠ 0 → w'.heap[k]? = w.heap[k]?) : ∀ {x : Thing}, RepX w K g x → RepX w' K g x
  | .b _, h => Bu.far h hsz hb
  | .r _, h => Bu.far h hsz hb
  | .list _ _, h => ⟨h.1.move fun k hk => hb k (h.2.1 k hk), h.2.1, fun k hk => Nat.lt_of_lt_of_le (h.2.2 k hk) hsz⟩
  | .row _ _, h => ⟨ownsRow_move h.1 fun k hk => hb k (h.2.1 k hk), h.2.1, fun k hk => Nat.lt_of_lt_of_le (h.2.2 k hk) hsz⟩

structure Herd (W w : World) (xs : List ((Nat → Nat) × Nat × (Thing))) : Prop where
  bel : Below W.heap.size W w
  rep : ∀ (i : Nat) (d : (Nat → Nat) × Nat × (Thing)), xs[i]? = some d → RepX w d.1 d.2.1 d.2.2
  up : ∀ (i : Nat) (d : (Nat → Nat) × Nat × (Thing)), xs[i]? = some d → ∀ k, d.1 k ≠ 0 → W.heap.size ≤ k
  sep : ∀ (i j : Nat) (d e : (Nat → Nat) × Nat × (Thing)), xs[i]? = some d → xs[j]? = some e → i ≠ j → ∀ k, d.1 k ≠ 0 → e.1 k = 0

theorem RepX.zero {w : World} {K : Nat → Nat} {g : Nat} {x : Thing} (h : RepX w K g x) {k : Nat} (hk : w.heap.size ≤ k) : K k = 0 := by
  by_cases e : K k = 0
  · exact e
  · have := h.sup k e; omega

theorem get_set {α : Type} {l : List α} {x y : α} {i j : Nat} (h : (l.set j x)[i]? = some y) : (i ≠ j ∧ l[i]? = some y) ∨ (i = j ∧ y = x) := by
  by_cases e : j = i
  · subst e
    rw [List.getElem?_set_self'] at h
    obtain ⟨u, hu, e⟩ := Option.map_eq_some_iff.1 h
    exact .inr ⟨rfl, e.symm⟩
  · rw [List.getElem?_set_ne e] at h
    exact .inl ⟨fun e2 => e e2.symm, h⟩

theorem Herd.below {W w w' : World} {xs : List ((Nat → Nat) × Nat × (Thing))} (h : Herd W w xs) (hb : Below w.heap.size w w') : Herd W w' xs :=
  ⟨h.bel.trans (hb.mono h.bel.size), fun i d hd => (h.rep i d hd).far hb.size fun k hk => hb.block k ((h.rep i d hd).sup k hk), h.up, h.sep⟩

theorem Herd.op {W w w' : World} {xs : List ((Nat → Nat) × Nat × (Thing))} (h : Herd W w xs) (n : Nat) {K K' : Nat → Nat} {g : Nat} {x x' : Thing} (hn : xs[n]? = some (K, g, x)) (hr : RepX w' K' g x') (hF : Fr K K' w w') : Herd W w' (xs.set n (K', g, x')) := by
  have hs := h.bel.size
  have hup := h.up n _ hn
  refine ⟨h.bel.trans (hF.below hup hs), fun i d hd => ?_, fun i d hd k hk => ?_, fun i j d e hd he hne k hk => ?_⟩
  · rcases get_set hd with ⟨hne, hd⟩ | ⟨_, rfl⟩
    · exact (h.rep i d hd).far hF.size fun k hk => hF.block k ((h.rep i d hd).sup k hk) (h.sep i n d _ hd hn hne k hk)
    · exact hr
  · rcases get_set hd with ⟨hne, hd⟩ | ⟨_, rfl⟩
    · exact h.up i d hd k hk
    · exact hF.up hup hs k hk
  · rcases get_set hd with ⟨hn1, hd⟩ | ⟨e1, rfl⟩
    · rcases get_set he with ⟨hn2, he⟩ | ⟨e2, rfl⟩
      · exact h.sep i j d e hd he hne k hk
      · exact (hF.role k ((h.rep i d hd).sup k hk)).trans (h.sep i n d _ hd hn hn1 k hk)
    · rcases get_set he with ⟨hn2, he⟩ | ⟨e2, rfl⟩
      · by_cases hl : k < w.heap.size
        · exact h.sep n j _ e hn he (fun e3 => hn2 e3.symm) k (fun e0 => hk ((hF.role k hl).trans e0))
        · exact (h.rep j e he).zero (by omega)
      · omega

theorem set_other {α : Type} {l : List α} {x y : α} {i j : Nat} (h : l[j]? = some y) (hne : i ≠ j) : (l.set i x)[j]? = some y := by
  rw [List.getElem?_set_ne hne]; exact h
theorem set_same {α : Type} {l : List α} {x : α} {i : Nat} (h : l[i]? = some x) : l.set i x = l := by
  apply List.ext_getElem?
  intro k
  by_cases e : i = k
  · subst e
    rw [List.getElem?_set_self', h]
    rfl
  · rw [List.getElem?_set_ne e]

theorem get_snoc {α : Type} {l : List α} {x y : α} {i : Nat} (h : (l ++ [x])[i]? = some y) : (l[i]? = some y) ∨ (i = l.length ∧ y = x) := by
  by_cases hi : i < l.length
  · rw [List.getElem?_append_left hi] at h
    exact .inl h
  · rw [List.getElem?_append_right (by omega)] at h
    have := (List.getElem?_eq_some_iff.1 h).1
    simp at this
    have e : i = l.length := by omega
    subst e
    simp at h
    exact .inr ⟨rfl, h.symm⟩

theorem Herd.push {W w w' : World} {xs : List ((Nat → Nat) × Nat × Thing)} (h : Herd W w xs) (hb : Below w.heap.size w w') {K : Nat → Nat} {g : Nat} {x : Thing} (hr : RepX w' K g x) (hu : ∀ k, K k ≠ 0 → w.heap.size ≤ k) : Herd W w' (xs ++ [(K, g, x)]) := by
  have h' := h.below hb
  have hs := h.bel.size
  refine ⟨h'.bel, fun i d hd => ?_, fun i d hd k hk => ?_, fun i j d e hd he hne k hk => ?_⟩
  · rcases get_snoc hd with hd | ⟨_, rfl⟩
    · exact h'.rep i d hd
    · exact hr
  · rcases get_snoc hd with hd | ⟨_, rfl⟩
    · exact h.up i d hd k hk
    · have := hu k hk; omega
  · rcases get_snoc hd with hd | ⟨e1, rfl⟩
    · rcases get_snoc he with he | ⟨e2, rfl⟩
      · exact h.sep i j d e hd he hne k hk
      · by_cases e0 : K k = 0
        · exact e0
        · exact absurd ((h.rep i d hd).zero (hu k e0)) hk
    · rcases get_snoc he with he | ⟨e2, rfl⟩
      · exact (h.rep j e he).zero (hu k hk)
      · omega


end Go.Proofs.Ythjgabncifghaab
