import Derived.Test.YtiabhmdefaabgacGreatDoorGRn
import Derived.Test.YtiabhmdefaabgacGreatDoorGRw
import Derived.Test.YtiabhmdefaabgacGreatDoorGNx
namespace Go.Proofs.YtiabhmdefaabgacGreatDoor
open Go.RowKit Go.Maps
set_option maxRecDepth 20000
set_option linter.unusedVariables false

theorem getset {α : Type} {xs : List α} {i : Nat} {a b : α} (h : xs[i]? = some a) : (xs.set i b)[i]? = some b := by
  rw [List.getElem?_set_self', h]
  rfl

theorem Herd.same {W w : World} {xs : List ((Nat → Nat) × Thing)} (H : Herd W w xs) {i : Nat} {a : (Nat → Nat) × Thing} (h : xs[i]? = some a) : Herd W w (xs.set i a) := by
  have e : xs.set i a = xs := by
    apply List.ext_getElem?
    intro n
    rw [List.getElem?_set]
    by_cases c : i = n
    · subst c
      rw [if_pos rfl, h, if_pos (List.getElem?_eq_some_iff.1 h).1]
    · rw [if_neg c]
  rw [e]
  exact H

theorem Herd.set2 {W w : World} {xs : List ((Nat → Nat) × Thing)} {i : Nat} {a b : (Nat → Nat) × Thing} (H : Herd W w ((xs.set i a).set i b)) : Herd W w (xs.set i b) := by rwa [List.set_set] at H

theorem Herd.front {W w : World} {xs : List ((Nat → Nat) × Thing)} {x : (Nat → Nat) × Thing} (h : Herd W w (xs ++ [x])) : Herd W w xs := by
  have up : ∀ (i : Nat) d, xs[i]? = some d → (xs ++ [x])[i]? = some d := fun i d hd => by
    rw [List.getElem?_append_left (List.getElem?_eq_some_iff.1 hd).1]; exact hd
  exact ⟨h.bel, fun i d hd => h.rep i d (up i d hd), fun i d hd => h.up i d (up i d hd), fun i j d e hd he => h.sep i j d e (up i d hd) (up j e he)⟩

theorem setf {α : Type} {xs : List α} {i : Nat} {a b x : α} (h : xs[i]? = some a) : (xs ++ [x]).set i b = xs.set i b ++ [x] := List.set_append_left _ _ (List.getElem?_eq_some_iff.1 h).1

theorem get_front {α : Type} {xs : List α} {i : Nat} {a x : α} (h : xs[i]? = some a) : (xs ++ [x])[i]? = some a := by
  rw [List.getElem?_append_left (List.getElem?_eq_some_iff.1 h).1]; exact h

theorem get_last {α : Type} (xs : List α) (x : α) : (xs ++ [x])[xs.length]? = some x := by simp

/-- All of a herd lies below a block. -/
def Low (N : Nat) (xs : List ((Nat → Nat) × Thing)) : Prop := ∀ (i : Nat) (d : (Nat → Nat) × Thing), xs[i]? = some d → ∀ k, d.1 k ≠ 0 → k < N

theorem Herd.low {W w : World} {xs : List ((Nat → Nat) × Thing)} (H : Herd W w xs) : Low w.heap.size xs := fun i d hd k hk => d.2.sup (H.rep i d hd) k hk

theorem Low.set {N : Nat} {xs : List ((Nat → Nat) × Thing)} (h : Low N xs) {i : Nat} {K : Nat → Nat} {x y : Thing} (hi : xs[i]? = some (K, x)) : Low N (xs.set i (K, y)) := fun j d hd k hk => by
  rcases get_set hd with ⟨_, hd⟩ | ⟨_, rfl⟩
  · exact h j d hd k hk
  · exact h i _ hi k hk

theorem Herd.keep {W w w' : World} {xs : List ((Nat → Nat) × Thing)} (H : Herd W w xs) {N : Nat} (hN : Low N xs) (hW : W.heap.size ≤ N) (hb : Below N w w') : Herd W w' xs :=
  ⟨H.bel.trans (hb.mono hW), fun i d hd => d.2.far (H.rep i d hd) hb.size fun k hk => hb.block k (hN i d hd k hk), H.up, H.sep⟩

/-- A list of ints, with the block from which on it lies. -/
def tib (B : Nat) (v : Value) (l : List Int) : Thing :=
  ⟨fun w K => OI w B v l ∧ (∀ k, v.ownBlock = some k → K k ≠ 0) ∧ ∀ k, K k ≠ 0 → k < w.heap.size,
   fun h a b => ⟨h.1.move fun k hk => b k (h.2.1 k hk), h.2.1, fun k hk => Nat.lt_of_lt_of_le (h.2.2 k hk) a⟩, fun h => h.2.2⟩

theorem Herd.tibs {W w : World} {xs : List ((Nat → Nat) × Thing)} (H : Herd W w xs) {B : Nat} (hN : Low B xs) (hW : W.heap.size ≤ B) {v : Value} {l : List Int} (ho : OI w B v l) : ∃ K, Herd W w (xs ++ [(K, tib B v l)]) := by
  refine ⟨fun k => if v.ownBlock = some k then 1 else 0, H.bel, fun i d hd => ?_, fun i d hd k hk => ?_, fun i j d e hd he hij k hk => ?_⟩
  · rcases get_snoc hd with hd | ⟨_, rfl⟩
    · exact H.rep i d hd
    · refine ⟨ho, fun k hk => by simp [hk], fun k hk => ?_⟩
      by_cases e : v.ownBlock = some k
      · exact (ho.lt k e).2
      · simp [e] at hk
  · rcases get_snoc hd with hd | ⟨_, rfl⟩
    · exact H.up i d hd k hk
    · by_cases e : v.ownBlock = some k
      · have := (ho.lt k e).1; omega
      · simp [e] at hk
  · rcases get_snoc hd with hd | ⟨e1, rfl⟩
    · rcases get_snoc he with he | ⟨e2, rfl⟩
      · exact H.sep i j d e hd he hij k hk
      · have h1 := hN i d hd k hk
        by_cases q : v.ownBlock = some k
        · have := (ho.lt k q).1; omega
        · simp [q]
    · rcases get_snoc he with he | ⟨e2, rfl⟩
      · by_cases q : v.ownBlock = some k
        · have h2 := (ho.lt k q).1
          by_cases z : e.1 k = 0
          · exact z
          · have := hN j e he k z; omega
        · simp [q] at hk
      · omega

theorem Herd.mid {W w : World} {xs : List ((Nat → Nat) × Thing)} {y z : (Nat → Nat) × Thing} (H : Herd W w (xs ++ [y] ++ [z])) : Herd W w (xs ++ [z]) := by
  have f1 : ∀ (i : Nat) d, (xs ++ [z])[i]? = some d → (xs ++ [y] ++ [z])[if i < xs.length then i else i + 1]? = some d := fun i d hd => by
    by_cases c : i < xs.length
    · rw [if_pos c, List.append_assoc, List.getElem?_append_left c]
      rwa [List.getElem?_append_left c] at hd
    · rw [if_neg c, List.getElem?_append_right (by simp; omega)]
      rw [List.getElem?_append_right (by omega)] at hd
      rw [← hd]
      congr 1
      simp
  exact ⟨H.bel, fun i d hd => H.rep _ d (f1 i d hd), fun i d hd => H.up _ d (f1 i d hd), fun i j d e hd he hij => H.sep _ _ d e (f1 i d hd) (f1 j e he) (by split <;> split <;> omega)⟩

/-- A length is written into the list. -/
theorem Herd.tibput {W w : World} {xs : List ((Nat → Nat) × Thing)} {B b n c : Nat} {K : Nat → Nat} {l : List Int} (H : Herd W w (xs ++ [(K, tib B (.slice (some ⟨b, 0, none⟩) n c) l)])) {k : Nat} (hk : k < l.length) (m : Int) :
    (∃ u, w.cell? ⟨b, k, none⟩ = some u) ∧ w.frozen? ⟨b, k, none⟩ = false ∧ Herd W (w.setCell ⟨b, k, none⟩ (.int .i64 m)) (xs ++ [(K, tib B (.slice (some ⟨b, 0, none⟩) n c) (l.set k m))]) := by
  have h : (tib B (.slice (some ⟨b, 0, none⟩) n c) l).P w K := H.rep xs.length _ (get_last _ _)
  obtain ⟨g, c', hv, h1, h2, h3⟩ := h.1.put hk m
  simp only [Value.slice.injEq, Option.some.injEq, Addr.mk.injEq, and_true] at hv
  obtain ⟨rfl, -, -⟩ := hv
  have hg : K b ≠ 0 := h.2.1 b rfl
  have h4 := H.op xs.length (get_last _ _) (x' := tib B (.slice (some ⟨b, 0, none⟩) n c) (l.set k m)) (K' := K) ⟨h3, h.2.1, fun k hk => by rw [size_setCell]; exact h.2.2 k hk⟩ ⟨rfl, rfl, rfl, by rw [size_setCell]; exact Nat.le_refl _, fun q _ h0 => setCell_others _ _ _ _ _ (fun e => hg (by rw [← e]; exact h0)), fun _ _ => rfl⟩
  rw [show (xs ++ [(K, tib B (.slice (some ⟨b, 0, none⟩) n c) l)]).set xs.length (K, tib B (.slice (some ⟨b, 0, none⟩) n c) (l.set k m)) = xs ++ [(K, tib B (.slice (some ⟨b, 0, none⟩) n c) (l.set k m))] by simp] at h4
  exact ⟨h1, h2, h4⟩

theorem Herd.tibo {W w : World} {xs : List ((Nat → Nat) × Thing)} (H : Herd W w xs) (i : Nat) {B : Nat} {K : Nat → Nat} {v : Value} {l : List Int} (hi : xs[i]? = some (K, tib B v l)) : OI w B v l := by
  have h : (tib B v l).P w K := H.rep i _ hi
  exact h.1

theorem Herd.tibi {W w : World} {xs : List ((Nat → Nat) × Thing)} {B : Nat} {K : Nat → Nat} {v : Value} {l : List Int} (H : Herd W w (xs ++ [(K, tib B v l)])) : Herd W w (xs ++ [(K, ti v l)]) := by
  have hp : (tib B v l).P w K := H.rep xs.length _ (get_last _ _)
  refine ⟨H.bel, fun i d hd => ?_, fun i d hd => ?_, fun i j d e hd he hij => ?_⟩
  · rcases get_snoc hd with q | ⟨_, rfl⟩
    · exact H.rep i d (get_front q)
    · exact ⟨hp.1.base (Nat.zero_le _), hp.2⟩
  · rcases get_snoc hd with q | ⟨e, rfl⟩
    · exact H.up i d (get_front q)
    · exact H.up i (K, tib B v l) (by rw [e]; exact get_last _ _)
  · rcases get_snoc hd with q | ⟨e1, rfl⟩
    · rcases get_snoc he with q2 | ⟨e2, rfl⟩
      · exact H.sep i j d e (get_front q) (get_front q2) hij
      · exact H.sep i j d (K, tib B v l) (get_front q) (by rw [e2]; exact get_last _ _) hij
    · rcases get_snoc he with q2 | ⟨e2, rfl⟩
      · exact H.sep i j (K, tib B v l) e (by rw [e1]; exact get_last _ _) (get_front q2) hij
      · omega

theorem Herd.box1 {W w : World} {xs : List ((Nat → Nat) × Thing)} (h : Herd W w xs) (o : Obj) : ∃ K, Herd W (w.alloc o) (xs ++ [(K, tb w.heap.size o)]) := by
  refine ⟨fun k => if k = w.heap.size then 1 else 0, h.push ((Below.refl _ _).alloc (Nat.le_refl _) _) ⟨heap_alloc_new w _, by simp, fun k hk => ?_⟩ fun k hk => ?_⟩
  · by_cases e : k = w.heap.size
    · subst e; simp
    · simp [e] at hk
  · by_cases e : k = w.heap.size
    · omega
    · simp [e] at hk

theorem Herd.tbs {W w : World} {xs : List ((Nat → Nat) × Thing)} {K : Nat → Nat} {g : Nat} {o : Obj} (h : Herd W w (xs ++ [(K, tb g o)])) : w.heap[g]? = some o := by
  have hp : (tb g o).P w K := h.rep xs.length _ (get_last _ _)
  exact hp.1

theorem u32_31 {v : Int} (h0 : 0 ≤ v) (h1 : v < 4294967296) : bits .and .u32 v 31 = v % 32 := by
  have := bits_mask .u32 32 (by decide) (fun n a b => by rw [IntKind.wrap_u32]; omega) 5 (by decide) v h0 (by omega)
  simpa using this

/-- A box of a run. -/
def Rbox (w : World) (g : Nat) (a b : Int) : Prop := w.heap[g]? = some (.cells #[.int .i64 a, .int .i64 b] 79 (0, 0))
theorem Rbox.cells {w : World} {g : Nat} {a b : Int} (h : Rbox w g a b) : w.cell? ⟨g, 0, none⟩ = some (.int .i64 a) ∧ w.cell? ⟨g, 1, none⟩ = some (.int .i64 b) := by
  unfold Rbox at h
  refine ⟨?_, ?_⟩ <;> (unfold World.cell?; rw [h]; rfl)
theorem Rbox.frozen {w : World} {g : Nat} {a b : Int} (h : Rbox w g a b) : w.frozen? ⟨g, 0, none⟩ = false ∧ w.frozen? ⟨g, 1, none⟩ = false := by
  unfold Rbox at h
  refine ⟨?_, ?_⟩ <;> (unfold World.frozen?; rw [h]; rfl)
theorem Rbox.lt {w : World} {g : Nat} {a b : Int} (h : Rbox w g a b) : g < w.heap.size := by
  rcases Nat.lt_or_ge g w.heap.size with q | q
  · exact q
  · unfold Rbox at h; rw [Array.getElem?_eq_none q] at h; cases h
theorem Rbox.below {w w' : World} {g : Nat} {a b : Int} (h : Rbox w g a b) (hb : Below w.heap.size w w') : Rbox w' g a b := (hb.block g h.lt).trans h
theorem Rbox.put {w : World} {g : Nat} {a b a' b' : Int} (h : Rbox w g a b) : Rbox ((w.setCell ⟨g, 0, none⟩ (.int .i64 a')).setCell ⟨g, 1, none⟩ (.int .i64 b')) g a' b' := by
  have h0 := heap_setCell_at (k := 0) (.int .i64 a') h
  exact (heap_setCell_at (k := 1) (.int .i64 b') h0).trans rfl
theorem put2 {w w0 : World} {g B : Nat} {a' b' : Value} (h : Below B w0 w) (hB : B ≤ g) : Below B w0 ((w.setCell ⟨g, 0, none⟩ a').setCell ⟨g, 1, none⟩ b') :=
  (h.setCell (p := ⟨g, 0, none⟩) hB _).setCell (p := ⟨g, 1, none⟩) hB _
end Go.Proofs.YtiabhmdefaabgacGreatDoor

