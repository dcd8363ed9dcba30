import Derived.Test.YtncniahpglgkmaaG05QHrise
namespace Go.Proofs.Ytncniahpglgkmaa.H4
open Go.RowKit Go.Maps
set_option maxRecDepth 20000

/-- Which child is looked at, and which was the first so far. -/
structure Kid (ys : List (It Int)) (a c f : Nat) : Prop where
  lo : 2 * a + 1 ≤ c
  hi : c ≤ 2 * a + 3
  lt : f < ys.length
  is : f = a ∨ 0 < f ∧ (f - 1) / 2 = a ∧ Lt (pt ys f) (pt ys a)
  least : ∀ i, 0 < i → i < ys.length → (i - 1) / 2 = a → i < c → ¬ Lt (pt ys i) (pt ys f)

theorem Kid.start {ys : List (It Int)} {a : Nat} (h : a < ys.length) : Kid ys a (2 * a + 1) a :=
  ⟨Nat.le_refl _, by omega, h, .inl rfl, fun i h0 _ h1 h2 => by omega⟩

theorem Kid.take {ys : List (It Int)} {a c f : Nat} (h : Kid ys a c f) (hc : c < ys.length) (hh : c ≤ 2 * a + 2) (hl : Lt (pt ys c) (pt ys f)) : Kid ys a (c + 1) c := by
  have hlo := h.lo
  refine ⟨by omega, by omega, hc, .inr ⟨by omega, by omega, ?_⟩, fun i h0 h1 h2 h3 => ?_⟩
  · rcases h.is with rfl | ⟨_, _, h4⟩
    · exact hl
    · unfold Lt at *; omega
  · by_cases e : i = c
    · subst e; exact fun q => q.asymm q
    · exact Lt.ntrans (h.least i h0 h1 h2 (by omega)) hl.asymm

theorem Kid.pass {ys : List (It Int)} {a c f : Nat} (h : Kid ys a c f) (hh : c ≤ 2 * a + 2) (hl : ¬ Lt (pt ys c) (pt ys f)) : Kid ys a (c + 1) f := by
  have hlo := h.lo
  refine ⟨by omega, by omega, h.lt, h.is, fun i h0 h1 h2 h3 => ?_⟩
  by_cases e : i = c
  · subst e; exact hl
  · exact h.least i h0 h1 h2 (by omega)

theorem Kid.all {ys : List (It Int)} {a c f : Nat} (h : Kid ys a c f) (hh : ¬ (c ≤ 2 * a + 2 ∧ c < ys.length)) : ∀ i, 0 < i → i < ys.length → (i - 1) / 2 = a → ¬ Lt (pt ys i) (pt ys f) := by
  intro i h0 h1 h2
  have := h.hi
  exact h.least i h0 h1 h2 (by omega)

theorem sinkLess {xs ys : List (It Int)} {q c f : Nat} (hlen : ys.length = xs.length) (k1 : Kid ys q c f) (hfq : ¬ f = q) : xs.length - f < xs.length - q := by
  have hf := k1.lt
  rcases k1.is with e | ⟨e1, e2, e3⟩
  · exact absurd e hfq
  · omega

end Go.Proofs.Ytncniahpglgkmaa.H4

namespace Go.Proofs.Ytncniahpglgkmaa.H4
open Go.RowKit Go.Maps
set_option maxRecDepth 20000

/-- Only these two are written. -/
structure Only2 (w w' : World) (g b : Nat) : Prop where
  os : w'.os = w.os
  tape : w'.tape = w.tape
  output : w'.output = w.output
  size : w'.heap.size = w.heap.size
  block : ∀ k, k ≠ b → k ≠ g → w'.heap[k]? = w.heap[k]?

theorem Only2.of {w w' : World} {g b : Nat} (h : Only w w' b) : Only2 w w' g b := ⟨h.os, h.tape, h.output, h.size, fun k hk _ => h.block k hk⟩
theorem Only2.then {w w' w'' : World} {g b : Nat} (h : Only2 w w' g b) (k : Only w' w'' b) : Only2 w w'' g b := ⟨k.os.trans h.os, k.tape.trans h.tape, k.output.trans h.output, k.size.trans h.size, fun i hi hg => (k.block i hi).trans (h.block i hi hg)⟩
theorem Only2.set {a w : World} {g b : Nat} (h : Only2 a w g b) (o : Nat) (u : Value) : Only2 a (w.setCell ⟨g, o, none⟩ u) g b :=
  ⟨h.os, h.tape, h.output, (size_setCell _ _ _).trans h.size, fun i hi hg => (setCell_others _ _ _ _ i hg).trans (h.block i hi hg)⟩

def zeroI : It Int := ⟨0, 0, 0⟩

theorem cut_eq (xs : List (It Int)) : (((xs.set 0 (pt xs (xs.length - 1))).set (xs.length - 1) zeroI).take (xs.length - 1)) = cut xs := by
  unfold cut
  rw [List.take_set]
  exact List.set_eq_of_length_le (by simp)

end Go.Proofs.Ytncniahpglgkmaa.H4

