import Derived.Test.YtiabhmdefaabgabDoorG5b
import Derived.Test.YtiabhmdefaabgabDoorG3r
namespace Go.Proofs.YtiabhmdefaabgabDoor
open Go.RowKit Go.Maps
set_option maxRecDepth 20000

/-- A list of ints. -/
def ti (v : Value) (l : List Int) : Thing :=
  ⟨fun w K => OI w 0 v l ∧ (∀ k, v.ownBlock = some k → K k ≠ 0) ∧ ∀ k, K k ≠ 0 → k < w.heap.size,
   fun h a b => ⟨h.1.move fun k hk => b k (h.2.1 k hk), h.2.1, fun k hk => Nat.lt_of_lt_of_le (h.2.2 k hk) a⟩, fun h => h.2.2⟩

theorem Herd.ilist {W w w' : World} {xs : List ((Nat → Nat) × Thing)} (h : Herd W w xs) (hb : Below w.heap.size w w') {v : Value} {l : List Int} (ho : OI w' w.heap.size v l) : ∃ K, Herd W w' (xs ++ [(K, ti v l)]) := by
  refine ⟨fun k => if v.ownBlock = some k then 1 else 0, h.push hb ⟨ho.base (Nat.zero_le _), fun k hk => by simp [hk], fun k hk => ?_⟩ fun k hk => ?_⟩
  · by_cases e : v.ownBlock = some k
    · exact (ho.lt k e).2
    · simp [e] at hk
  · by_cases e : v.ownBlock = some k
    · exact (ho.lt k e).1
    · simp [e] at hk

theorem Herd.isi {W w : World} {xs : List ((Nat → Nat) × Thing)} (H : Herd W w xs) (i : Nat) {K : Nat → Nat} {v : Value} {l : List Int} (hi : xs[i]? = some (K, ti v l)) : SI w v l := by
  have h : (ti v l).P w K := H.rep i _ hi
  exact h.1.sb

theorem Herd.ioi {W w : World} {xs : List ((Nat → Nat) × Thing)} (H : Herd W w xs) (i : Nat) {K : Nat → Nat} {v : Value} {l : List Int} (hi : xs[i]? = some (K, ti v l)) : OI w 0 v l := by
  have h : (ti v l).P w K := H.rep i _ hi
  exact h.1

theorem Herd.iput {W w : World} {xs : List ((Nat → Nat) × Thing)} (H : Herd W w xs) (i : Nat) {K : Nat → Nat} {v : Value} {l : List Int} (hi : xs[i]? = some (K, ti v l)) {k : Nat} (hk : k < l.length) (m : Int) :
    ∃ g c, v = .slice (some ⟨g, 0, none⟩) l.length c ∧ (∃ u, w.cell? ⟨g, k, none⟩ = some u) ∧ w.frozen? ⟨g, k, none⟩ = false ∧ Herd W (w.setCell ⟨g, k, none⟩ (.int .i64 m)) (xs.set i (K, ti v (l.set k m))) := by
  have h : (ti v l).P w K := H.rep i _ hi
  obtain ⟨g, c, hv, h1, h2, h3⟩ := h.1.put hk m
  have hg : K g ≠ 0 := h.2.1 g (by rw [hv]; rfl)
  exact ⟨g, c, hv, h1, h2, H.op i hi (x' := ti v (l.set k m)) ⟨h3, h.2.1, fun k hk => by rw [size_setCell]; exact h.2.2 k hk⟩ ⟨rfl, rfl, rfl, by rw [size_setCell]; exact Nat.le_refl _, fun b _ h0 => setCell_others _ _ _ _ _ (fun e => hg (by rw [← e]; exact h0)), fun _ _ => rfl⟩⟩

def mk3 : List Int := [-71, -72, -73]

/-- A list with three marks behind it. -/
def Framed (w : World) (base : Nat) (v : Value) (l : List Int) : Prop := OI w base v (l ++ mk3)

theorem length_fr (l : List Int) : (l ++ mk3).length = l.length + 3 := by rw [List.length_append]; rfl

theorem Framed.form {w : World} {base : Nat} {v : Value} {l : List Int} (h : Framed w base v l) : ∃ g c, v = .slice (some ⟨g, 0, none⟩) (l.length + 3) c ∧ base ≤ g ∧ g < w.heap.size ∧ l.length + 3 ≤ c ∧ c ≤ 9223372036854775807 ∧ SI w (.slice (some ⟨g, 0, none⟩) l.length c) l := by
  obtain ⟨g, c, hv, h1, h2, h3, h4⟩ := OI.form h (by rw [length_fr]; omega)
  rw [length_fr] at hv h3
  have hf := h
  unfold Framed at hf
  rw [hv] at hf
  exact ⟨g, c, hv, h1, h2, h3, h4, OI.front (r := mk3) (by rw [length_fr]; exact hf)⟩

end Go.Proofs.YtiabhmdefaabgabDoor

