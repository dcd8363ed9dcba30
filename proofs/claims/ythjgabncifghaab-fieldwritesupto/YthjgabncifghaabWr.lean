import Derived.Test.YthjgabncifghaabAprtW
namespace Go.Proofs.Ythjgabncifghaab
open Go.RowKit Go.Maps
set_option maxRecDepth 20000

abbrev Ent := (Nat → Nat) × Nat × Thing

def roleOf (v : Value) : Nat → Nat := fun k => if v.ownBlock = some k then 1 else 0

theorem roleOf_own {v : Value} {k : Nat} (h : v.ownBlock = some k) : roleOf v k ≠ 0 := by simp [roleOf, h]

theorem roleOf_inv {v : Value} {k : Nat} (h : roleOf v k ≠ 0) : v.ownBlock = some k := by
  by_cases e : v.ownBlock = some k
  · exact e
  · simp [roleOf, e] at h

/-- What was taken, and what was wanted. -/
def tail : List (Value × Value × List Int) → List Ent
  | [] => []
  | p :: r => (roleOf p.1, 0, .list p.1 p.2.2) :: (roleOf p.2.1, 0, .list p.2.1 p.2.2) :: tail r

theorem tail_snoc (ps : List (Value × Value × List Int)) (p : Value × Value × List Int) : tail (ps ++ [p]) = tail ps ++ [(roleOf p.1, 0, .list p.1 p.2.2)] ++ [(roleOf p.2.1, 0, .list p.2.1 p.2.2)] := by
  induction ps with
  | nil => rfl
  | cons q r ih => simp [tail, ih]

theorem tail_get {ps : List (Value × Value × List Int)} {j : Nat} {p : Value × Value × List Int} (h : ps[j]? = some p) : (tail ps)[2 * j]? = some (roleOf p.1, 0, .list p.1 p.2.2) ∧ (tail ps)[2 * j + 1]? = some (roleOf p.2.1, 0, .list p.2.1 p.2.2) := by
  induction ps generalizing j with
  | nil => simp at h
  | cons q r ih =>
    cases j with
    | zero => simp at h; subst h; exact ⟨rfl, rfl⟩
    | succ j =>
      have := ih (j := j) (by simpa using h)
      rw [show 2 * (j + 1) = 2 * j + 1 + 1 by omega]
      exact this

theorem list_rep {w : World} {B : Nat} {v : Value} {l : List Int} (h : OB w B v l) : RepX w (roleOf v) 0 (.list v l) := ⟨h.base (Nat.zero_le _), fun _ hk => roleOf_own hk, fun k hk => (h.lt k (roleOf_inv hk)).2⟩

theorem list_up {w : World} {B : Nat} {v : Value} {l : List Int} (h : OB w B v l) : ∀ k, roleOf v k ≠ 0 → B ≤ k := fun k hk => (h.lt k (roleOf_inv hk)).1

/-- Something new and nobody's is written. -/
theorem Herd.aside {W w w' : World} {xs : List Ent} (h : Herd W w xs) {row : Option Nat} (hg : w.grownBy w' row) (hr : ∀ b, row = some b → W.heap.size ≤ b ∧ ∀ (i : Nat) (d : Ent), xs[i]? = some d → d.1 b = 0) : Herd W w' xs := by
  refine ⟨h.bel.grown hg h.bel.size (fun k hk => (hr k hk).1), fun i d hd => (h.rep i d hd).far hg.size fun k hk => hg.block k ((h.rep i d hd).sup k hk) (fun e => ?_), h.up, h.sep⟩
  exact hk ((hr k e.symm).2 i d hd)

/-- A row gets one element more. -/
theorem Herd.rowApp {W w w' : World} {xs : List Ent} (h : Herd W w xs) (i : Nat) {K : Nat → Nat} {v v' : Value} {vs : List Value} {x : Value} {o : Obj} (hi : xs[i]? = some (K, 0, .row v vs)) (hown : w'.ownsRow 0 28 1 v' (vs.length + 1) (vs ++ [x])) (hg : (w.alloc o).grownBy w' v.ownBlock) (hat : v'.ownBlock = v.ownBlock ∨ v'.ownBlock = some (w.heap.size + 1)) :
    ∃ K', Herd W w' (xs.set i (K', 0, .row v' (vs ++ [x]))) := by
  have hR := h.rep i _ hi
  have hs := hg.size
  rw [size_alloc'] at hs
  refine ⟨fun k => if v'.ownBlock = some k ∧ w.heap.size ≤ k then 1 else K k, h.op i hi (x' := .row v' (vs ++ [x])) ⟨by rw [List.length_append]; exact hown, fun k hk => ?_, fun k hk => ?_⟩ ⟨hg.os, hg.tape, hg.output, by omega, fun k hk h0 => ?_, fun k hk => ?_⟩⟩
  · by_cases e : w.heap.size ≤ k
    · simp [hk, e]
    · simp only [e, and_false, if_false]
      rcases hat with h1 | h1
      · exact hR.2.1 k (h1 ▸ hk)
      · rw [h1] at hk
        simp at hk
        omega
  · by_cases e : v'.ownBlock = some k ∧ w.heap.size ≤ k
    · exact (World.ownsRow.lt hown k e.1).2
    · simp only [e, if_false] at hk
      have := hR.2.2 k hk
      omega
  · have e : v.ownBlock ≠ some k := fun e => hR.2.1 k e h0
    exact (hg.block k (by rw [size_alloc']; omega) (fun e2 => e e2.symm)).trans (Below.heap_alloc _ _ k hk)
  · rw [if_neg (by omega)]

theorem Herd.zero {W w : World} {xs : List Ent} (h : Herd W w xs) {b : Nat} (hb : w.heap.size ≤ b) : ∀ (i : Nat) (d : Ent), xs[i]? = some d → d.1 b = 0 := fun i d hd => (h.rep i d hd).zero hb

def front (K1 K2 K3 K4 : Nat → Nat) (g r : Nat) (s1 s2 : BSt) (kv wv : Value) (ps : List (Value × Value × List Int)) : List Ent :=
  [(K1, g, .b s1), (K2, r, .r s2), (K3, 0, .row kv (ps.map (·.1))), (K4, 0, .row wv (ps.map (·.2.1)))]

/-- The state of the round. -/
structure Rnd (W w : World) (g r k n : Nat) (kv wv : Value) (K1 K2 K3 K4 : Nat → Nat) (s1 s2 : BSt) (ps : List (Value × Value × List Int)) : Prop where
  len : ps.length = n
  herd : Herd W w (front K1 K2 K3 K4 g r s1 s2 kv wv ps ++ tail ps)
  eqv : Eqv s1 s2
  short : Short s1 k
  few : ∀ p ∈ ps, p.2.2.length ≤ 100000000000000

end Go.Proofs.Ythjgabncifghaab
