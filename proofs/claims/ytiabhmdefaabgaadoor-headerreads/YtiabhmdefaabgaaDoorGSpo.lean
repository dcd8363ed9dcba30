import Derived.Test.YtiabhmdefaabgaaDoorGLst
namespace Go.Proofs.YtiabhmdefaabgaaDoor
open Go.RowKit Go.Maps
set_option maxRecDepth 20000

theorem set_rep (m : Int) (L : List Int) (k : Nat) (h : k < L.length) : (List.replicate k m ++ L.drop k).set k m = List.replicate (k + 1) m ++ L.drop (k + 1) := by
  rw [List.set_append_right _ _ (by simp)]
  have e : L.drop k = L[k] :: L.drop (k + 1) := List.drop_eq_getElem_cons h
  have e2 : (L.drop k).set 0 m = m :: L.drop (k + 1) := by rw [e]; rfl
  simp [List.replicate_succ', e2]

theorem len_rep (m : Int) (L : List Int) {k : Nat} (h : k ≤ L.length) : (List.replicate k m ++ L.drop k).length = L.length := by
  rw [List.length_append, List.length_replicate, List.length_drop]; omega

theorem Herd.setset {W w : World} {xs : List ((Nat → Nat) × Thing)} {i : Nat} {a b : (Nat → Nat) × Thing} (H : Herd W w ((xs.set i a).set i b)) : Herd W w (xs.set i b) := by
  rw [List.set_set] at H; exact H

end Go.Proofs.YtiabhmdefaabgaaDoor

