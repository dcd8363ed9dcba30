import Derived.Test.YtknjblgnjoocbaaDoorGXmg
import Derived.Test.YtknjblgnjoocbaaDoorGPur
namespace Go.Proofs.YtknjblgnjoocbaaDoor
open Go.RowKit Go.Maps
set_option maxRecDepth 20000
set_option linter.unusedVariables false
set_option linter.unusedSimpArgs false

def Abv (B : Nat) (M : List Mnd) : Prop := ∀ p ∈ M, ∀ k, p.2.ownBlock = some k → B ≤ k

theorem ndrop {R : List Nod} {i : Nat} (h : i < R.length) : R.drop i = R.getD i nod0 :: R.drop (i + 1) := by
  rw [List.drop_eq_getElem_cons h]
  simp [h]

theorem npk_step {R : List Nod} {i : Nat} (h : i + 1 < R.length) : npk (R.drop i) = ((R.getD i nod0).1 + (R.getD (i + 1) nod0).1, (R.getD i nod0).2 ++ (R.getD (i + 1) nod0).2) :: npk (R.drop (i + 2)) := by
  rw [ndrop (by omega : i < R.length), ndrop h, npk]

theorem npk_end {R : List Nod} {i : Nat} (h : R.length ≤ i + 1) : npk (R.drop i) = [] := by
  by_cases c : i < R.length
  · rw [ndrop c, List.drop_of_length_le (by omega), npk]
    simp
  · rw [List.drop_of_length_le (by omega), npk]
    simp

theorem two_le {R : List Nod} {i : Nat} (h : i + 1 < R.length) : (R.getD i nod0).1 + (R.getD (i + 1) nod0).1 ≤ (R.map (·.1)).sum ∧ (R.getD i nod0).2.length + (R.getD (i + 1) nod0).2.length ≤ (syms R).length := by
  have e : R = R.take i ++ (R.getD i nod0 :: R.getD (i + 1) nod0 :: R.drop (i + 2)) := by
    rw [← ndrop h, ← ndrop (by omega : i < R.length), List.take_append_drop]
  constructor
  · conv => rhs; rw [e]
    simp only [List.map_append, List.map_cons, List.sum_append, List.sum_cons]
    omega
  · conv => rhs; rw [e]
    simp only [syms, List.flatMap_append, List.flatMap_cons, List.length_append]
    omega

end Go.Proofs.YtknjblgnjoocbaaDoor

