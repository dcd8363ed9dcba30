import Derived.Test.YtegoienjikjhkaaDoorGA28
namespace Go.Proofs.YtegoienjikjhkaaDoor
open Go.RowKit Go.Maps
set_option maxRecDepth 20000
set_option linter.unusedVariables false

theorem run1_doc {l : List Int} {k m : Nat} {V P : Int} (hk : k < l.length) (hV : V = l.getD k 0) (hm : m = eqn V (l.drop k)) (hP : 0 < k → P = l.getD (k - 1) 0) :
    (V = 0 → 11 ≤ m → run1 l k = (18, ((min m 138 : Nat) : Int))) ∧ (V = 0 → m < 11 → 3 ≤ m → run1 l k = (17, (m : Int))) ∧ (V = 0 → m < 3 → run1 l k = (V, 1)) ∧
    (V ≠ 0 → 0 < k → P = V → 3 ≤ m → run1 l k = (16, ((min m 6 : Nat) : Int))) ∧ (V ≠ 0 → ¬ (0 < k ∧ P = V ∧ 3 ≤ m) → run1 l k = (V, 1)) := by
  unfold run1
  rw [← hV, ← hm]
  refine ⟨fun h1 h2 => ?_, fun h1 h2 h3 => ?_, fun h1 h2 => ?_, fun h1 h2 h3 h4 => ?_, fun h1 h2 => ?_⟩
  · subst h1
    rw [← hm, if_pos ⟨rfl, h2⟩]
  · subst h1
    rw [← hm, if_neg (by omega), if_pos ⟨rfl, h3⟩]
  · subst h1
    rw [← hm, if_neg (by omega), if_neg (by omega), if_neg (by omega)]
  · rw [if_neg (fun q => h1 q.1), if_neg (fun q => h1 q.1), if_pos ⟨h1, h2, by rw [← hP h2]; exact h3, h4⟩]
  · rw [if_neg (fun q => h1 q.1), if_neg (fun q => h1 q.1), if_neg (fun q => h2 ⟨q.2.1, by rw [hP q.2.1]; exact q.2.2.1, q.2.2.2⟩)]

end Go.Proofs.YtegoienjikjhkaaDoor

namespace Go.Proofs.YtegoienjikjhkaaDoor
open Go.RowKit Go.Maps
set_option maxRecDepth 20000
set_option linter.unusedVariables false

theorem boxOf {w : World} {g : Nat} {a b : Value} {t : TypeId} {fr : Nat × Nat} (h : w.heap[g]? = some (.cells #[a, b] t fr)) : w.cell? ⟨g, 0, none⟩ = some a ∧ w.cell? ⟨g, 1, none⟩ = some b := by
  constructor <;> (unfold World.cell?; rw [h]; rfl)

end Go.Proofs.YtegoienjikjhkaaDoor

namespace Go.Proofs.YtegoienjikjhkaaDoor
open Go.RowKit Go.Maps
set_option maxRecDepth 20000
set_option linter.unusedVariables false

/-- A box of two beside a row of ints stays where the row grows. -/
theorem box_keep {wr w3 : World} {B g : Nat} {u v3 : Value} {D : List Int} {o : Obj} {cs : Array Value} {fr : Nat × Nat} (hO : OI wr B u D) (hg : wr.heap[g]? = some (.cells cs 39 fr)) (hgr : Grew (wr.alloc o) w3 u v3) : w3.heap[g]? = some (.cells cs 39 fr) := by
  have hlt : g < wr.heap.size := by
    rcases Nat.lt_or_ge g wr.heap.size with h | h
    · exact h
    · rw [Array.getElem?_eq_none h] at hg; cases hg
  have hne : u.ownBlock ≠ some g := by
    intro he
    rcases hO.2 with ⟨rfl, _⟩ | ⟨g', cap, cur, rfl, _, hg', _⟩
    · simp [Value.ownBlock] at he
    · simp only [Value.ownBlock, Option.some.injEq] at he
      subst he
      rw [hg'] at hg
      simp at hg
  rw [hgr.by.block g (by simp; omega) (fun e => hne e.symm), Below.heap_alloc wr o g hlt]
  exact hg

end Go.Proofs.YtegoienjikjhkaaDoor

