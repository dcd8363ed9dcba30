import Derived.Test.YtiabhmdefaabgabDoorGRx3
namespace Go.Proofs.YtiabhmdefaabgabDoor
open Go.RowKit Go.Maps
set_option maxRecDepth 20000
set_option linter.unusedVariables false

/-- A box of two beside a row of ints stays where the row grows. -/
theorem box_keep {wr w3 : World} {B g : Nat} {u v3 : Value} {D : List Int} {o : Obj} {cs : Array Value} {fr : Nat × Nat} (hO : OI wr B u D) (hg : wr.heap[g]? = some (.cells cs 87 fr)) (hgr : Grew (wr.alloc o) w3 u v3) : w3.heap[g]? = some (.cells cs 87 fr) := by
  have hlt : g < wr.heap.size := by
    rcases Nat.lt_or_ge g wr.heap.size with h | h
    · exact h
    · rw [Array.getElem?_eq_none h] at hg; cases hg
  have hne : u.ownBlock ≠ some g := by
    intro he
    rcases hO.2 with ⟨rfl, _⟩ | ⟨g', cap, cur, rfl, _, hg', _⟩
    · simp [Value.ownBlock] at he
    · simp only [Value.ownBlock, Option.some.injEq] at he
      subst he
      rw [hg'] at hg
      simp at hg
  rw [hgr.by.block g (by simp; omega) (fun e => hne e.symm), Below.heap_alloc wr o g hlt]
  exact hg

end Go.Proofs.YtiabhmdefaabgabDoor

