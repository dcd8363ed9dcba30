import Derived.Test.YtjjepgkcgbbmhaaGCty
namespace Go.Proofs.Ytjjepgkcgbbmhaa
open Go.RowKit Go.Maps
set_option maxRecDepth 20000
set_option linter.unusedVariables false
set_option linter.unusedSimpArgs false

/-- The fields that both headers have, at a place, in numbers. -/
def rdG (d : List Int) (k : Nat) : Loc := ⟨fld d k 2, fld d (k + 2) 2, fld d (k + 4) 2, fld d (k + 6) 2, fld d (k + 8) 2, fld d (k + 10) 4, fld d (k + 14) 4, fld d (k + 18) 4, ⟨#[]⟩, ⟨#[]⟩⟩

theorem Cst.trans {a b c : World} {g : Nat} (h : Cst a g b) (k : Cst b g c) : Cst a g c :=
  ⟨fun i hi hg => (k.block i (Nat.lt_of_lt_of_le hi h.size) hg).trans (h.block i hi hg), Nat.le_trans h.size k.size⟩

theorem Cst.set {a b : World} {g : Nat} (h : Cst a g b) {c : Nat} (hc : a.heap.size ≤ c) (i : Nat) (u : Value) : Cst a g (b.setCell ⟨c, i, none⟩ u) :=
  ⟨fun k hk hg => (setCell_others b c i u k (by omega)).trans (h.block k hk hg), by rw [size_setCell]; exact h.size⟩

theorem Cst.alloc (w : World) (g : Nat) (o : Obj) : Cst w g (w.alloc o) := ⟨fun k hk _ => Below.heap_alloc w o k hk, by rw [size_alloc']; omega⟩

end Go.Proofs.Ytjjepgkcgbbmhaa

