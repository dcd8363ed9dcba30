import Derived.Test.YtncniahpglgkmaaG07QHops
namespace Go.Proofs.Ytncniahpglgkmaa.H4
open Go.RowKit Go.Maps
set_option maxRecDepth 20000

theorem row_move {w w' : World} {base : Nat} {e : TypeId} {size : Nat} {v : Value} {n : Nat} {xs : List Value} (h : w.ownsRow base e size v n xs) (hb : ∀ k, v.ownBlock = some k → w'.heap[k]? = w.heap[k]?) : w'.ownsRow base e size v n xs := by
  refine ⟨h.1, ?_⟩
  rcases h.2 with h2 | ⟨g, cap, cur, rfl, h1, h2, r⟩
  · exact .inl h2
  · exact .inr ⟨g, cap, cur, rfl, h1, (hb g rfl).trans h2, r⟩

theorem row_shape {w : World} {base : Nat} {e : TypeId} {size : Nat} {v : Value} {n : Nat} {xs : List Value} (h : w.ownsRow base e size v n xs) : ∃ a c, v = .slice a n c := by
  rcases h.2 with ⟨rfl, rfl⟩ | ⟨g, cap, cur, rfl, _⟩
  · exact ⟨none, 0, rfl⟩
  · exact ⟨_, _, rfl⟩

theorem row_lt {w : World} {base : Nat} {e : TypeId} {size : Nat} {v : Value} {n : Nat} {xs : List Value} (h : w.ownsRow base e size v n xs) : ∀ k, v.ownBlock = some k → k < w.heap.size := fun k hk => (World.ownsRow.lt h k hk).2

theorem heap_lt {w : World} {g : Nat} {o : Obj} (h : w.heap[g]? = some o) : g < w.heap.size := (Array.getElem?_eq_some_iff.1 h).1

end Go.Proofs.Ytncniahpglgkmaa.H4

namespace Go.Proofs.Ytncniahpglgkmaa.H4
open Go.RowKit Go.Maps
set_option maxRecDepth 20000

theorem rest_len {R : List (It Int)} (h : R ≠ []) : (rest R).length + 1 = R.length := by
  have hp : 0 < R.length := List.length_pos_iff.2 h
  have := fstTo_lt R R.length hp
  unfold rest
  rw [List.length_eraseIdx, if_pos this]
  omega

theorem rest_nil : rest [] = [] := rfl

end Go.Proofs.Ytncniahpglgkmaa.H4

