import Derived.Test.YtcgeaidegppiaaaDoorGA03
import Derived.Test.YtcgeaidegppiaaaDoorGA01
namespace Go.Proofs.YtcgeaidegppiaaaDoor
open Go.RowKit Go.Maps
set_option maxRecDepth 20000

theorem OI.get {w : World} {base : Nat} {v : Value} {l : List Int} (h : OI w base v l) {b : Nat} (hv : v.ownBlock = some b) {i : Nat} (hi : i < l.length) : w.cell? ⟨b, i, none⟩ = some (.int .i64 (l.getD i 0)) := by
  rcases h.2 with ⟨rfl, h0⟩ | ⟨g, cap, cur, rfl, h1, h2, h3, h4, h5, h6⟩
  · simp [Value.ownBlock] at hv
  · simp [Value.ownBlock] at hv
    subst hv
    have := World.ownsRow.cells h (g := g) rfl i (.int .i64 (l.getD i 0)) (by simp [hi])
    rwa [Addr.add_lit, Nat.zero_add] at this

theorem OI.put {w : World} {B : Nat} {v : Value} {l : List Int} (h : OI w B v l) {k : Nat} (hk : k < l.length) (m : Int) :
    ∃ g c, v = .slice (some ⟨g, 0, none⟩) l.length c ∧ (∃ u, w.cell? ⟨g, k, none⟩ = some u) ∧ w.frozen? ⟨g, k, none⟩ = false ∧ OI (w.setCell ⟨g, k, none⟩ (.int .i64 m)) B v (l.set k m) := by
  rcases h.2 with ⟨hv, h0⟩ | ⟨g, cap, cur, rfl, h1, h2, h3, h4, h5, h6⟩
  · omega
  · refine ⟨g, cap, rfl, ⟨_, h.get rfl hk⟩, frozen_of_row _ _ _ _ _ h2, ?_⟩
    unfold OI
    rw [List.length_set, List.map_set]
    refine ⟨by simp, .inr ⟨g, cap, _, rfl, h1, heap_setCell_same _ _ _ _ _ _ h2, h3, h4, by simpa using h5, ?_⟩⟩
    simp only [Array.toList_setIfInBounds, List.take_set]
    rw [h6]

theorem OI.form {w : World} {base : Nat} {v : Value} {l : List Int} (h : OI w base v l) (h0 : 0 < l.length) : ∃ g c, v = .slice (some ⟨g, 0, none⟩) l.length c ∧ base ≤ g ∧ g < w.heap.size ∧ l.length ≤ c ∧ c ≤ 9223372036854775807 := by
  rcases h.2 with ⟨hv, hz⟩ | ⟨g, cap, cur, rfl, h1, h2, h3, h4, h5, h6⟩
  · omega
  · unfold maxLen at h4
    exact ⟨g, cap, rfl, h1, (h.lt g rfl).2, h3, by omega⟩

/-- A list that lies in more than it says. -/
theorem OI.front {w : World} {base g c : Nat} {l r : List Int} (h : OI w base (.slice (some ⟨g, 0, none⟩) (l ++ r).length c) (l ++ r)) : SI w (.slice (some ⟨g, 0, none⟩) l.length c) l := by
  obtain ⟨ao', cap', he, h1, h2, h3, h4⟩ := h.sb
  simp only [Value.slice.injEq] at he
  obtain ⟨rfl, -, rfl⟩ := he
  rw [List.length_append] at h1
  refine ⟨_, c, rfl, by omega, h2, h3, fun x hx i hi => ?_⟩
  rw [h4 x hx i (by rw [List.length_append]; omega)]
  simp only [List.getD, List.getElem?_append_left hi]

end Go.Proofs.YtcgeaidegppiaaaDoor

namespace Go.Proofs.YtcgeaidegppiaaaDoor
open Go.RowKit Go.Maps
set_option maxRecDepth 20000
set_option linter.unusedVariables false

def Spare (w : World) (v : Value) (n : Nat) : Prop := ∃ g, v = .slice (some ⟨g, 0, none⟩) n (n + 9) ∧ ∀ j, j < 9 → w.cell? ⟨g, n + j, none⟩ = some (.int .i64 165)

theorem cell_at {w : World} {g : Nat} {L : List Value} {t : TypeId} {fr : Nat × Nat} (h : w.heap[g]? = some (.cells L.toArray t fr)) (i : Nat) : w.cell? ⟨g, i, none⟩ = L[i]? := by
  simp [World.cell?, h]

theorem room_at (A : List Value) (k n : Nat) (x z : Value) (h : k < n) : (A ++ List.replicate k x ++ List.replicate (n - k) z)[A.length + k]? = some z := by
  rw [List.getElem?_append_right (by simp), List.getElem?_replicate, if_pos (by simp; omega)]

theorem room_set (A : List Value) (k n : Nat) (x z : Value) (h : k < n) : (A ++ List.replicate k x ++ List.replicate (n - k) z).set (A.length + k) x = A ++ List.replicate (k + 1) x ++ List.replicate (n - (k + 1)) z := by
  obtain ⟨r, hr⟩ : ∃ r, n - k = r + 1 := ⟨n - k - 1, by omega⟩
  have e : A.length + k - (A ++ List.replicate k x).length = 0 := by simp
  rw [List.set_append_right _ _ (by simp), hr, show n - (k + 1) = r by omega, List.replicate_succ' (n := k), e, List.replicate_succ (n := r), List.set_cons_zero, ← List.append_assoc, List.append_assoc (A ++ List.replicate k x)]
  rfl

theorem room_end (A : List Value) (n j : Nat) (x z : Value) (h : j < n) : (A ++ List.replicate n x ++ List.replicate (n - n) z)[A.length + j]? = some x := by
  rw [List.append_assoc, List.getElem?_append_right (by omega), List.getElem?_append_left (by simp; omega), List.getElem?_replicate, if_pos (by omega)]

end Go.Proofs.YtcgeaidegppiaaaDoor

