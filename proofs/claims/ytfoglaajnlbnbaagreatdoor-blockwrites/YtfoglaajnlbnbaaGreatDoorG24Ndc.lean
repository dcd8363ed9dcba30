import Derived.Test.YtfoglaajnlbnbaaGreatDoorG23Drr
import Derived.Deep.RegionLaw
namespace Go.Proofs.YtfoglaajnlbnbaaGreatDoor
open Go.RowKit Go.Maps
set_option maxRecDepth 20000

def dcE (l : List Int) : Int := if bkE l ≠ 0 then bkE l else if shp l = 0 then 53 else 0

structure Dp (w : World) (K : Nat → Nat) (g : Nat) (l : List Int) : Prop where
  d : ∃ vl vw vs sy, w.heap[g]? = some (.cells (dv vl vw vs (shf l) (en l)) 239 (0, 0)) ∧ OI w 0 vl l ∧ OI w 0 vw (wds l) ∧ OI w 0 vs sy ∧ SymOk l sy ∧ (∀ k, vl.ownBlock = some k → K k ≠ 0) ∧ (∀ k, vw.ownBlock = some k → K k ≠ 0) ∧ (∀ k, vs.ownBlock = some k → K k ≠ 0)
  k : K g ≠ 0
  sup : ∀ k, K k ≠ 0 → k < w.heap.size
  ok : dcE l = 0

theorem Dp.far {w w' : World} {K : Nat → Nat} {g : Nat} {l : List Int} (h : Dp w K g l) (hsz : w.heap.size ≤ w'.heap.size) (hb : ∀ k, K k ≠ 0 → w'.heap[k]? = w.heap[k]?) : Dp w' K g l := by
  obtain ⟨vl, vw, vs, sy, a1, a2, a3, a4, a5, a6, a7, a8⟩ := h.d
  exact ⟨⟨vl, vw, vs, sy, (hb g h.k).trans a1, a2.move fun k hk => hb k (a6 k hk), a3.move fun k hk => hb k (a7 k hk), a4.move fun k hk => hb k (a8 k hk), a5, a6, a7, a8⟩, h.k, fun k hk => Nat.lt_of_lt_of_le (h.sup k hk) hsz, h.ok⟩

end Go.Proofs.YtfoglaajnlbnbaaGreatDoor

