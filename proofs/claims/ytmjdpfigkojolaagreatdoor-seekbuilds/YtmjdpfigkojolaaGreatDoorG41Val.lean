import Derived.Test.YtmjdpfigkojolaaGreatDoorG32Inq
import Derived.Test.YtmjdpfigkojolaaGreatDoorG14QRng
import Derived.OwnWalk
import Derived.BigQuiet
import Derived.Deep.QuietTactic
namespace Go.Proofs.YtmjdpfigkojolaaGreatDoor
open Go.RowKit Go.Maps
set_option maxRecDepth 20000
set_option linter.unusedVariables false

theorem SX.own {W w : World} {g r : Nat} {row : List Int} {p L : Nat} {out : List Int} {wh : List (Array Value)} {us : Int} {dn : Bool} {er : Int} {ys : List ((Nat → Nat) × Thing)} (H : SX W w g r row p L out wh us dn er ys) : ∃ a c aw cw, w.heap[g]? = some (stO r L a out.length c aw wh.length cw us dn er) ∧ OB w W.heap.size (.slice a out.length c) out ∧ (ORp 36 6 w 0 (.slice aw wh.length cw) wh ∧ ∀ k, (Value.slice aw wh.length cw).ownBlock = some k → W.heap.size ≤ k) ∧ Below W.heap.size W w := by
  obtain ⟨Kt, Kr, Ko, Kw, a, c, aw, cw, HH, hk⟩ := H
  have h2 : (tl (.slice a out.length c) out).P w Ko := HH.rep 2 _ rfl
  have h3 : (tor (.slice aw wh.length cw) wh).P w Kw := HH.rep 3 _ rfl
  exact ⟨a, c, aw, cw, HH.tbat 0 rfl, ob_up h2.1 (fun k hk => HH.up 2 _ rfl k (h2.2.1 k hk)), ⟨h3.1, fun k hk => HH.up 3 _ rfl k (h3.2.1 k hk)⟩, HH.bel⟩

end Go.Proofs.YtmjdpfigkojolaaGreatDoor

