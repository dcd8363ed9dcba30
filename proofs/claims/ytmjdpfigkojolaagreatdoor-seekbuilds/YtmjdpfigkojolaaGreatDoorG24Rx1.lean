import Derived.Test.YtmjdpfigkojolaaGreatDoorG23Mgw
import Derived.Test.YtmjdpfigkojolaaGreatDoorG17QHmt
import Derived.Test.YtmjdpfigkojolaaGreatDoorG18Ibs
import Derived.Test.YtmjdpfigkojolaaGreatDoorG15Qr
import Derived.Test.YtmjdpfigkojolaaGreatDoorG19Krg
import Derived.Test.YtmjdpfigkojolaaGreatDoorG20Sm3
import Derived.Test.YtmjdpfigkojolaaGreatDoorG02Drr
import Derived.Test.YtmjdpfigkojolaaGreatDoorG05Rw3
import Derived.Test.YtmjdpfigkojolaaGreatDoorG06Rhl
namespace Go.Proofs.YtmjdpfigkojolaaGreatDoor
open Go.RowKit Go.Maps
set_option maxRecDepth 20000
set_option linter.unusedVariables false

end Go.Proofs.YtmjdpfigkojolaaGreatDoor

namespace Go.Proofs.YtmjdpfigkojolaaGreatDoor
open Go.RowKit Go.Maps
set_option maxRecDepth 20000
set_option linter.unusedVariables false

end Go.Proofs.YtmjdpfigkojolaaGreatDoor

namespace Go.Proofs.YtmjdpfigkojolaaGreatDoor
open Go.RowKit Go.Shelf
attribute [local go_sem] Oper.semAt_some
set_option maxRecDepth 20000
set_option linter.unusedVariables false

end Go.Proofs.YtmjdpfigkojolaaGreatDoor

namespace Go.Proofs.YtmjdpfigkojolaaGreatDoor
open Go.RowKit Go.Maps
set_option maxRecDepth 20000
set_option linter.unusedVariables false

structure Pst (wb : World) (d hL gN n : Nat) (M : Nat) (cur : Nat → Nat) (o : Obj) (W : World) : Prop where
  dfr : W.heap[d]? = some (.deferred (some []))
  lp : W.heap[d + 1]? = some o
  os : W.os = wb.os
  tape : W.tape = wb.tape
  output : W.output = wb.output
  size : d + 2 ≤ W.heap.size
  blk : ∀ k, k < d → k ≠ hL → k ≠ gN → W.heap[k]? = wb.heap[k]?
  len : W.heap[hL]? = some (.cells ((hls n cur).map (Value.int .i64)).toArray 3 (0, 0))
  need : W.heap[gN]? = some (.cells #[.int .i64 (M : Int)] 3 (0, 0))

theorem Pst.far {wb : World} {d hL gN n M : Nat} {cur : Nat → Nat} {o : Obj} {W : World} (h : Pst wb d hL gN n M cur o W) (h1 : hL < d) (h2 : gN < d) {g : Nat} (hg : d + 2 ≤ g) (i : Nat) (u : Value) : Pst wb d hL gN n M cur o (W.setCell ⟨g, i, none⟩ u) := by
  have hp : ∀ k, k ≠ g → (W.setCell ⟨g, i, none⟩ u).heap[k]? = W.heap[k]? := fun k hk => setCell_others _ _ _ _ k hk
  refine ⟨by rw [hp _ (by omega)]; exact h.dfr, by rw [hp _ (by omega)]; exact h.lp, h.os, h.tape, h.output, by rw [size_setCell]; exact h.size, fun k a b c => by rw [hp _ (by omega)]; exact h.blk k a b c, by rw [hp _ (by omega)]; exact h.len, by rw [hp _ (by omega)]; exact h.need⟩

theorem Pst.cell {wb : World} {d hL gN n M : Nat} {cur : Nat → Nat} {o : Obj} {W : World} (h : Pst wb d hL gN n M cur o W) {a : Addr} (h1 : a.block < d) (h2 : a.block ≠ hL) (h3 : a.block ≠ gN) : W.cell? a = wb.cell? a := by
  unfold World.cell?
  rw [h.blk _ h1 h2 h3]

end Go.Proofs.YtmjdpfigkojolaaGreatDoor

namespace Go.Proofs.YtmjdpfigkojolaaGreatDoor
open Go.RowKit Go.Maps Go.Shelf
attribute [local go_sem] Oper.semAt_some
set_option maxRecDepth 20000
set_option linter.unusedVariables false

end Go.Proofs.YtmjdpfigkojolaaGreatDoor

namespace Go.Proofs.YtmjdpfigkojolaaGreatDoor
open Go.RowKit Go.Maps
set_option maxRecDepth 20000
set_option linter.unusedVariables false

end Go.Proofs.YtmjdpfigkojolaaGreatDoor

namespace Go.Proofs.YtmjdpfigkojolaaGreatDoor
open Go.RowKit Go.Maps
set_option maxRecDepth 20000
set_option linter.unusedVariables false

theorem OI.blk {w : World} {base a n c} {l : List Int} (h : OI w base (.slice a n c) l) : ∀ k, (Value.slice a n c).ownBlock = some k → k < w.heap.size := fun k hk => (h.lt k hk).2

end Go.Proofs.YtmjdpfigkojolaaGreatDoor

namespace Go.Proofs.YtmjdpfigkojolaaGreatDoor
open Go.RowKit Go.Maps
set_option maxRecDepth 20000
set_option linter.unusedVariables false

structure Mkd (w : World) (B : Nat) (vL vD vC vR : Value) (L D C : List Int) (R : List Rn) : Prop where
  l : OI w B vL L
  d : OI w B vD D
  c : OI w B vC C
  r : OR w B vR R

theorem Mkd.below {w w' : World} {B : Nat} {vL vD vC vR : Value} {L D C : List Int} {R : List Rn} (h : Mkd w B vL vD vC vR L D C R) (hb : Below w.heap.size w w') : Mkd w' B vL vD vC vR L D C R :=
  ⟨h.l.below hb (Nat.le_refl _), h.d.below hb (Nat.le_refl _), h.c.below hb (Nat.le_refl _), h.r.below hb (Nat.le_refl _)⟩
end Go.Proofs.YtmjdpfigkojolaaGreatDoor

namespace Go.Proofs.YtmjdpfigkojolaaGreatDoor
open Go.RowKit Go.Maps
set_option maxRecDepth 20000
set_option linter.unusedVariables false

end Go.Proofs.YtmjdpfigkojolaaGreatDoor

