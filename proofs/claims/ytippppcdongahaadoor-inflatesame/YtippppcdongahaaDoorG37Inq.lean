import Derived.Test.YtippppcdongahaaDoorG27Rg6
import Derived.Sort.BigQuietIn
import Derived.OrdersHeld
import Derived.BigCall
namespace Go.Proofs.YtippppcdongahaaDoor
open Go.RowKit
set_option linter.unusedVariables false

def noPan (Q : Exit → Act → World → Prop) : Exit → Act → World → Prop
  | .panic _, _, _ => False
  | e, a, w => Q e a w

theorem wpIn_noPan {F : Fence} {n : Nat} {P : Program} {c : Code} {Q : Exit → Act → World → Prop} {a : Act} {w : World} (h : c.wpIn F n P (noPan Q) a w) : c.wpIn F n P Q a w := by
  refine wpIn_mono h ?_
  intro e a w hq
  cases e with
  | panic _ => exact hq.elim
  | normal => exact hq
  | ret => exact hq
  | exit _ => exact hq
  | goto _ => exact hq
  | outgrown => exact hq

end Go.Proofs.YtippppcdongahaaDoor

