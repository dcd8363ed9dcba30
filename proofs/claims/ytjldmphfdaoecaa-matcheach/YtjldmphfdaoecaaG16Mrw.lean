import Derived.Test.YtjldmphfdaoecaaG12Mns
import Derived.Test.YtjldmphfdaoecaaG13OpenK
import Derived.Test.YtjldmphfdaoecaaG04Tke
import Derived.Test.YtjldmphfdaoecaaG02Brb
import Derived.BigQuiet
import Derived.Deep.DeepCutAuto
import Derived.Deep.RegionWith
namespace Go.Proofs.Ytjldmphfdaoecaa
open Go.RowKit Go.Maps
set_option maxRecDepth 20000
set_option linter.unusedVariables false

theorem tkl_len {D : List Int} {W C : Nat} {z : Bool} : (tkl D W C z).length ≤ D.length := by
  have := tks_len (D := D) (W := W) (C := C) (z := z) D.length 0 (Nat.zero_le _)
  show (tks D W C z D.length 0).length ≤ _
  omega

end Go.Proofs.Ytjldmphfdaoecaa

