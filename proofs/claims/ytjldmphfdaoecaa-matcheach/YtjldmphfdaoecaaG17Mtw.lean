import Derived.Test.YtjldmphfdaoecaaG12Mns
import Derived.Test.YtjldmphfdaoecaaG13OpenK
namespace Go.Proofs.Ytjldmphfdaoecaa
open Go.RowKit Go.Maps
set_option maxRecDepth 20000
set_option linter.unusedVariables false

theorem Lent.low {w w' : World} {base : Nat} {v : Value} {l : List Int} (h : Lent w base v l) (hb : Below w.heap.size w w') : Lent w' base v l := by
  obtain ⟨B, c, e, ho⟩ := h
  exact ⟨B, c, e, ho.below hb (Nat.le_refl _)⟩

end Go.Proofs.Ytjldmphfdaoecaa

