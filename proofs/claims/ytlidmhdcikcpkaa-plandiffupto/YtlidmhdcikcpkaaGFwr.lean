import Derived.Test.YtlidmhdcikcpkaaGFrd
namespace Go.Proofs.Ytlidmhdcikcpkaa
open Go.RowKit Go.Maps
set_option maxRecDepth 20000
set_option linter.unusedVariables false
set_option linter.unusedSimpArgs false

theorem undrew {w w' : World} {r : Option Nat} (h : w.drew.grownBy w' r) : w.grownBy w' r := ⟨h.os, h.tape, h.output, h.size, h.block⟩

def prs (R : List We) : List (Int × List Int) := R.map fun e => (e.at', e.l)
def prf (R : List Fe) : List (Int × List Int) := R.map fun e => (e.at', e.l)

end Go.Proofs.Ytlidmhdcikcpkaa

