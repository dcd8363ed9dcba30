import Derived.Test.YtjjepgkcgbbmhaaGTlz
import Derived.Test.YtjjepgkcgbbmhaaGTlu
namespace Go.Proofs.Ytjjepgkcgbbmhaa
open Go.RowKit Go.Maps
set_option linter.unusedVariables false

theorem told_walk (v0 v3 : Value) (A Z : List Int) (l : Loc) (ok : l.Ok) (b : Bool) (w : World) (h0 : SB w v0 A) (h3 : SB w v3 Z) (hA : Byt A) (hZ : Byt Z) (hl : A.length + Z.length ≤ 2097152) :
    Calls Try.prog 3 #[v0, l.v, .bool b, v3] w fun e w' => e = .returned (.bool true) ∧ Below w.heap.size w w' := by
  by_cases p6 : w32 l.packed = true
  · by_cases p7 : w32 l.size = true
    · by_cases hs : l.sum = 134695760
      · cases b with
        | true => exact told_2 v0 v3 A Z l ok w h0 h3 hA hZ hl ⟨p6, p7⟩ hs
        | false =>
          by_cases hN : gdN (A ++ (rowI (dsI l false) ++ Z)) (A.length : Int) l = 12
          · exact told_4 v0 v3 A Z l ok w h0 h3 hA hZ hl ⟨p6, p7⟩ hs hN
          · exact told_5 v0 v3 A Z l ok w h0 h3 hA hZ hl ⟨p6, p7⟩ hs hN
      · cases b with
        | true => exact told_1 v0 v3 A Z l ok w h0 h3 hA hZ hl ⟨p6, p7⟩ hs
        | false => exact told_3 v0 v3 A Z l ok w h0 h3 hA hZ hl ⟨p6, p7⟩ hs
    · exact told_nob v0 v3 A Z l ok b w h0 h3 ⟨p6, by simpa using p7⟩
  · exact told_noa v0 v3 A Z l ok b w h0 h3 (by simpa using p6)
end Go.Proofs.Ytjjepgkcgbbmhaa

