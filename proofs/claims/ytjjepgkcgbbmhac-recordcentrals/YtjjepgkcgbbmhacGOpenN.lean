import Derived.Test.YtjjepgkcgbbmhacGOpenL
import Derived.Test.YtjjepgkcgbbmhacGRcm
namespace Go.Proofs.Ytjjepgkcgbbmhac
open Go.ChangeShapes Go.WideShapes Go.ChangeAt Go.RowKit Go.Joins Go.Deep
set_option maxRecDepth 20000
set_option linter.unusedVariables false

theorem list7 {α : Type} {l : List α} (h : l.length = 7) : ∃ a0 a1 a2 a3 a4 a5 a6, l = [a0, a1, a2, a3, a4, a5, a6] := by
  match l, h with
  | [a0, a1, a2, a3, a4, a5, a6], _ => exact ⟨a0, a1, a2, a3, a4, a5, a6, rfl⟩

structure EnrD {H : Type} (l : Enr) (d : DataW H) : Prop where
  disk : Ok64 l.disk
  dirDisk : Ok64 l.dirDisk
  here : Ok64 l.here
  total : Ok64 l.total
  dirSize : Ok64 l.dirSize
  dirAt : Ok64 l.dirAt
  d : ∃ x0 x1 x2 x3 x4 x5, d = .agg [x0, x1, x2, x3, x4, x5, .lit (.string l.comment.data.toList)]

end Go.Proofs.Ytjjepgkcgbbmhac

