import Derived.Test.YtiabhmdefaabgaaDoorGOpu
import Derived.Test.YtiabhmdefaabgaaDoorGMx2
namespace Go.Proofs.YtiabhmdefaabgaaDoor
open Go.ChangeShapes Go.WideShapes Go.ChangeAt Go.RowKit Go.Joins Go.Deep
set_option maxRecDepth 20000

theorem gXorder : Tryd.prog.globalNamed "valise/valiseref7.order" = some 3 := by kernel_rfl
theorem tXorder : (Tryd.prog.globals[3]?).map (·.type) = some 65 := by kernel_rfl

theorem xord_of {W : World} {rest : List (String × DataW Unit)} (h : laidMet Tryd.prog (("valise/valiseref7.order", Lib.tabData .i64 zo) :: rest) W) : Xodr W := ⟨fun i hi =>
  (Lib.tabIs_of_head gXorder tXorder Tryd.underlying65 Tryd.underlying3 cInt cArr h).cell gXorder i (by show i < 19; exact hi)⟩
end Go.Proofs.YtiabhmdefaabgaaDoor

