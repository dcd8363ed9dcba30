import Derived.Test.YtfoglaajnlbnbaaGreatDoorG04OpenA
import Derived.Test.YtfoglaajnlbnbaaGreatDoorG02Arr
import Derived.Test.YtfoglaajnlbnbaaGreatDoorG20Chk
import Derived.Lib.LaidTab
import Derived.Stop.LaidErr
import Derived.Test.YtfoglaajnlbnbaaGreatDoorG35Mx2
namespace Go.Proofs.YtfoglaajnlbnbaaGreatDoor
open Go.ChangeShapes Go.WideShapes Go.ChangeAt Go.RowKit Go.Joins Go.Deep

end Go.Proofs.YtfoglaajnlbnbaaGreatDoor

namespace Go.Proofs.YtfoglaajnlbnbaaGreatDoor
open Go.ChangeShapes Go.WideShapes Go.ChangeAt Go.RowKit Go.Joins Go.Deep
set_option maxRecDepth 20000

theorem cArr : Tryz.prog.cellsOf 183 = 19 := by kernel_rfl
theorem cInt : Tryz.prog.cellsOf 3 = 1 := by kernel_rfl
theorem gLeast : Tryz.prog.globalNamed "valise/header.least" = some 4 := by kernel_rfl
theorem tLeast : (Tryz.prog.globals[4]?).map (·.type) = some 183 := by kernel_rfl
theorem gFurther : Tryz.prog.globalNamed "valise/header.further" = some 5 := by kernel_rfl
theorem tFurther : (Tryz.prog.globals[5]?).map (·.type) = some 183 := by kernel_rfl
theorem gOrder : Tryz.prog.globalNamed "valise/header.order" = some 3 := by kernel_rfl
theorem tOrder : (Tryz.prog.globals[3]?).map (·.type) = some 183 := by kernel_rfl

def zlst : List Int := [1, 1, 1, 1, 1, 1, 1, 1, 1, 1, 1, 1, 1, 1, 1, 1, 3, 3, 11]
def zf : List Int := [0, 0, 0, 0, 0, 0, 0, 0, 0, 0, 0, 0, 0, 0, 0, 0, 2, 3, 7]
def zo : List Int := [16, 17, 18, 0, 8, 7, 9, 6, 10, 5, 11, 4, 12, 3, 13, 2, 14, 1, 15]

theorem zl_at : ∀ i : Nat, i < 19 → zlst.getD i 0 = lst i := by decide
theorem zf_at : ∀ i : Nat, i < 19 → zf.getD i 0 = ((frt i : Nat) : Int) := by decide

theorem tab_of {W : World} {rest : List (String × DataW Unit)} (h : laidMet Tryz.prog (("valise/header.least", Lib.tabData .i64 zlst) :: ("valise/header.further", Lib.tabData .i64 zf) :: rest) W) : Tab W := by
  have h1 := Lib.tabIs_of_head gLeast tLeast Tryz.underlying183 Tryz.underlying3 cInt cArr h
  have h2 := Lib.tabIs_of_head gFurther tFurther Tryz.underlying183 Tryz.underlying3 cInt cArr h.tail
  exact ⟨fun i hi => by rw [h1.cell gLeast i (by show i < 19; exact hi), zl_at i hi], fun i hi => by rw [h2.cell gFurther i (by show i < 19; exact hi), zf_at i hi]⟩

theorem ord_of {W : World} {rest : List (String × DataW Unit)} (h : laidMet Tryz.prog (("valise/header.order", Lib.tabData .i64 zo) :: rest) W) : ∀ i : Nat, i < 19 → W.cell? ⟨3, i, none⟩ = some (.int .i64 (zo.getD i 0)) := fun i hi =>
  (Lib.tabIs_of_head gOrder tOrder Tryz.underlying183 Tryz.underlying3 cInt cArr h).cell gOrder i (by show i < 19; exact hi)
end Go.Proofs.YtfoglaajnlbnbaaGreatDoor

namespace Go.Proofs.YtfoglaajnlbnbaaGreatDoor
open Go.ChangeShapes Go.WideShapes Go.ChangeAt Go.RowKit Go.Joins Go.Deep
set_option maxRecDepth 20000

theorem gXorder : Tryz.prog.globalNamed "valise/valiseref7.order" = some 2 := by kernel_rfl
theorem tXorder : (Tryz.prog.globals[2]?).map (·.type) = some 183 := by kernel_rfl

theorem xord_of {W : World} {rest : List (String × DataW Unit)} (h : laidMet Tryz.prog (("valise/valiseref7.order", Lib.tabData .i64 zo) :: rest) W) : Xodr W := ⟨fun i hi =>
  (Lib.tabIs_of_head gXorder tXorder Tryz.underlying183 Tryz.underlying3 cInt cArr h).cell gXorder i (by show i < 19; exact hi)⟩
end Go.Proofs.YtfoglaajnlbnbaaGreatDoor

