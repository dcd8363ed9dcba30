import Derived.Test.YtagikpkkbopcbaaDoorG05Shx
import Derived.Shelf.Pu.SyntaxError
namespace Go.Proofs.YtagikpkkbopcbaaDoor
open Go.RowKit Go.Maps
set_option maxRecDepth 20000
set_option linter.unusedVariables false
set_option linter.unusedSimpArgs false

def ren20 : Go.Shelf.Ren := ⟨fun x => if x = 21 then 20 else 24, fun x => if x = 0 then 0 else if x = 3 then 3 else if x = 4 then 4 else if x = 5 then 5 else if x = 9 then 9 else if x = 24 then 37 else if x = 67 then 72 else if x = 37 then 30 else if x = 39 then 44 else if x = 44 then 49 else 52, fun _ => 0⟩

theorem lays20 : LaysPu.n21 Tryd.prog ren20 := by
  constructor
  all_goals first
    | kernel_rfl
    | (intro w; kernel_rfl)

theorem syntaxError_any (fn s : ByteArray) (ev : Value) (w : World) (hlim : s.size ≤ 1048576) (hv : w.cell? ⟨0, 0, none⟩ = some ev) (hev : ev = .nilIface ∨ ∃ te pe, ev = .iface te pe) :
    Calls Tryd.prog 20 #[.string fn, .string s] w fun e w' => ∃ N, e = .returned (.pointer (some ⟨N, 0, none⟩)) ∧ Below w.heap.size w w' := by
  refine (AnyPu.strconv_syntaxError lays20 fn s ev w (by omega) hv hev).mono ?_
  rintro e w' ⟨N, rfl, -, -, hb⟩
  exact ⟨N, rfl, hb⟩
end Go.Proofs.YtagikpkkbopcbaaDoor

