import Derived.Test.YtijmmfimkibgbaaGBf
namespace Go.Proofs.Ytijmmfimkibgbaa
open Go.RowKit Go.Maps
set_option maxRecDepth 20000

end Go.Proofs.Ytijmmfimkibgbaa

namespace Go.Proofs.Ytijmmfimkibgbaa
open Go.RowKit Go.Maps
set_option maxRecDepth 20000

theorem pow_le (n : Nat) (hn : n = 1 ∨ n = 2 ∨ n = 4) : (1 : Int) ≤ 256 ^ n ∧ (256 : Int) ^ n ≤ 4294967296 := by
  obtain rfl | rfl | rfl := hn <;> decide

end Go.Proofs.Ytijmmfimkibgbaa

