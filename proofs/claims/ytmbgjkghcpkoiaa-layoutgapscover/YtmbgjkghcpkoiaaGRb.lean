import Derived.Test.YtmbgjkghcpkoiaaGBf
namespace Go.Proofs.Ytmbgjkghcpkoiaa
open Go.RowKit Go.Maps
set_option maxRecDepth 20000

end Go.Proofs.Ytmbgjkghcpkoiaa

namespace Go.Proofs.Ytmbgjkghcpkoiaa
open Go.RowKit Go.Maps
set_option maxRecDepth 20000

theorem pow_le (n : Nat) (hn : n = 1 ∨ n = 2 ∨ n = 4) : (1 : Int) ≤ 256 ^ n ∧ (256 : Int) ^ n ≤ 4294967296 := by
  obtain rfl | rfl | rfl := hn <;> decide

end Go.Proofs.Ytmbgjkghcpkoiaa

