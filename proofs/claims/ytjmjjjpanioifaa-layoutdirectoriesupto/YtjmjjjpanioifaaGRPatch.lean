import Derived.Test.YtjmjjjpanioifaaGPatch
namespace Go.Proofs.Ytjmjjjpanioifaa
open Go.RowKit Go.Maps
set_option maxRecDepth 20000

theorem bytesLE_get (v : Int) (n k : Nat) (hk : k < n) : (bytesLE v n).getD k 0 = v / 256 ^ k % 256 := by
  induction n generalizing v k with
  | zero => omega
  | succ n ih =>
    cases k with
    | zero => simp [bytesLE]
    | succ k =>
      have e : (bytesLE v (n + 1)).getD (k + 1) 0 = (bytesLE (v / 256) n).getD k 0 := by simp [bytesLE]
      rw [e, ih (v / 256) k (by omega), Int.pow_succ, Int.mul_comm, Int.ediv_ediv_of_nonneg (by omega)]

end Go.Proofs.Ytjmjjjpanioifaa

