import Derived.Test.YtjjepgkcgbbmhacDoorGNvlA
import Derived.Test.YtjjepgkcgbbmhacDoorGNvlB
import Derived.Test.YtjjepgkcgbbmhacDoorGNvlC
import Derived.Test.YtjjepgkcgbbmhacDoorGNvlD
import Derived.Test.YtjjepgkcgbbmhacDoorGNvlE
import Derived.Test.YtjjepgkcgbbmhacDoorGNvlF
namespace Go.Proofs.YtjjepgkcgbbmhacDoor
open Go.RowKit

theorem letter_any (s : ByteArray) (p : Nat) (w : World) (hp : p < s.size) (hs : s.size ≤ 65535) :
    Calls Tryd.prog 17 #[.string s, .int .i64 (p : Int)] w fun e w' => e = .returned (.int .i64 ((ltn s p : Nat) : Int)) ∧ w' = w := by
  generalize hc : (s[p]'hp).toNat = c
  have hl : c < 256 := by rw [← hc]; exact (s[p]'hp).toNat_lt
  by_cases q : p + 1 < s.size
  · by_cases x : c ≤ 224
    · exact letter_a s p w hp hs q (by rw [hc]; omega)
    by_cases y : c ≤ 239
    · exact letter_b s p w hp hs q (by rw [hc]; omega)
    by_cases z : c ≤ 243
    · exact letter_c s p w hp hs q (by rw [hc]; omega)
    · exact letter_d s p w hp hs q (by rw [hc]; omega)
  · by_cases x : c ≤ 237
    · exact letter_e s p w hp hs q (by rw [hc]; omega)
    · exact letter_f s p w hp hs q (by rw [hc]; omega)
end Go.Proofs.YtjjepgkcgbbmhacDoor

