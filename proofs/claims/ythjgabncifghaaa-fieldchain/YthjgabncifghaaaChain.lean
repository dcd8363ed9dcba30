import Derived.Test.YthjgabncifghaaaJoin
namespace Go.Proofs.Ythjgabncifghaaa
open Go.RowKit
set_option maxRecDepth 20000

theorem begun_twice : joinN 3904355907 3904355907 1 = 126491095 := by decide +kernel

theorem joinN_lt {a b : Nat} (n : Nat) (ha : a < 4294967296) (hb : b < 4294967296) : joinN a b n < 4294967296 := xor_lt 32 (mvs_lt ha) hb

theorem fieldChain_walk (a b c : Nat) (n m : Int) (ha : a < 4294967296) (hb : b < 4294967296) (hc : c < 4294967296) (hn0 : -9223372036854775808 ≤ n) (hn1 : n ≤ 9223372036854775807) (hm0 : -9223372036854775808 ≤ m) (hm1 : m ≤ 9223372036854775807) (w : World) :
    Calls Try.prog 3 #[.int .u32 (a : Int), .int .u32 (b : Int), .int .u32 (c : Int), .int .i64 n, .int .i64 m] w fun e w' => e = .returned (.bool true) ∧ w' = w := by
  by_cases h1 : n < 0
  · go_enter Try.func3, Try.ntmps3
    go_wp2
    go_ret
    exact ⟨rfl, rfl⟩
  by_cases h2 : m < 0
  · go_enter Try.func3, Try.ntmps3
    go_wp2
    go_ret
    exact ⟨rfl, rfl⟩
  by_cases h3 : 16777216 < n
  · go_enter Try.func3, Try.ntmps3
    go_wp2
    go_ret
    exact ⟨rfl, rfl⟩
  by_cases h4 : 16777216 - n < m
  · go_enter Try.func3, Try.ntmps3
    go_wp2
    go_ret
    exact ⟨rfl, rfl⟩
  obtain ⟨k, rfl⟩ : ∃ k : Nat, n = k := ⟨n.toNat, by omega⟩
  obtain ⟨j, rfl⟩ : ∃ j : Nat, m = j := ⟨m.toNat, by omega⟩
  have hs : (k : Int) + (j : Int) = ((k + j : Nat) : Int) := by omega
  have HS := hide hs
  clear hs
  have h5 : k + j ≤ 16777216 := by omega
  go_enter Try.func3, Try.ntmps3
  go_wp2_with fail
  refine (join_yes a b k ha hb (by omega) _).mono ?_
  rintro e w' ⟨rfl, rfl⟩
  go_wp2_with fail
  refine (join_yes _ c j (joinN_lt k ha hb) hc (by omega) _).mono ?_
  rintro e w' ⟨rfl, rfl⟩
  go_wp2_with fail
  refine (join_yes b c j hb hc (by omega) _).mono ?_
  rintro e w' ⟨rfl, rfl⟩
  go_wp2_with fail
  rw [HS.out]
  refine (join_yes a _ (k + j) ha (joinN_lt j hb hc) h5 _).mono ?_
  rintro e w' ⟨rfl, rfl⟩
  rw [← joinN_chain]
  go_wp2_with fail
  refine (num_any _ _).mono ?_
  rintro e w' ⟨rfl, rfl⟩
  go_wp2_with fail
  refine (num_any _ _).mono ?_
  rintro e w' ⟨rfl, rfl⟩
  go_wp2_with fail
  refine (num_any _ _).mono ?_
  rintro e w' ⟨rfl, rfl⟩
  go_wp2_with fail
  refine (num_any _ _).mono ?_
  rintro e w' ⟨rfl, rfl⟩
  go_wp2_with fail
  refine (join_yes 3904355907 3904355907 1 (by decide) (by decide) (by decide) _).mono ?_
  rintro e w' ⟨rfl, rfl⟩
  rw [begun_twice]
  go_wp2_with fail
  refine (num_any _ _).mono ?_
  rintro e w' ⟨rfl, rfl⟩
  go_wp2
  go_ret
  exact ⟨rfl, rfl⟩
end Go.Proofs.Ythjgabncifghaaa
