import Derived.Test.YthjgabncifghaaaMove
namespace Go.Proofs.Ythjgabncifghaaa
open Go.RowKit
set_option maxRecDepth 20000

theorem bits_odd64 (m : Nat) (h : m ≤ 16777216) : bits .and .i64 (m : Int) 1 = ((m % 2 : Nat) : Int) := by
  have h1 := bits_mask .i64 31 (by decide) (fun n h0 h1 => by rw [IntKind.wrap_i64]; omega) 1 (by decide) (m : Int) (by omega) (by omega)
  have h2 : bits .and .i64 (m : Int) 1 = (m : Int) % 2 := h1
  rw [h2]; omega

theorem join_no (a b : Nat) (n : Int) (h : n < 0 ∨ 16777216 < n) (w : World) :
    Calls Try.prog 5 #[.int .u32 (a : Int), .int .u32 (b : Int), .int .i64 n] w fun e w' => e = .returned (.tuple #[.int .u32 0, .int .i64 1]) ∧ w' = w := by
  go_enter Try.func5, Try.ntmps5
  rcases h with h | h
  · go_wp2
    go_ret2
    exact ⟨rfl, rfl⟩
  · go_wp2
    go_ret2
    exact ⟨rfl, rfl⟩

theorem join_yes (a b n : Nat) (ha : a < 4294967296) (hb : b < 4294967296) (hn : n ≤ 16777216) (w : World) :
    Calls Try.prog 5 #[.int .u32 (a : Int), .int .u32 (b : Int), .int .i64 (n : Int)] w fun e w' => e = .returned (.tuple #[.int .u32 ((joinN a b n : Nat) : Int), .int .i64 0]) ∧ w' = w := by
  go_enter Try.func5, Try.ntmps5
  go_wp2
  go_loopg [2, 8, 9] n (fun g x y z wr => ∃ r v : Nat, g ≤ n ∧ x = .int .i64 (g : Int) ∧ y = .int .u32 (r : Int) ∧ z = .int .u32 (v : Int) ∧ wr = w ∧ r < 4294967296 ∧ v < 4294967296 ∧ Hid (∃ k, Acts v k ∧ mvs (k * g) r = mvs (8 * n) a))
  case atStart => exact ⟨a, 8388608, Nat.le_refl _, rfl, rfl, rfl, rfl, ha, by omega, 8, acts_byte, rfl⟩
  case round =>
    obtain ⟨r, v, hg, rfl, rfl, rfl, rfl, hr, hv, HH⟩ := hrel
    by_cases hz : gk = 0
    · subst hz
      have HE : Hid (r = mvs (8 * n) a) := by
        obtain ⟨k, _, h⟩ := HH.out
        exact h
      have e2 := bits_xor_nat r b hr hb
      go_wp2
      go_ret2
      refine ⟨?_, rfl⟩
      rw [joinN, ← HE.out]
      rfl
    · have hz' : (0 : Int) < gk := by omega
      have HV := hide (prod_lt (a := v) (b := v) hv)
      by_cases ho : gk % 2 = 1
      · have e1 : bits .and .i64 (gk : Int) 1 = 1 := by rw [bits_odd64 gk (by omega), ho]; rfl
        have HR := hide (prod_lt (a := v) (b := r) hr)
        have HN : Hid (∃ k, Acts (prod v v) k ∧ mvs (k * (gk / 2)) (prod v r) = mvs (8 * n) a) := by
          obtain ⟨k, h1, h2⟩ := HH.out
          refine ⟨k + k, h1.mul h1, ?_⟩
          rw [h1.2 r hr, ← mvs_add, ← h2]
          congr 1
          have e : gk = 2 * (gk / 2) + 1 := by omega
          generalize gk / 2 = q at *
          subst e
          rw [Nat.mul_add, Nat.mul_one, Nat.add_mul, ← Nat.mul_assoc, Nat.mul_comm k 2, Nat.two_mul, Nat.add_mul, Nat.add_comm]
        clear ho HH
        go_wp2_with fail
        refine (product_any v r hv hr _).mono ?_
        rintro e w' ⟨rfl, rfl⟩
        go_wp2_with fail
        refine (product_any v v hv hv _).mono ?_
        rintro e w' ⟨rfl, rfl⟩
        go_wp2
        go_roundg (gk / 2)
        case measure => omega
        case rel => exact ⟨prod v r, prod v v, by omega, rfl, rfl, rfl, rfl, HR.out, HV.out, HN.out⟩
      · have e1 : bits .and .i64 (gk : Int) 1 = 0 := by rw [bits_odd64 gk (by omega)]; omega
        have HN : Hid (∃ k, Acts (prod v v) k ∧ mvs (k * (gk / 2)) r = mvs (8 * n) a) := by
          obtain ⟨k, h1, h2⟩ := HH.out
          refine ⟨k + k, h1.mul h1, ?_⟩
          rw [← h2]
          congr 1
          have e : gk = 2 * (gk / 2) := by omega
          generalize gk / 2 = q at *
          subst e
          rw [Nat.add_mul, ← Nat.mul_assoc, Nat.mul_comm k 2, Nat.two_mul, Nat.add_mul]
        clear ho HH
        go_wp2_with fail
        refine (product_any v v hv hv _).mono ?_
        rintro e w' ⟨rfl, rfl⟩
        go_wp2
        go_roundg (gk / 2)
        case measure => omega
        case rel => exact ⟨r, prod v v, by omega, rfl, rfl, rfl, rfl, hr, HV.out, HN.out⟩

theorem power_any (n : Nat) (hn : n ≤ 16777216) (w : World) :
    Calls Try.prog 9 #[.int .i64 (n : Int)] w fun e w' => ∃ p : Nat, e = .returned (.int .u32 (p : Int)) ∧ Acts p (8 * n) ∧ w' = w := by
  go_enter Try.func9, Try.ntmps9
  go_wp2
  go_loopg [0, 3, 4] n (fun g x y z wr => ∃ r v : Nat, g ≤ n ∧ x = .int .i64 (g : Int) ∧ y = .int .u32 (r : Int) ∧ z = .int .u32 (v : Int) ∧ wr = w ∧ Hid (∃ k j, Acts v k ∧ Acts r j ∧ j + k * g = 8 * n))
  case atStart => exact ⟨2147483648, 8388608, Nat.le_refl _, rfl, rfl, rfl, rfl, 8, 0, acts_byte, acts_one, by omega⟩
  case round =>
    obtain ⟨r, v, hg, rfl, rfl, rfl, rfl, HH⟩ := hrel
    have hv : v < 4294967296 := by obtain ⟨k, j, h1, h2, h3⟩ := HH.out; exact h1.1
    have hr : r < 4294967296 := by obtain ⟨k, j, h1, h2, h3⟩ := HH.out; exact h2.1
    by_cases hz : gk = 0
    · subst hz
      go_wp2
      go_ret
      obtain ⟨k, j, h1, h2, h3⟩ := HH.out
      refine ⟨r, rfl, ?_, rfl⟩
      rw [← h3]
      exact h2
    · have hz' : (0 : Int) < gk := by omega
      by_cases ho : gk % 2 = 1
      · have e1 : (gk : Int) % 2 = 1 := by omega
        have HN : Hid (∃ k j, Acts (prod v v) k ∧ Acts (prod r v) j ∧ j + k * (gk / 2) = 8 * n) := by
          obtain ⟨k, j, h1, h2, h3⟩ := HH.out
          refine ⟨k + k, j + k, h1.mul h1, h2.mul h1, ?_⟩
          rw [← h3]
          have e : gk = 2 * (gk / 2) + 1 := by omega
          generalize gk / 2 = q at *
          subst e
          rw [Nat.mul_add, Nat.mul_one, Nat.add_mul, ← Nat.mul_assoc, Nat.mul_comm k 2, Nat.two_mul, Nat.add_mul]
          omega
        clear ho HH
        go_wp2_with fail
        refine (rproduct_any r v hr hv _).mono ?_
        rintro e w' ⟨rfl, rfl⟩
        go_wp2_with fail
        refine (rproduct_any v v hv hv _).mono ?_
        rintro e w' ⟨rfl, rfl⟩
        go_wp2
        go_roundg (gk / 2)
        case measure => omega
        case rel => exact ⟨prod r v, prod v v, by omega, rfl, rfl, rfl, rfl, HN.out⟩
      · have e1 : (gk : Int) % 2 = 0 := by omega
        have HN : Hid (∃ k j, Acts (prod v v) k ∧ Acts r j ∧ j + k * (gk / 2) = 8 * n) := by
          obtain ⟨k, j, h1, h2, h3⟩ := HH.out
          refine ⟨k + k, j, h1.mul h1, h2, ?_⟩
          rw [← h3]
          have e : gk = 2 * (gk / 2) := by omega
          generalize gk / 2 = q at *
          subst e
          rw [Nat.add_mul, ← Nat.mul_assoc, Nat.mul_comm k 2, Nat.two_mul, Nat.add_mul]
        clear ho HH
        go_wp2_with fail
        refine (rproduct_any v v hv hv _).mono ?_
        rintro e w' ⟨rfl, rfl⟩
        go_wp2
        go_roundg (gk / 2)
        case measure => omega
        case rel => exact ⟨r, prod v v, by omega, rfl, rfl, rfl, rfl, HN.out⟩

theorem rjoin_no (a b : Nat) (n : Int) (h : n < 0 ∨ 16777216 < n) (w : World) :
    Calls Try.prog 7 #[.int .u32 (a : Int), .int .u32 (b : Int), .int .i64 n] w fun e w' => e = .returned (.tuple #[.int .u32 0, .int .i64 1]) ∧ w' = w := by
  go_enter Try.func7, Try.ntmps7
  rcases h with h | h
  · go_wp2
    go_ret2
    exact ⟨rfl, rfl⟩
  · go_wp2
    go_ret2
    exact ⟨rfl, rfl⟩

theorem rjoin_yes (a b n : Nat) (ha : a < 4294967296) (hb : b < 4294967296) (hn : n ≤ 16777216) (w : World) :
    Calls Try.prog 7 #[.int .u32 (a : Int), .int .u32 (b : Int), .int .i64 (n : Int)] w fun e w' => e = .returned (.tuple #[.int .u32 ((joinN a b n : Nat) : Int), .int .i64 0]) ∧ w' = w := by
  go_enter Try.func7, Try.ntmps7
  go_wp2_with fail
  refine (power_any n hn _).mono ?_
  rintro e w' ⟨p, rfl, hp, rfl⟩
  have HP : Hid (prod a p = mvs (8 * n) a) := by show _ = _; rw [prod_comm ha hp.1, hp.2 a ha]
  have hpl := hp.1
  have e2 := bits_xor_nat (prod a p) b (prod_lt hpl) hb
  clear hp
  go_wp2_with fail
  refine (rproduct_any a p ha hpl _).mono ?_
  rintro e w' ⟨rfl, rfl⟩
  go_wp2
  go_ret2
  refine ⟨?_, rfl⟩
  rw [joinN, ← HP.out]
  rfl

theorem num_any (n : Int) (w : World) : Calls Try.prog 6 #[.int .i64 n] w fun e w' => e = .returned (.int .i64 n) ∧ w' = w := by
  go_enter Try.func6, Try.ntmps6
  go_wp2
  go_ret
  exact ⟨rfl, rfl⟩

theorem fieldJoins_walk (a b : Nat) (n : Int) (ha : a < 4294967296) (hb : b < 4294967296) (w : World) :
    Calls Try.prog 4 #[.int .u32 (a : Int), .int .u32 (b : Int), .int .i64 n] w fun e w' => e = .returned (.bool true) ∧ w' = w := by
  by_cases h : n < 0 ∨ 16777216 < n
  · go_enter Try.func4, Try.ntmps4
    go_wp2_with fail
    refine (join_no a b n h _).mono ?_
    rintro e w' ⟨rfl, rfl⟩
    go_wp2_with fail
    refine (rjoin_no a b n h _).mono ?_
    rintro e w' ⟨rfl, rfl⟩
    go_wp2_with fail
    refine (num_any _ _).mono ?_
    rintro e w' ⟨rfl, rfl⟩
    go_wp2
    go_ret
    exact ⟨rfl, rfl⟩
  · obtain ⟨k, rfl⟩ : ∃ k : Nat, n = k := ⟨n.toNat, by omega⟩
    have hk : k ≤ 16777216 := by omega
    clear h
    go_enter Try.func4, Try.ntmps4
    go_wp2_with fail
    refine (join_yes a b k ha hb hk _).mono ?_
    rintro e w' ⟨rfl, rfl⟩
    go_wp2_with fail
    refine (rjoin_yes a b k ha hb hk _).mono ?_
    rintro e w' ⟨rfl, rfl⟩
    go_wp2_with fail
    refine (num_any _ _).mono ?_
    rintro e w' ⟨rfl, rfl⟩
    go_wp2
    go_ret
    exact ⟨rfl, rfl⟩
end Go.Proofs.Ythjgabncifghaaa
