import Derived.Test.YthjgabncifghaaaPoly
import Derived.WalkKit
import Derived.ProofKit
import Derived.OpenShut
import Derived.ChangeOld
import Derived.Below
import Derived.WalkLawsBesides
import Derived.WalkSpells
import Derived.Deep.LoopGhost
import Derived.Laws.BitsLemmas
namespace Go.Proofs.Ythjgabncifghaaa
open Go.RowKit
set_option maxRecDepth 20000

theorem hide {p : Prop} (h : p) : Hid p := h

theorem bits_xor_nat (a b : Nat) (ha : a < 4294967296) (hb : b < 4294967296) : bits .xor .u32 (a : Int) (b : Int) = ((a ^^^ b : Nat) : Int) := by
  have ha' : a % 2 ^ IntKind.u32.bits = a := Nat.mod_eq_of_lt (by simpa [IntKind.bits] using ha)
  have hb' : b % 2 ^ IntKind.u32.bits = b := Nat.mod_eq_of_lt (by simpa [IntKind.bits] using hb)
  simp only [bits, BitVec.ofInt_natCast, BitVec.toNat_xor, BitVec.toNat_ofNat, ha', hb']
  rw [IntKind.wrap_u32]
  have := xor_lt 32 ha hb
  omega

theorem bits_odd (r : Nat) (h : r < 4294967296) : bits .and .u32 (r : Int) 1 = ((r % 2 : Nat) : Int) := by
  have h1 := bits_mask .u32 32 (by decide) (fun n h0 h1 => by rw [IntKind.wrap_u32]; omega) 1 (by decide) (r : Int) (by omega) (by omega)
  have h2 : bits .and .u32 (r : Int) 1 = (r : Int) % 2 := h1
  rw [h2]; omega

theorem bits_feed (r : Nat) (h : r < 4294967296) : bits .xor .u32 ((r : Int) / 2) 3988292384 = ((r / 2 ^^^ 3988292384 : Nat) : Int) := by
  have e : (r : Int) / 2 = ((r / 2 : Nat) : Int) := by omega
  rw [e]
  exact bits_xor_nat _ 3988292384 (by omega) (by decide)

theorem move_any (r : Nat) (h : r < 4294967296) (w : World) :
    Calls Try.prog 11 #[.int .u32 (r : Int)] w fun e w' => e = .returned (.int .u32 ((mv r : Nat) : Int)) ∧ w' = w := by
  have H := hide h
  by_cases ho : r % 2 = 1
  · have e1 : bits .and .u32 (r : Int) 1 = 1 := by rw [bits_odd r h, ho]; rfl
    have e2 := hide (bits_feed r h)
    have e3 : Hid (mv r = (r / 2 ^^^ 3988292384)) := by show _ = _; unfold mv; rw [if_pos ho]
    clear h ho
    go_enter Try.func11, Try.ntmps11
    go_wp2
    go_ret
    rw [e3.out, ← e2.out]
    exact ⟨rfl, rfl⟩
  · have e1 : bits .and .u32 (r : Int) 1 = 0 := by rw [bits_odd r h]; omega
    have e3 : Hid (mv r = r / 2) := by show _ = _; unfold mv; rw [if_neg ho]
    clear ho
    go_enter Try.func11, Try.ntmps11
    go_wp2
    go_ret
    rw [e3.out]
    exact ⟨rfl, rfl⟩

theorem moved_any (r : Nat) (h : r < 4294967296) (w : World) :
    Calls Try.prog 12 #[.int .u32 (r : Int)] w fun e w' => e = .returned (.int .u32 ((mv r : Nat) : Int)) ∧ w' = w := by
  by_cases ho : r % 2 = 1
  · have e2 := hide (bits_feed r h)
    have e3 : Hid (mv r = (r / 2 ^^^ 3988292384)) := by show _ = _; unfold mv; rw [if_pos ho]
    have e1 : (r : Int) % 2 = 1 := by omega
    go_enter Try.func12, Try.ntmps12
    go_wp2
    go_ret
    rw [e3.out, ← e2.out]
    exact ⟨rfl, rfl⟩
  · have e3 : Hid (mv r = r / 2) := by show _ = _; unfold mv; rw [if_neg ho]
    have e1 : (r : Int) % 2 = 0 := by omega
    go_enter Try.func12, Try.ntmps12
    go_wp2
    go_ret
    rw [e3.out]
    exact ⟨rfl, rfl⟩

theorem shift_top {a g : Nat} (hg : g + 1 ≤ 32) (hz : a % 2 ^ (32 - (g + 1)) = 0) : a * 2 % 4294967296 % 2 ^ (32 - g) = 0 := by
  obtain ⟨c, hc⟩ := Nat.dvd_of_mod_eq_zero hz
  have e : 32 - g = (32 - (g + 1)) + 1 := by omega
  have d : 2 ^ (32 - g) ∣ a * 2 := ⟨c, by rw [hc, e, Nat.pow_succ]; ac_rfl⟩
  have d2 : 2 ^ (32 - g) ∣ 4294967296 := Nat.pow_dvd_pow 2 (show 32 - g ≤ 32 by omega)
  exact Nat.mod_eq_zero_of_dvd ((Nat.dvd_mod_iff d2).2 d)

theorem product_any (a0 b0 : Nat) (ha0 : a0 < 4294967296) (hb0 : b0 < 4294967296) (w : World) :
    Calls Try.prog 8 #[.int .u32 (a0 : Int), .int .u32 (b0 : Int)] w fun e w' => e = .returned (.int .u32 ((prod a0 b0 : Nat) : Int)) ∧ w' = w := by
  go_enter Try.func8, Try.ntmps8
  go_wp2
  go_loopg [0, 1, 5] 32 (fun g x y z wr => ∃ a b o : Nat, g ≤ 32 ∧ x = .int .u32 (a : Int) ∧ y = .int .u32 (b : Int) ∧ z = .int .u32 (o : Int) ∧ wr = w ∧ a < 4294967296 ∧ b < 4294967296 ∧ o < 4294967296 ∧ Hid (a % 2 ^ (32 - g) = 0 ∧ o ^^^ prodK g a b = prod a0 b0))
  case atStart => exact ⟨a0, b0, 0, by omega, rfl, rfl, rfl, rfl, ha0, hb0, by omega, Nat.mod_one _, Nat.zero_xor _⟩
  case round =>
    obtain ⟨a, b, o, hg, rfl, rfl, rfl, rfl, ha, hb, ho, HH⟩ := hrel
    by_cases hz : a = 0
    · subst hz
      go_wp2
      go_ret
      refine ⟨?_, rfl⟩
      have h := HH.out.2
      rw [prodK_zero_left, Nat.xor_zero] at h
      rw [h]
      rfl
    · cases gk with
      | zero => exact absurd HH.out.1 (by rw [Nat.sub_zero, Nat.mod_eq_of_lt ha]; exact hz)
      | succ g =>
        have hz' : ¬ (a : Int) = 0 := by omega
        have HN : Hid (a * 2 % 4294967296 % 2 ^ (32 - g) = 0) := shift_top (by omega) HH.out.1
        have HM := hide (mv_lt hb)
        by_cases ht : 2147483648 ≤ a
        · have e1 : (a : Int) / 2147483648 = 1 := by omega
          have e2 := bits_xor_nat o b ho hb
          have HO := hide (xor_lt 32 ho hb)
          have HP : Hid ((o ^^^ b) ^^^ prodK g (a * 2 % 4294967296) (mv b) = prod a0 b0) := by
            have h := HH.out.2
            rw [prodK, if_pos ht, ← Nat.xor_assoc] at h
            exact h
          clear hz ht HH
          go_wp2_with fail
          refine (move_any b hb _).mono ?_
          rintro e w' ⟨rfl, rfl⟩
          go_wp2
          go_roundg g
          case measure => omega
          case rel => exact ⟨a * 2 % 4294967296, mv b, o ^^^ b, by omega, congrArg (Value.int .u32) (by omega), rfl, rfl, rfl, Nat.mod_lt _ (by decide), HM.out, HO.out, HN.out, HP.out⟩
        · have e1 : (a : Int) / 2147483648 = 0 := by omega
          have HP : Hid (o ^^^ prodK g (a * 2 % 4294967296) (mv b) = prod a0 b0) := by
            have h := HH.out.2
            rw [prodK, if_neg ht, Nat.zero_xor] at h
            exact h
          clear hz ht HH
          go_wp2_with fail
          refine (move_any b hb _).mono ?_
          rintro e w' ⟨rfl, rfl⟩
          go_wp2
          go_roundg g
          case measure => omega
          case rel => exact ⟨a * 2 % 4294967296, mv b, o, by omega, congrArg (Value.int .u32) (by omega), rfl, rfl, rfl, Nat.mod_lt _ (by decide), HM.out, ho, HN.out, HP.out⟩
theorem rproduct_any (a0 b0 : Nat) (ha0 : a0 < 4294967296) (hb0 : b0 < 4294967296) (w : World) :
    Calls Try.prog 10 #[.int .u32 (a0 : Int), .int .u32 (b0 : Int)] w fun e w' => e = .returned (.int .u32 ((prod a0 b0 : Nat) : Int)) ∧ w' = w := by
  go_enter Try.func10, Try.ntmps10
  go_wp2
  go_loopg [0, 1, 5, 6] 32 (fun g x y z i wr => ∃ a b o : Nat, g ≤ 32 ∧ i = .int .i64 ((32 - g : Nat) : Int) ∧ x = .int .u32 (a : Int) ∧ y = .int .u32 (b : Int) ∧ z = .int .u32 (o : Int) ∧ wr = w ∧ a < 4294967296 ∧ b < 4294967296 ∧ o < 4294967296 ∧ Hid (o ^^^ prodK g a b = prod a0 b0))
  case atStart => exact ⟨a0, b0, 0, by omega, rfl, rfl, rfl, rfl, rfl, ha0, hb0, by omega, Nat.zero_xor _⟩
  case round =>
    obtain ⟨a, b, o, hg, rfl, rfl, rfl, rfl, rfl, ha, hb, ho, HH⟩ := hrel
    cases gk with
    | zero =>
      go_wp2
      go_ret
      refine ⟨?_, rfl⟩
      have h := HH.out
      rw [prodK, Nat.xor_zero] at h
      rw [h]
      rfl
    | succ g =>
      have HM := hide (mv_lt hb)
      have hi : ((32 - (g + 1) : Nat) : Int) = 31 - g := by omega
      by_cases ht : 2147483648 ≤ a
      · have e2 := bits_xor_nat o b ho hb
        have HO := hide (xor_lt 32 ho hb)
        have HP : Hid ((o ^^^ b) ^^^ prodK g (a * 2 % 4294967296) (mv b) = prod a0 b0) := by
          have h := HH.out
          rw [prodK, if_pos ht, ← Nat.xor_assoc] at h
          exact h
        have ht' : (2147483648 : Int) ≤ (a : Int) := by omega
        clear ht HH
        go_wp2_with fail
        refine (moved_any b hb _).mono ?_
        rintro e w' ⟨rfl, rfl⟩
        go_wp2
        go_roundg g
        case measure => omega
        case rel => exact ⟨a * 2 % 4294967296, mv b, o ^^^ b, by omega, congrArg (Value.int .i64) (by omega), congrArg (Value.int .u32) (by omega), rfl, rfl, rfl, Nat.mod_lt _ (by decide), HM.out, HO.out, HP.out⟩
      · have HP : Hid (o ^^^ prodK g (a * 2 % 4294967296) (mv b) = prod a0 b0) := by
          have h := HH.out
          rw [prodK, if_neg ht, Nat.zero_xor] at h
          exact h
        have ht' : ¬ (2147483648 : Int) ≤ (a : Int) := by omega
        clear ht HH
        go_wp2_with fail
        refine (moved_any b hb _).mono ?_
        rintro e w' ⟨rfl, rfl⟩
        go_wp2
        go_roundg g
        case measure => omega
        case rel => exact ⟨a * 2 % 4294967296, mv b, o, by omega, congrArg (Value.int .i64) (by omega), congrArg (Value.int .u32) (by omega), rfl, rfl, rfl, Nat.mod_lt _ (by decide), HM.out, ho, HP.out⟩

end Go.Proofs.Ythjgabncifghaaa
