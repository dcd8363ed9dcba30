import Derived.Test.YtijmmfimkibgbaaGRe
import Derived.Laws.Bits64
namespace Go.Proofs.Ytijmmfimkibgbaa
open Go.RowKit Go.Maps
set_option maxRecDepth 20000
set_option linter.unusedVariables false

theorem nat_xor1 (n : Nat) : n ^^^ 1 = if n % 2 = 0 then n + 1 else n - 1 := by
  by_cases h : n % 2 = 0
  · rw [if_pos h]
    obtain ⟨m, rfl⟩ : ∃ m, n = 2 * m := ⟨n / 2, by omega⟩
    apply Nat.eq_of_testBit_eq
    intro i
    cases i with
    | zero => simp [Nat.testBit_zero]
    | succ i =>
      rw [Nat.testBit_xor, Nat.testBit_succ, Nat.testBit_succ, Nat.testBit_succ]
      rw [show 2 * m / 2 = m by omega, show (1 : Nat) / 2 = 0 by decide, show (2 * m + 1) / 2 = m by omega]
      simp
  · rw [if_neg h]
    obtain ⟨m, rfl⟩ : ∃ m, n = 2 * m + 1 := ⟨n / 2, by omega⟩
    apply Nat.eq_of_testBit_eq
    intro i
    cases i with
    | zero => simp [Nat.testBit_zero]
    | succ i =>
      rw [Nat.testBit_xor, Nat.testBit_succ, Nat.testBit_succ, Nat.testBit_succ]
      rw [show (2 * m + 1) / 2 = m by omega, show (1 : Nat) / 2 = 0 by decide, show (2 * m + 1 - 1) / 2 = m by omega]
      simp

theorem xor1_u32 {s : Int} (h0 : 0 ≤ s) (h1 : s < 4294967296) : bits .xor .u32 s 1 = if s % 2 = 0 then s + 1 else s - 1 := by
  obtain ⟨n, rfl⟩ : ∃ n : Nat, s = n := ⟨s.toNat, by omega⟩
  have hn : n < 4294967296 := by omega
  have e : bits .xor .u32 (n : Int) 1 = ((n ^^^ 1 : Nat) : Int) := by
    have hx : n ^^^ 1 < 2 ^ 32 := Nat.xor_lt_two_pow (by omega) (by omega)
    have h1 : (BitVec.ofInt 32 (n : Int)).toNat = n := by
      rw [BitVec.ofInt_natCast, BitVec.toNat_ofNat]; exact Nat.mod_eq_of_lt (by omega)
    have h2 : (BitVec.ofInt 32 1).toNat = 1 := by decide
    show IntKind.u32.wrap ((BitVec.ofInt 32 (n : Int) ^^^ BitVec.ofInt 32 1).toNat : Int) = _
    rw [BitVec.toNat_xor, h1, h2, IntKind.wrap_u32]
    omega
  rw [e, nat_xor1]
  split <;> split <;> omega
end Go.Proofs.Ytijmmfimkibgbaa

