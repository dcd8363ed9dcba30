import Derived.Test.YtjjepgkcgbbmhacDoorGNck
namespace Go.Proofs.YtjjepgkcgbbmhacDoor
open Go.RowKit
set_option maxRecDepth 1000000
set_option linter.unusedVariables false

theorem bt_at (s : ByteArray) (k : Nat) (h : k < s.size) : bt s k = (s[k]'h).toNat := congrArg UInt8.toNat (get_at s k h)

set_option maxHeartbeats 2000000 in
theorem among_any (s : ByteArray) (k lo hi : Nat) (w : World) (hs : s.size ≤ 9223372036854775807) :
    Calls Tryd.prog 26 #[.string s, .int .i64 (k : Int), .int .u8 (lo : Int), .int .u8 (hi : Int)] w fun e w' => e = .returned (.bool (amg s k lo hi)) ∧ w' = w := by
  by_cases hk : k < s.size
  · have hb := bt_at s k hk
    have HE : Hid (amg s k lo hi = (decide (lo ≤ (s[k]'hk).toNat) && decide ((s[k]'hk).toNat ≤ hi))) := by show _ = _; simp [amg, hk, hb]
    clear hb
    go_enter Tryd.func26, Tryd.ntmps26
    go_wp2
    all_goals (
      go_ret
      refine ⟨?_, rfl⟩
      rw [HE.out]
      simp_all <;> omega)
  · have he : amg s k lo hi = false := by simp [amg, hk]
    have hk' : (s.size : Int) ≤ (k : Int) := by omega
    rw [he]
    go_enter Tryd.func26, Tryd.ntmps26
    go_wp2
    go_ret
    exact ⟨rfl, rfl⟩

set_option maxHeartbeats 2000000 in
theorem tails_any (s : ByteArray) (k n : Nat) (w : World) (hs : s.size ≤ 9223372036854775807) (hk : k + n ≤ 9223372036854775800) :
    Calls Tryd.prog 21 #[.string s, .int .i64 (k : Int), .int .i64 (n : Int)] w fun e w' => e = .returned (.bool (tls s k n)) ∧ w' = w := by
  go_enter Tryd.func21, Tryd.ntmps21
  go_wp2
  go_loopw [7, 8] (fun i _ wr => ∃ j : Nat, j ≤ n ∧ i = .int .i64 (j : Int) ∧ wr = w ∧ Hid (tls s (k + j) (n - j) = tls s k n)) (fun i _ _ => n - (Lib.intOf i).toNat)
  case atStart => exact ⟨0, Nat.zero_le _, rfl, rfl, rfl⟩
  case round =>
    obtain ⟨j, hj, rfl, rfl, HS⟩ := hrel
    by_cases hlt : j < n
    case neg =>
      have e : j = n := by omega
      subst e
      go_wp2
      go_ret
      refine ⟨?_, rfl⟩
      rw [← HS.out, Nat.sub_self]
      rfl
    case pos =>
      have c := among_any s (k + j) 128 191 wr hs
      have HT : Hid (tls s k n = (amg s (k + j) 128 191 && tls s (k + (j + 1)) (n - (j + 1)))) := by
        show _ = _
        rw [← HS.out, show n - j = (n - (j + 1)) + 1 by omega]
        rfl
      have hcast : ((k + j : Nat) : Int) = (k : Int) + (j : Int) := by omega
      rw [hcast] at c
      generalize amg s (k + j) 128 191 = A at *
      clear HS
      cases A
      · go_wp2_with (go_at_call 26; refine c.mono ?_; rintro e w1 ⟨rfl, h1⟩; rw [h1]; clear h1 w1)
        go_ret
        refine ⟨?_, rfl⟩
        rw [HT.out]
        rfl
      · go_wp2_with (go_at_call 26; refine c.mono ?_; rintro e w1 ⟨rfl, h1⟩; rw [h1]; clear h1 w1)
        refine ⟨⟨j + 1, by omega, by simp, trivial, HT.out.symm⟩, ?_⟩
        simp only [Lib.intOf]
        omega
end Go.Proofs.YtjjepgkcgbbmhacDoor

