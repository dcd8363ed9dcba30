import Derived.Test.YtjjepgkcgbbmhacDoorGNvl
namespace Go.Proofs.YtjjepgkcgbbmhacDoor
open Go.RowKit
set_option maxRecDepth 1000000
set_option linter.unusedVariables false

def fmd (s : ByteArray) : Nat → Nat → Bool
  | 0, _ => true
  | n + 1, p => if p < s.size then (if ltn s p = 0 then false else fmd s n (p + ltn s p)) else true

theorem ltn_in (s : ByteArray) (p : Nat) (h : p < s.size) : p + ltn s p ≤ s.size := by
  rcases dec_cases s p h with ⟨h1, _⟩ | ⟨h1, _⟩ | ⟨_, _, _, _, h1, _⟩ <;> omega

set_option maxHeartbeats 2000000 in
theorem formed_any (s : ByteArray) (w : World) (hs : s.size ≤ 65535) :
    Calls Tryd.prog 12 #[.string s] w fun e w' => e = .returned (.bool (fmd s s.size 0)) ∧ w' = w := by
  go_enter Tryd.func12, Tryd.ntmps12
  go_wp2
  go_loopw [3, 4] (fun i _ wr => ∃ p n : Nat, p ≤ s.size ∧ s.size ≤ p + n ∧ i = .int .i64 (p : Int) ∧ wr = w ∧ Hid (fmd s n p = fmd s s.size 0)) (fun i _ _ => s.size - (Lib.intOf i).toNat)
  case atStart => exact ⟨0, s.size, Nat.zero_le _, by omega, rfl, rfl, rfl⟩
  case round =>
    obtain ⟨p, n, hp, hn, rfl, rfl, HS⟩ := hrel
    by_cases hlt : p < s.size
    case neg =>
      have hlt' : (s.size : Int) ≤ (p : Int) := by omega
      have HE : Hid (fmd s s.size 0 = true) := by
        show _ = _
        rw [← HS.out]
        cases n with
        | zero => rfl
        | succ n => simp [fmd, hlt]
      go_wp2
      go_ret
      refine ⟨?_, rfl⟩
      rw [HE.out]
      rfl
    case pos =>
      have c := letter_any s p wr hlt hs
      have hin := ltn_in s p hlt
      obtain ⟨n, rfl⟩ : ∃ m, n = m + 1 := ⟨n - 1, by omega⟩
      have HT : Hid (fmd s s.size 0 = if ltn s p = 0 then false else fmd s n (p + ltn s p)) := by
        show _ = _
        rw [← HS.out]
        simp only [fmd, if_pos hlt]
      generalize ltn s p = l at *
      clear HS
      by_cases h0 : l = 0
      · subst h0
        go_wp2_with (go_at_call 17; refine c.mono ?_; rintro e w1 ⟨rfl, h1⟩; rw [h1]; clear h1 w1)
        go_ret
        refine ⟨?_, rfl⟩
        rw [HT.out]
        rfl
      · have h0' : ((l : Int) == 0) = false := by simp; omega
        go_wp2_with (go_at_call 17; refine c.mono ?_; rintro e w1 ⟨rfl, h1⟩; rw [h1]; clear h1 w1)
        refine ⟨⟨p + l, n, by omega, by omega, by simp, trivial, ?_⟩, ?_⟩
        · show _ = _
          rw [HT.out, if_neg h0]
        · simp only [Lib.intOf]
          omega

set_option maxHeartbeats 2000000 in
theorem part_any (p : ByteArray) (w : World) :
    Calls Tryd.prog 13 #[.string p] w fun e w' => e = .returned (.bool (prt p)) ∧ w' = w := by
  go_enter Tryd.func13, Tryd.ntmps13
  go_wp2
  all_goals (
    go_ret
    refine ⟨?_, rfl⟩
    unfold prt
    simp_all)
end Go.Proofs.YtjjepgkcgbbmhacDoor

