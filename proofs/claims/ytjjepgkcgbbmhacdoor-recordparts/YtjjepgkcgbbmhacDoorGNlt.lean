import Derived.Test.YtjjepgkcgbbmhacDoorGNmn
import Derived.Test.YtjjepgkcgbbmhacDoorGNhp
import Derived.Test.YtjjepgkcgbbmhacDoorCards
import Derived.Test.YtjjepgkcgbbmhacDoorChecked
import Derived.Lib.Strings
import Derived.Lib.Slices
import Derived.Lib.Walk
import Derived.Lib.OthersKept
import Derived.WalkKit
import Derived.ProofKit
import Derived.OpenShut
import Derived.ShutString
import Derived.ChangeOld
import Derived.Below
import Derived.WalkLawsBesides
import Derived.WalkSpells
import Derived.Deep.QuietTactic
import Derived.BigQuiet
import Derived.Handy
import Derived.Lib.LaidTab
import Derived.Stop.LaidErr
import Derived.Maps.Own
import Derived.RowKit
namespace Go.Proofs.YtjjepgkcgbbmhacDoor
open Go.RowKit
set_option maxRecDepth 1000000
set_option linter.unusedVariables false

/-- May the rune at p stand in a name? (as the program asks) -/
def rok (s : ByteArray) (p : Nat) : Bool :=
  !(decide ((Utf8.decode s p).1 < 32) || decide ((Utf8.decode s p).1 = 127) || decide ((Utf8.decode s p).1 = 92) || (decide ((Utf8.decode s p).1 = 65533) && !Lib.hasPrefix (s.extract p s.size).data.toList [239, 191, 189]))
def lets (s : ByteArray) : Nat → Nat → Bool
  | 0, _ => true
  | n + 1, p => if p < s.size then rok s p && lets s n (p + (Utf8.decode s p).2) else true

set_option maxHeartbeats 4000000 in
theorem lets_any (s : ByteArray) (w : World) (hs : s.size ≤ 9223372036854775807) :
    Calls Tryd.prog 10 #[.string s] w fun e w' => e = .returned (.bool (lets s s.size 0)) ∧ Below w.heap.size w w' := by
  go_enter Tryd.func10, Tryd.ntmps10
  go_wp2
  go_loopw [3, 4] (fun _ _ wr => ∃ (pos fuel : Nat), wr.heap[w.heap.size]? = some (.stringIter s pos) ∧ Below w.heap.size w wr ∧ Hid (lets s fuel pos = lets s s.size 0) ∧ s.size ≤ pos + fuel) (fun _ _ wr => s.size - wr.iterPos w.heap.size)
  case atStart => exact ⟨0, s.size, World.iter_heap w s 0, (Below.refl _ _).alloc (Nat.le_refl _) _, rfl, by omega⟩
  case round =>
    obtain ⟨pos, fuel, hit, hbw, HS, hb⟩ := hrel
    by_cases hp : pos < s.size
    · have hnx : ∀ ty, (Instr.next (.pointer (some ⟨w.heap.size, 0, none⟩)) true ty).run Tryd.prog wr = _ := fun ty => Lib.run_next_any_at wr w.heap.size s pos ty hit hp
      obtain ⟨fuel, rfl⟩ : ∃ f', fuel = f' + 1 := ⟨fuel - 1, by omega⟩
      have hit2 := Lib.iterAt_heap wr w.heap.size s pos (pos + (Utf8.decode s pos).2) hit
      have hbw2 := Lib.below_iterAt hbw (k := w.heap.size) (Nat.le_refl _) s (pos + (Utf8.decode s pos).2)
      obtain ⟨W1, hW1⟩ : ∃ W1, W1 = wr.iterAt w.heap.size s (pos + (Utf8.decode s pos).2) := ⟨_, rfl⟩
      rw [← hW1] at hnx hit2 hbw2
      have hwd : 1 ≤ (Utf8.decode s pos).2 := by
        rcases dec_cases s pos hp with h | h | h
        · omega
        · rw [h.2.1]; exact Nat.le_refl _
        · omega
      have hpos0 := iterPos_of hit
      clear hW1
      obtain ⟨r, hr⟩ : ∃ r, r = (Utf8.decode s pos).1 := ⟨_, rfl⟩
      have HL : Hid (lets s (fuel + 1) pos = (rok s pos && lets s fuel (pos + (Utf8.decode s pos).2))) := by show _ = _; simp only [lets, if_pos hp]
      have HR : Hid (rok s pos = !(decide (r < 32) || decide (r = 127) || decide (r = 92) || (decide (r = 65533) && !Lib.hasPrefix (s.extract pos s.size).data.toList [239, 191, 189]))) := by show _ = _; rw [hr]; rfl
      have hr31 : r ≤ 2147483647 := by rw [hr]; exact decode_le s pos
      rw [← hr] at hnx
      generalize (Utf8.decode s pos).2 = wd at *
      clear hr hit hbw
      obtain ⟨P, hP⟩ : ∃ P, P = Lib.hasPrefix (s.extract pos s.size).data.toList [239, 191, 189] := ⟨_, rfl⟩
      have HR1 : r < 32 ∨ r = 127 ∨ r = 92 ∨ (r = 65533 ∧ P = false) → Hid (lets s s.size 0 = false) := by
        intro h
        show _ = _
        rw [← HS.out, HL.out, HR.out, ← hP]
        rcases h with h | h | h | ⟨h, h'⟩
        · simp [h]
        · simp [h]
        · simp [h]
        · simp [h, h']
      have HR2 : 32 ≤ r → r ≠ 127 → r ≠ 92 → (r = 65533 → P = true) → Hid (lets s fuel (pos + wd) = lets s s.size 0) := by
        intro h1 h2 h3 h4
        show _ = _
        rw [← HS.out, HL.out, HR.out, ← hP]
        by_cases h5 : r = 65533
        · simp [h5, h4 h5]
        · have h6 : ¬ r < 32 := by omega
          simp [h2, h3, h5, h6]
      have HPC : ∀ w0 : World, Calls Tryd.prog 14 #[.string (s.extract pos s.size), .string ⟨#[239, 191, 189]⟩] w0 fun e w' => e = .returned (.bool P) ∧ w' = w0 := by
        intro w0
        rw [hP]
        exact hasPre_any _ _ _
      clear HR HL HS hP
      go_wp2_with (go_at_call 14; refine (HPC _).mono ?_; rintro e w' ⟨rfl, rfl⟩)
      all_goals first
        | (refine ⟨⟨pos + wd, fuel, hit2, hbw2, HR2 (by omega) (by simp_all; try omega) (by simp_all; try omega) (by simp_all; try omega), by omega⟩, by rw [iterPos_of hit2, hpos0]; omega⟩)
        | (go_ret
           refine ⟨?_, hbw2⟩
           rw [(HR1 (by simp_all; try omega)).out]
           rfl)
    · have hnx : ∀ ty, (Instr.next (.pointer (some ⟨w.heap.size, 0, none⟩)) true ty).run Tryd.prog wr = _ := fun ty => Lib.run_next_end_at wr w.heap.size s pos ty hit hp
      go_wp2
      go_ret
      refine ⟨?_, hbw⟩
      rw [← HS.out]
      cases fuel with
      | zero => rfl
      | succ n => simp [lets, hp]
end Go.Proofs.YtjjepgkcgbbmhacDoor

