import Derived.Test.YtagikpkkbopcbaaDoorG03Shn
import Derived.Handy
import Derived.Lib.Walk
namespace Go.Proofs.YtagikpkkbopcbaaDoor
open Go.RowKit Go.Maps
set_option maxRecDepth 20000
set_option linter.unusedVariables false
set_option linter.unusedSimpArgs false

theorem run_ix (s : ByteArray) (k : Nat) (h : k < s.size) (i : Int) (hi : i = (k : Int)) (w : World) : (Instr.index 9 (.string s) (.int .i64 i)).run Tryd.prog w = .ok (.int .u8 (bI s k)) w := by
  subst hi
  rw [run_index_string w 9 s .i64 (k : Int) Tryd.underlying9, dif_pos (by omega), bI_at s k h]
  simp

set_option maxHeartbeats 2000000 in
theorem digit_any (c : Int) (w : World) (h0 : 0 ≤ c) (h1 : c < 256) : Calls Tryd.prog 12 #[.int .u8 c] w fun e w' => e = .returned (.int .i64 (hx c)) ∧ w' = w := by
  have hc : (48 ≤ c ∧ c ≤ 57) ∨ (97 ≤ c ∧ c ≤ 102) ∨ (65 ≤ c ∧ c ≤ 70) ∨ c < 48 ∨ (57 < c ∧ c < 65) ∨ (70 < c ∧ c < 97) ∨ 102 < c := by omega
  have HX := hide (rfl : hx c = hx c)
  have HV : Hid (hx c = if 48 ≤ c ∧ c ≤ 57 then c - 48 else if 97 ≤ c ∧ c ≤ 102 then c - 97 + 10 else if 65 ≤ c ∧ c ≤ 70 then c - 65 + 10 else -1) := by
    show _ = _
    unfold hx
    repeat' split
    all_goals omega
  obtain ⟨V, hV⟩ : ∃ V, hx c = V := ⟨_, rfl⟩
  rw [hV] at HV ⊢
  clear HX hV
  rcases hc with ⟨a, b⟩ | ⟨a, b⟩ | ⟨a, b⟩ | a | ⟨a, b⟩ | ⟨a, b⟩ | a
  all_goals
    go_enter Tryd.func12, Tryd.ntmps12
    go_wp2
    go_ret
    rw [HV.out]
    repeat' split
    all_goals first
      | omega
      | (refine ⟨?_, rfl⟩; go_num)
      | exact ⟨rfl, rfl⟩

set_option maxHeartbeats 2000000 in
theorem sizeAlone_any (t : ByteArray) (e : Nat) (w : World) (he : e ≤ t.size) (hs : t.size ≤ 1048576) (E : Int) (hE : E = (e : Int)) : Calls Tryd.prog 13 #[.string t, .int .i64 E] w fun r w' => ((alone t e ∧ r = .returned (.int .i64 (e : Int))) ∨ (¬ alone t e ∧ r = .returned (.int .i64 0))) ∧ w' = w := by
  subst hE
  by_cases c : e < t.size
  · have x := fun wx => run_ix t e c _ rfl wx
    have HA : Hid (alone t e ↔ bI t e = 32) := by
      show _ ↔ _
      unfold alone
      constructor
      · intro h; exact Classical.byContradiction fun q => h ⟨c, q⟩
      · rintro h ⟨_, q⟩; exact q h
    obtain ⟨b, hb⟩ : ∃ b, bI t e = b := ⟨_, rfl⟩
    rw [hb] at x HA
    clear hb
    by_cases d : b = 32
    · have HA1 : Hid (alone t e) := HA.out.2 d
      clear HA
      subst d
      go_enter Tryd.func13, Tryd.ntmps13
      go_wp2
      go_ret
      exact ⟨.inl ⟨HA1.out, rfl⟩, rfl⟩
    · have d' : (b != 32) = true := by simpa using d
      go_enter Tryd.func13, Tryd.ntmps13
      go_wp2
      go_ret
      exact ⟨.inr ⟨fun q => d (HA.out.1 q), rfl⟩, rfl⟩
  · have c' : ¬ (e : Int) < (t.size : Int) := by omega
    have HA : Hid (alone t e) := fun q => c q.1
    go_enter Tryd.func13, Tryd.ntmps13
    go_wp2
    go_ret
    exact ⟨.inl ⟨HA.out, rfl⟩, rfl⟩
end Go.Proofs.YtagikpkkbopcbaaDoor

