import Derived.Test.YtjjepgkcgbbmhacDoorGNpt
namespace Go.Proofs.YtjjepgkcgbbmhacDoor
open Go.RowKit
set_option maxRecDepth 1000000
set_option linter.unusedVariables false

/-- What CheckName answers. -/
def nmB (s : ByteArray) : Bool := decide (s.size ≤ 65535) && lets s s.size 0 && (pts s).all prt
def nmE (s : ByteArray) : Int := if nmB s = true then 0 else 120

set_option maxHeartbeats 4000000 in
theorem check_any (s : ByteArray) (m : Int) (w : World) (hs : s.size ≤ 9223372036854775807) (hm : w.cell? ⟨0, 0, none⟩ = some (.int .i64 m)) :
    Calls Tryd.prog 6 #[.string s] w fun e w' => e = .returned (.int .i64 (nmE s)) ∧ Below w.heap.size w w' := by
  have h0 : 0 < w.heap.size := World.block_lt_of_cell? _ _ hm
  by_cases hz : s.size ≤ 65535
  case neg =>
    have HE : nmE s = 120 := by simp [nmE, nmB, hz]
    have hg : (65535 : Int) < (s.size : Int) := by omega
    rw [HE]
    go_enter Tryd.func6, Tryd.ntmps6
    go_wp2_with (fail)
    go_ret
    exact ⟨rfl, Below.refl _ _⟩
  have c1 := lets_any s w hs
  have c2 : ∀ w1, Below w.heap.size w w1 → Calls Tryd.prog 11 #[.string s] w1 fun e w' => e = .returned (.bool ((pts s).all prt)) ∧ Below w.heap.size w w' := by
    intro w1 b
    refine (parts_any s m w1 hz (by rw [b.cell (p := ⟨0, 0, none⟩) h0]; exact hm)).mono ?_
    rintro e w2 ⟨rfl, b2⟩
    exact ⟨rfl, b.trans (b2.mono b.size)⟩
  have HE : Hid (nmE s = if lets s s.size 0 = true ∧ (pts s).all prt = true then 0 else 120) := by show _ = _; simp [nmE, nmB, hz]
  have hg : (s.size : Int) ≤ 65535 := by omega
  generalize lets s s.size 0 = A at *
  generalize (pts s).all prt = B at *
  go_enter Tryd.func6, Tryd.ntmps6
  cases A
  · go_wp2_with (first
      | (go_at_call 10; refine c1.mono ?_; rintro e w1 ⟨rfl, b1⟩)
      | (go_at_call 11; refine (c2 _ (by assumption)).mono ?_; rintro e w2 ⟨rfl, b2⟩))
    go_ret
    refine ⟨?_, by assumption⟩
    rw [HE.out]
    rfl
  cases B
  · go_wp2_with (first
      | (go_at_call 10; refine c1.mono ?_; rintro e w1 ⟨rfl, b1⟩)
      | (go_at_call 11; refine (c2 _ (by assumption)).mono ?_; rintro e w2 ⟨rfl, b2⟩))
    go_ret
    refine ⟨?_, by assumption⟩
    rw [HE.out]
    rfl
  · go_wp2_with (first
      | (go_at_call 10; refine c1.mono ?_; rintro e w1 ⟨rfl, b1⟩)
      | (go_at_call 11; refine (c2 _ (by assumption)).mono ?_; rintro e w2 ⟨rfl, b2⟩))
    go_ret
    refine ⟨?_, by assumption⟩
    rw [HE.out]
    rfl
end Go.Proofs.YtjjepgkcgbbmhacDoor

