import Derived.Test.YtagikpkkbopcbaaDoorG12Shv
namespace Go.Proofs.YtagikpkkbopcbaaDoor
open Go.RowKit Go.Maps
set_option maxRecDepth 20000
set_option linter.unusedVariables false
set_option linter.unusedSimpArgs false

set_option maxHeartbeats 16000000 in
theorem parse_any (s : ByteArray) (w : World) (hs : s.size ≤ 1048576) (h : Esy w) : Calls Tryd.prog 4 #[.string s] w fun e w' => Pans s w e w' ∧ Below w.heap.size w w' := by
  have HE := hide h
  clear h
  go_enter Tryd.func4, Tryd.ntmps4
  go_wp2
  go_step3
  go_wp2
  go_step3
  go_wp2
  go_loopw [4, 5] (fun v i wr => ∃ (a : Option Addr) (n cp : Nat) (ws : List ByteArray) (k : Nat), v = .slice a n cp ∧ i = .int .i64 (k : Int) ∧ k ≤ s.size ∧ Hid (Pst s w wr a n cp ws k)) (fun _ i _ => s.size - (intOf i).toNat)
  case atStart => exact ⟨none, 0, 0, [], 0, rfl, rfl, by omega, Pst.start s w⟩
  case round =>
    obtain ⟨a, n, cp, ws, k0, rfl, rfl, hk0, HP0⟩ := hrel
    go_wp2
    go_loopw [5] (fun i wq => ∃ k : Nat, i = .int .i64 (k : Int) ∧ k0 ≤ k ∧ k ≤ s.size ∧ Hid (Pst s w wq a n cp ws k)) (fun i _ => s.size - (intOf i).toNat)
    case atStart => exact ⟨k0, rfl, Nat.le_refl _, hk0, HP0⟩
    case round =>
      obtain ⟨k, rfl, hkk, hk, HP⟩ := hrel
      clear HP0
      by_cases c : k < s.size
      case neg =>
        have c' : ((k : Int) == (s.size : Int)) = true := by simp; omega
        have HF := hide (HP.out.ends (by omega))
        have HB := hide HP.out.2.2.2.2
        clear HP
        go_wp2
        rw [Exit.noGoto_ret]
        go_ret2
        exact ⟨HF.out, HB.out⟩
      have c' : ((k : Int) == (s.size : Int)) = false := by simp; omega
      have x0 := fun wx => run_ix s k c _ rfl wx
      obtain ⟨b, HBB⟩ : ∃ b, Hid (bI s k = b) := ⟨_, rfl⟩
      rw [HBB.out] at x0
      by_cases d : b = 32
      · have HP2 := hide (HP.out.blank c (by rw [HBB.out]; exact d))
        subst d
        clear HP HBB
        go_wp2
        exact ⟨⟨k + 1, by go_num, by omega, by omega, HP2⟩, by simp [intOf]; omega⟩
      · have d' : (b != 32) = true := by simpa using d
        have HD : Hid (bI s k ≠ 32) := by rw [HBB.out]; exact d
        have HLW : Hid (ws.length ≤ 1048576) := by have := HP.out.2.1; show _ ≤ _; omega
        have HWA := hide (wordAhead_any s k wr c hs HD.out (HE.out.below HP.out.2.2.2.2))
        clear HBB
        go_wp2_with fail
        refine HWA.out.mono ?_
        rintro e w1 ⟨⟨o, q1, q2⟩, hb1⟩
        have HP1 := hide (HP.out.low hb1)
        rcases q2 with ⟨rfl, x, rfl⟩ | ⟨wd, k2, rfl, rfl⟩
        · have HF := hide (HP.out.bad c HD.out q1)
          have HB := hide HP1.out.2.2.2.2
          clear hb1 q1 HWA HP HP1
          go_wp2
          rw [Exit.noGoto_ret]
          go_ret2
          exact ⟨.inl ⟨HF.out, rfl⟩, HB.out⟩
        · obtain ⟨h1, h2⟩ := q1.gt
          have HWD := hide q1
          have z0 : ((k2 : Int) - (k : Int) == 0) = false := by simp; omega
          have hat : IntKind.i64.wrap ((k : Int) + ((k2 : Int) - (k : Int))) = (k2 : Int) := by rw [IntKind.wrap_i64]; omega
          clear hb1 q1 HWA HP
          go_wp2_with (at_builtin; refine wpList_strs rfl _ _ rfl w.heap.size _ ws rfl (HP1.out.2.2.1.alloc _) ⟨w1.heap.size, 0, none⟩ _ wd rfl (new_cell w1 _) HLW.out (by have := HP1.out.2.2.2.2.size; simp; omega) ?_)
          intro v3 w3 o3 g3
          obtain ⟨a3, c3, rfl, hv⟩ := HP1.out.word c HD.out HWD.out o3 g3
          have HP3 := hide hv
          clear o3 g3 hv HP1 HWD
          go_wp2
          go_roundw
          case rel => exact ⟨a3, n + 1, c3, _, k2, rfl, by go_num, by omega, HP3⟩
          case measure => simp [intOf]; omega
end Go.Proofs.YtagikpkkbopcbaaDoor

