import Derived.Test.YtjjepgkcgbbmhabGLnb
import Derived.Test.YtjjepgkcgbbmhabGVpt
namespace Go.Proofs.Ytjjepgkcgbbmhab
open Go.RowKit Go.Maps
set_option maxRecDepth 20000
set_option linter.unusedVariables false
set_option linter.unusedSimpArgs false

theorem take_snoc12 {l : List Int} {k : Nat} (h : k < l.length) : l.take (k + 1) = l.take k ++ [l.getD k 0] := by
  rw [List.take_succ_eq_append_getElem h]
  simp [List.getD, h]

set_option maxHeartbeats 2000000 in
theorem joined_any (v1 v2 : Value) (l1 l2 : List Int) (w : World) (h1 : SB w v1 l1) (h2 : SB w v2 l2) (hl : l1.length + l2.length ≤ 140737488351232) :
    Calls Try.prog 27 #[v1, v2] w fun e w' => ∃ a c, e = .returned (.slice a (l1 ++ l2).length c) ∧ OB w' w.heap.size (.slice a (l1 ++ l2).length c) (l1 ++ l2) ∧ Below w.heap.size w w' := by
  have H1 := hide h1
  have H2 := hide h2
  obtain ⟨ao1, cap1, rfl, q1, q2, q3⟩ := h1.open11
  obtain ⟨ao2, cap2, rfl, r1, r2, r3⟩ := h2.open11
  obtain ⟨T, HTT⟩ : ∃ T, Hid (T = l1 ++ l2) := ⟨_, rfl⟩
  rw [← HTT.out]
  clear h1 h2 q3 r3
  go_enter Try.func27, Try.ntmps27
  go_wp2_with fail
  refine (copied_any _ l1 w H1.out (by omega)).mono ?_
  rintro e w1 ⟨a1, c1, rfl, ho1, hb1⟩
  have HO1 := hide ho1
  have HB1 := hide hb1
  clear ho1 hb1
  go_wp2
  go_loopw [5, 6] (fun y i wr => ∃ (k : Nat) (a : Option Addr) (c L : Nat), k ≤ l2.length ∧ i = .int .i64 k ∧ y = .slice a L c ∧ L ≤ 140737488351232 ∧ Hid (L = (l1 ++ l2.take k).length ∧ OB wr w.heap.size (.slice a L c) (l1 ++ l2.take k)) ∧ Hid (Below w.heap.size w wr)) (fun _ i _ => l2.length - (intOf i).toNat)
  case atStart => exact ⟨0, a1, c1, l1.length, Nat.zero_le _, rfl, rfl, by omega, ⟨by simp, by simpa using HO1.out⟩, HB1.out⟩
  case round =>
    clear HO1 HB1
    obtain ⟨k, a, c, L, hk, rfl, rfl, hL, HO, HB⟩ := hrel
    by_cases hlt : k < l2.length
    · have hlt' : (k : Int) < (l2.length : Int) := by omega
      obtain ⟨J, HJ⟩ : ∃ J, Hid (J = l1 ++ l2.take k) := ⟨_, rfl⟩
      rw [← HJ.out] at HO
      obtain ⟨hLJ, hOJ⟩ := HO.out
      have HOJ := hide hOJ
      have HJl : Hid (J.length = l1.length + k) := by show _ = _; rw [HJ.out, List.length_append, List.length_take]; omega
      subst hLJ
      obtain ⟨b2, o2, rfl, hcv⟩ := H2.out.byte HB.out hlt
      obtain ⟨b, hb, HBt⟩ : ∃ b : Int, wr.cell? ⟨b2, o2 + k, none⟩ = some (.int .u8 b) ∧ Hid (b = l2.getD k 0) := ⟨_, hcv, rfl⟩
      have HLn : Hid (J.length + [b].length ≤ 140737488355328) := by show _ ≤ _; simp; omega
      have HBs : Hid (w.heap.size ≤ (wr.alloc (.cells #[.int .u8 b] 5)).heap.size) := by show _ ≤ _; have := HB.out.size; rw [size_alloc']; omega
      clear HO hOJ hcv
      go_wp2_with (at_builtin; refine wpList_app rfl _ _ 22 rfl w.heap.size _ _ J [b] rfl (HOJ.out.alloc _) rfl (built_src wr [b]) HLn.out HBs.out ?_)
      intro v' w2 ho hgr
      have HN : Hid (J ++ [b] = l1 ++ l2.take (k + 1)) := by show _ = _; rw [HJ.out, take_snoc12 hlt, HBt.out, List.append_assoc]
      have ho' : OB w2 w.heap.size v' (l1 ++ l2.take (k + 1)) := by rw [← HN.out]; exact ho
      have hb2 := grown_to HB.out (Nat.le_refl _) HOJ.out hgr
      obtain ⟨av, cv, rfl⟩ := ho'.shape
      have HLL : Hid ((l1 ++ l2.take (k + 1)).length ≤ 140737488351232) := by show _ ≤ _; rw [List.length_append, List.length_take]; omega
      obtain ⟨M, hM⟩ : ∃ M, M = (l1 ++ l2.take (k + 1)).length := ⟨_, rfl⟩
      rw [← hM] at ho' HLL
      have HM := hide hM
      have HO2 := hide ho'
      have HB2 := hide hb2
      rw [← hM]
      clear ho ho' hb2 hgr hM hb
      go_wp2
      go_roundw
      case rel => exact ⟨k + 1, av, cv, M, by omega, by go_num, rfl, HLL.out, ⟨HM.out, HO2.out⟩, HB2.out⟩
      case measure => simp [intOf]; omega
    · have hlt' : ¬ (k : Int) < (l2.length : Int) := by omega
      have e : k = l2.length := by omega
      have HO2 := HO.out
      rw [e, List.take_length, ← HTT.out] at HO2
      have HO3 := hide HO2
      clear HO2 HO
      go_wp2
      go_ret
      refine ⟨a, c, by rw [← HO3.out.1]; rfl, ?_, HB.out⟩
      rw [← HO3.out.1]
      exact HO3.out.2
end Go.Proofs.Ytjjepgkcgbbmhab

