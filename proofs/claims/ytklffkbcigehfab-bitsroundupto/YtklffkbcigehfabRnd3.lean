import Derived.Test.YtklffkbcigehfabRnd2
namespace Go.Proofs.Ytklffkbcigehfab
open Go.RowKit Go.Maps
set_option maxRecDepth 20000

set_option maxHeartbeats 2000000 in
theorem round_walk (vo : Value) (ops : List It) (w : World) (hI : ISc w vo ops) (hO : IOk w ops) (hn : ops.length ≤ 1048576) :
    Calls Try.prog 6 #[vo] w fun e w' => e = .returned (.bool true) ∧ Below w.heap.size w w' := by
  obtain ⟨ao, cap, hvo, hcap1, hcap2⟩ := hI.len
  subst hvo
  have HI := hide hI
  have HO := hide hO
  have H0 := hide (Herd.nil w)
  clear hI hO
  go_enter Try.func6, Try.ntmps6
  go_wp2_with fail
  refine (hnewW H0.out).mono ?_
  rintro e w1 ⟨g, K1, rfl, hH⟩
  have H1 : Hid (Herd w w1 [(K1, tw g [])]) := hH
  clear hH
  go_wp2_with fail
  refine (size_any w w1 _ ops HI.out HO.out H1.out.bel hn).mono ?_
  rintro e w2 ⟨rfl, n2, rfl⟩
  have H2 := hide (H1.out.drewN n2)
  by_cases hsz : isize ops ≤ 268435456
  case neg =>
    have hsz' : (268435456 : Int) < (isize ops : Nat) := by omega
    have HB := hide H2.out.bel
    clear H1 H2
    go_wp2
    go_ret
    exact ⟨rfl, HB.out⟩
  case pos =>
  have hsz' : ¬ (268435456 : Int) < (isize ops : Nat) := by omega
  go_wp2_with fail
  refine (lay_any w _ _ ops HI.out HO.out hsz K1 g H2.out).mono ?_
  rintro e w3 ⟨rfl, K3, hH⟩
  obtain ⟨R, HR⟩ : ∃ R, Hid (R = layRow ops) := ⟨_, rfl⟩
  rw [← HR.out] at hH ⊢
  have H3 := hide hH
  have hbt := (hH.bit 0 rfl)
  have HBT := hide hbt.1
  have hRl : R.length ≤ 268435456 := hbt.2
  clear hH hbt H1 H2
  go_wp2_with fail
  refine (hlen H3.out 0 rfl).mono ?_
  rintro e w4 ⟨rfl, hH⟩
  have H4 := hide hH
  clear hH
  obtain ⟨T, HT⟩ : ∃ T, Hid (T = pack R) := ⟨_, rfl⟩
  have HTs : Hid (T.length ≤ 33554432) := by show _ ≤ _; rw [HT.out, length_pack HBT.out]; omega
  have HTB : Hid (Byt T) := by rw [HT.out]; exact (unpack_pack HBT.out).2
  have HTU : Hid (unpack T = pad R) := by show _ = _; rw [HT.out]; exact (unpack_pack HBT.out).1
  go_wp2_with fail
  refine (hbytes H4.out 0 rfl).mono ?_
  rintro e w5 ⟨a5, c5, K5, rfl, hH⟩
  rw [← HT.out] at hH ⊢
  have H5 := hide hH
  clear hH
  go_wp2_with fail
  refine (hnewR H5.out _ T (H5.out.sb 1 rfl) HTB.out HTs.out).mono ?_
  rintro e w6 ⟨g6, K6, rfl, hH⟩
  rw [HTU.out] at hH
  have H6 := hide (hH.only 2 rfl)
  clear hH
  have HRE := hide (show pad R = layRow ops ++ List.replicate ((R.length + 7) / 8 * 8 - R.length) 0 by rw [← HR.out]; rfl)
  go_wp2_with fail
  refine (takes_any w w6 _ ops HI.out HO.out K6 g6 (pad R) _ HRE.out H6.out).mono ?_
  rintro e w7 ⟨rfl, hH⟩
  rw [← HR.out] at hH
  have H7 := hide hH
  clear hH
  obtain ⟨U, HU⟩ : ∃ U, Hid (U = pad R) := ⟨_, rfl⟩
  rw [← HU.out] at H7
  obtain ⟨L, HL⟩ : ∃ L : Nat, Hid (L = (R.length + 7) / 8 * 8 - R.length) := ⟨_, rfl⟩
  have HUL : Hid (U.length = R.length + L) := by show _ = _; rw [HU.out, length_pad, HL.out]; omega
  have hL8 : L < 8 := by rw [HL.out]; omega
  have hLi : ((R.length : Int) + 7) / 8 * 8 - R.length = L := by rw [HL.out]; omega
  have HLI := hide hLi
  have HUI : Hid ((U.length : Int) - R.length = L) := by show _ = _; rw [HUL.out]; omega
  clear hLi
  go_wp2_with fail
  refine (hat H7.out 0 rfl).mono ?_
  rintro e w8 ⟨rfl, hH⟩
  have H8 := hide hH
  clear hH
  go_wp2_with fail
  refine (hleft H8.out 0 rfl).mono ?_
  rintro e w9 ⟨rfl, hH⟩
  rw [HUI.out]
  have H9 := hide hH
  clear hH
  have hLi := HLI.out
  have T1 := hide (take_ok (takeOk_of (row := U) (p := R.length) (n := L) (by omega) (by rw [HUL.out]; exact Nat.le_refl _)))
  have HZ : Hid (ahead U R.length L = 0) := by
    show _ = _
    have e : U.drop R.length = List.replicate L 0 ++ [] := by
      rw [HU.out]; unfold pad
      rw [List.drop_left' rfl, HL.out, List.append_nil]
    rw [ahead_at e (by simp), val_zeros]
  rw [HZ.out] at T1
  have T2 : Hid (takeE U (R.length + L) 1 = 30 ∧ takeV U (R.length + L) 1 = 0 ∧ takeP U (R.length + L) 1 = R.length + L) := by
    have hn : ¬ takeOk U (R.length + L) 1 := fun h => by have := h.2; rw [HUL.out] at this; omega
    refine ⟨?_, by unfold takeV; rw [if_neg hn], by unfold takeP; rw [if_neg hn]⟩
    unfold takeE
    rw [if_pos ⟨by omega, by omega⟩, if_neg (by rw [HUL.out]; omega)]
  have HUI2 : Hid ((U.length : Int) - ((R.length + L : Nat) : Int) = 0) := by show _ = _; rw [HUL.out]; omega
  go_wp2_with fail
  refine (htake H9.out 0 rfl L).mono ?_
  rintro e w10 ⟨rfl, hH⟩
  rw [T1.out.1, T1.out.2.1]
  rw [T1.out.2.2] at hH
  have H10 := hide hH
  clear hH
  go_wp2_with fail
  refine (htake H10.out 0 rfl 1).mono ?_
  rintro e w11 ⟨rfl, hH⟩
  rw [T2.out.1, T2.out.2.1]
  rw [T2.out.2.2] at hH
  have H11 := hide hH
  clear hH
  go_wp2_with fail
  refine (hleft H11.out 0 rfl).mono ?_
  rintro e w12 ⟨rfl, hH⟩
  rw [HUI2.out]
  have H12 := hide hH.bel
  clear hH
  go_wp2
  go_ret
  exact ⟨rfl, H12.out⟩
end Go.Proofs.Ytklffkbcigehfab
