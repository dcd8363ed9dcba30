import Derived.Test.YtpmgnpfpnkmmbaaGreatDoorG38Frm
import Derived.Test.YtpmgnpfpnkmmbaaGreatDoorG42Exq
namespace Go.Proofs.YtpmgnpfpnkmmbaaGreatDoor
open Go.RowKit Go.Maps
set_option maxRecDepth 20000
set_option linter.unusedVariables false

set_option maxHeartbeats 4000000 in
theorem vExact {w : World} {v : Value} {l : List Int} (h : SB w v l) (hB : Byt l) (size : Int) (O : Xodr w) :
    Calls Tryz.prog 20 #[v, .int .i64 size] w (Eans w l size) := by
  have HI := hide (vInflate h hB size O)
  obtain ⟨a0, x0, rfl, -⟩ := h
  clear hB O
  go_enter Tryz.func20, Tryz.ntmps20
  go_wp2_with fail
  refine HI.out.mono ?_
  rintro e w2 ⟨E, n, o, a, c, hI, rfl, ho, hb⟩
  have HB := hide hb
  have HOO := hide ho
  have HII := hide hI
  clear hb ho hI HI
  obtain ⟨M, HM⟩ : ∃ M : Nat, Hid (M = o.length) := ⟨_, rfl⟩
  obtain ⟨N, HN⟩ : ∃ N : Nat, Hid (N = l.length) := ⟨_, rfl⟩
  rw [← HM.out, ← HN.out]
  by_cases he : E = 0
  case neg =>
    have he' : (E != 0) = true := by simpa using he
    have HE := hide he
    clear he
    go_wp2
    go_ret2
    exact Eans.none ⟨E, n, o, HII.out, .inl ⟨HE.out, rfl, rfl⟩⟩ HB.out
  subst he
  by_cases hs : (M : Int) < size
  · go_wp2
    go_ret2
    exact Eans.none ⟨0, n, o, HII.out, .inr (.inl ⟨rfl, by rw [← HM.out]; exact hs, rfl, rfl⟩)⟩ HB.out
  obtain ⟨u1, u2, u3, u4, u5⟩ := HII.out.used
  rw [← HN.out] at u2 u4
  obtain ⟨s, HSZ⟩ : ∃ s : Nat, Hid (s = (n + 7) / 8) := ⟨_, rfl⟩
  have hq : ((n : Int) + 7).tdiv 8 = (s : Int) := by rw [Int.tdiv_eq_ediv_of_nonneg (by omega), HSZ.out]; omega
  have hsN : s ≤ N := by rw [HSZ.out]; omega
  have hn28 : n ≤ 268435456 := by omega
  clear u1 u2 u3 u5
  by_cases hr : s = N
  · have hr' : ((s : Int) != (N : Int)) = false := by simp; omega
    have HR := hide hr
    clear hr
    go_wp2
    go_ret2
    exact ⟨0, o, a, c, ⟨0, n, o, HII.out, .inr (.inr (.inr ⟨rfl, by rw [← HM.out]; omega, by rw [← HN.out, ← HSZ.out]; exact HR.out, rfl, rfl⟩))⟩, (by rw [← HM.out]; first | done | rfl), HOO.out, HB.out⟩
  · have hr' : ((s : Int) != (N : Int)) = true := by simp; omega
    have HR := hide hr
    clear hr
    go_wp2
    go_ret2
    exact Eans.none ⟨0, n, o, HII.out, .inr (.inr (.inl ⟨rfl, by rw [← HM.out]; omega, by rw [← HN.out, ← HSZ.out]; exact HR.out, rfl, rfl⟩))⟩ HB.out
end Go.Proofs.YtpmgnpfpnkmmbaaGreatDoor

