import Derived.Test.YtpmgnpfpnkmmbaaGreatDoorG38Frm
import Derived.Test.YtpmgnpfpnkmmbaaGreatDoorG40Wkn
namespace Go.Proofs.YtpmgnpfpnkmmbaaGreatDoor
open Go.RowKit Go.Maps
set_option maxRecDepth 20000
set_option linter.unusedVariables false

set_option maxHeartbeats 4000000 in
/-- Walk, as the document has it. -/
theorem vWalk {w : World} {v : Value} {l : List Int} (h : SB w v l) (hB : Byt l) (limit : Int) (O : Xodr w) :
    Calls Tryz.prog 8 #[v, .int .i64 limit] w (Wans w l limit) := by
  have HS := hide h
  have HB := hide hB
  have HO := hide O
  obtain ⟨a0, x0, rfl, -⟩ := h
  obtain ⟨N, HN⟩ : ∃ N : Nat, Hid (N = l.length) := ⟨_, rfl⟩
  have HS2 : Hid (SB w (.slice a0 N x0) l) := by rw [HN.out]; exact HS
  rw [← HN.out]
  clear hB O HS
  have HBAD : Hid (¬ (l.length ≤ 33554432 ∧ 0 ≤ limit ∧ limit ≤ 16777216) → Wans w l limit (.returned (.tuple #[.slice none 0 0, .int .i64 1])) w) := fun hn => ⟨1, [], none, 0, .inl ⟨hn, rfl, rfl⟩, rfl, ORp.nil _ _ _ _, Below.refl _ _, Nat.zero_le _⟩
  go_enter Tryz.func8, Tryz.ntmps8
  by_cases c0 : 33554432 < (N : Int)
  · go_wp2
    go_ret2
    exact HBAD.out (by rw [← HN.out]; omega)
  by_cases c1 : limit < 0
  · go_wp2
    go_ret2
    exact HBAD.out (by omega)
  by_cases c2 : 16777216 < limit
  · go_wp2
    go_ret2
    exact HBAD.out (by omega)
  obtain ⟨L, rfl⟩ : ∃ L : Nat, limit = (L : Int) := ⟨limit.toNat, by omega⟩
  have hL : L ≤ 16777216 := by omega
  have HD : Hid (l.length ≤ 33554432 ∧ 0 ≤ (L : Int) ∧ (L : Int) ≤ 16777216) := by show _ ∧ _; rw [← HN.out]; omega
  have HP := hide (vprog HS2.out HB.out HD.out.1 hL HO.out)
  go_wp2_with fail
  refine HP.out.mono ?_
  rintro e w2 ⟨g, rfl, r, p, out, wh, us, dn, er, a, c, aw, cw, hst, -, ho, hb, hcase⟩
  obtain ⟨-, -, -, k3, -, -, k6, -⟩ := stO_cells hst
  have HOB := hide ho
  have HBE := hide hb
  clear hst ho hb HP
  obtain ⟨M, HM⟩ : ∃ M : Nat, Hid (M = wh.length) := ⟨_, rfl⟩
  rw [← HM.out] at k3
  rcases hcase with ⟨he, ps, q, o, ht⟩ | ⟨rfl, pre, hw, rfl, ht⟩
  · have he' : (er != 0) = true := by simpa using he
    have HA : Hid (∀ n, Wans w l L (.returned (.tuple #[.slice none 0 0, .int .i64 er])) (w2.drewN n)) := fun n => ⟨er, [], none, 0, .inr ⟨HD.out, ps, q, o, by rw [Int.toNat_natCast]; exact ht, .inr ⟨he, rfl⟩⟩, rfl, ORp.nil _ _ _ _, below_drewN HBE.out n, Nat.zero_le _⟩
    clear ht he
    go_wp2
    go_quiet (fail)
    go_wp2
    go_ret2
    exact HA.out _
  · have HA : Hid (Wans w l L (.returned (.tuple #[.slice aw M cw, .int .i64 0])) w2) := by
      have hpl : M = pre.length := by rw [HM.out, hw, List.length_map]
      have hpp : pre.map pcv = pre.map pcq := rfl
      refine ⟨0, pre, aw, cw, .inr ⟨HD.out, pre, p, out, by rw [Int.toNat_natCast]; exact ht, .inl ⟨rfl, rfl⟩⟩, by rw [hpl], ?_, HBE.out, ?_⟩
      · have h1 := orp_up HOB.out.1 HOB.out.2
        rw [← HM.out, hpl, hw, hpp] at h1
        exact h1
      · have h1 := ht.count (bit_unpack l) rfl
        rw [length_unpack] at h1
        have := HD.out.1
        omega
    clear ht hw
    go_wp2
    go_ret2
    exact HA.out
end Go.Proofs.YtpmgnpfpnkmmbaaGreatDoor

