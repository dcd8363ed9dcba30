import Derived.Test.YtmjdpfigkojolaaGreatDoorG24Rx1
import Derived.Test.YtmjdpfigkojolaaGreatDoorG08Ifa
namespace Go.Proofs.YtmjdpfigkojolaaGreatDoor
open Go.RowKit Go.Maps
set_option maxRecDepth 20000
set_option linter.unusedVariables false

end Go.Proofs.YtmjdpfigkojolaaGreatDoor

namespace Go.Proofs.YtmjdpfigkojolaaGreatDoor
open Go.RowKit Go.Maps
set_option maxRecDepth 20000
set_option linter.unusedVariables false

theorem boxOf {w : World} {g : Nat} {a b : Value} {t : TypeId} {fr : Nat × Nat} (h : w.heap[g]? = some (.cells #[a, b] t fr)) : w.cell? ⟨g, 0, none⟩ = some a ∧ w.cell? ⟨g, 1, none⟩ = some b := by
  constructor <;> (unfold World.cell?; rw [h]; rfl)

theorem xfurther_any (s : Nat) (w : World) (hs : s < 19) : Calls Tryz.prog 142 #[.int .i64 s] w fun e w' => e = .returned (.tuple #[.int .i64 (frt s : Nat), .int .i64 (lst s)]) ∧ w' = w := by
  by_cases h16 : s = 16
  · subst h16
    go_enter Tryz.func142, Tryz.ntmps142
    go_wp2
    go_ret2
    exact ⟨rfl, rfl⟩
  · by_cases h17 : s = 17
    · subst h17
      go_enter Tryz.func142, Tryz.ntmps142
      go_wp2
      go_ret2
      exact ⟨rfl, rfl⟩
    · by_cases h18 : s = 18
      · subst h18
        go_enter Tryz.func142, Tryz.ntmps142
        go_wp2
        go_ret2
        exact ⟨rfl, rfl⟩
      · have g1 : ((s : Int) == 16) = false := by simp; omega
        have g2 : ((s : Int) == 17) = false := by simp; omega
        have g3 : ((s : Int) == 18) = false := by simp; omega
        have HE : Hid (frt s = 0 ∧ lst s = 1) := by unfold frt lst; rw [if_pos (by omega), if_pos (by omega)]; exact hide ⟨rfl, rfl⟩
        go_enter Tryz.func142, Tryz.ntmps142
        go_wp2
        go_ret2
        rw [HE.out.1, HE.out.2]
        exact ⟨rfl, rfl⟩

theorem xmost_any (s : Nat) (w : World) (hs : s < 19) : Calls Tryz.prog 148 #[.int .i64 s] w fun e w' => e = .returned (.int .i64 (mst s)) ∧ ∃ q, w' = w.drewN q := by
  have HF := hide (xfurther_any s w hs)
  have C := tab_cases s hs
  rcases C with ⟨a, b, c⟩ | ⟨a, b, c⟩ | ⟨a, b, c⟩ | ⟨a, b, c⟩ <;>
  · rw [a, b] at HF
    rw [c]
    clear a b c
    go_enter Tryz.func148, Tryz.ntmps148
    go_wp2_with fail
    refine HF.out.mono ?_
    rintro e w1 ⟨rfl, hw1⟩
    subst hw1
    go_wp2
    go_ret
    exact ⟨rfl, 0, rfl⟩
end Go.Proofs.YtmjdpfigkojolaaGreatDoor

namespace Go.Proofs.YtmjdpfigkojolaaGreatDoor
open Go.RowKit Go.Maps
set_option maxRecDepth 20000
set_option linter.unusedVariables false

end Go.Proofs.YtmjdpfigkojolaaGreatDoor

