import Derived.Test.YtpmgnpfpnkmmbaaGreatDoorG08Rhv
import Derived.Test.YtpmgnpfpnkmmbaaGreatDoorG28Mk4
import Derived.Test.YtpmgnpfpnkmmbaaGreatDoorG11Fix
namespace Go.Proofs.YtpmgnpfpnkmmbaaGreatDoor
open Go.RowKit Go.Maps
set_option maxRecDepth 20000
set_option linter.unusedVariables false

end Go.Proofs.YtpmgnpfpnkmmbaaGreatDoor

namespace Go.Proofs.YtpmgnpfpnkmmbaaGreatDoor
open Go.RowKit Go.Maps
set_option maxRecDepth 20000
set_option linter.unusedVariables false

theorem run1_doc {l : List Int} {k m : Nat} {V P : Int} (hk : k < l.length) (hV : V = l.getD k 0) (hm : m = eqn V (l.drop k)) (hP : 0 < k → P = l.getD (k - 1) 0) :
    (V = 0 → 11 ≤ m → run1 l k = (18, ((min m 138 : Nat) : Int))) ∧ (V = 0 → m < 11 → 3 ≤ m → run1 l k = (17, (m : Int))) ∧ (V = 0 → m < 3 → run1 l k = (V, 1)) ∧
    (V ≠ 0 → 0 < k → P = V → 3 ≤ m → run1 l k = (16, ((min m 6 : Nat) : Int))) ∧ (V ≠ 0 → ¬ (0 < k ∧ P = V ∧ 3 ≤ m) → run1 l k = (V, 1)) := by
  unfold run1
  rw [← hV, ← hm]
  refine ⟨fun h1 h2 => ?_, fun h1 h2 h3 => ?_, fun h1 h2 => ?_, fun h1 h2 h3 h4 => ?_, fun h1 h2 => ?_⟩
  · subst h1
    rw [← hm, if_pos ⟨rfl, h2⟩]
  · subst h1
    rw [← hm, if_neg (by omega), if_pos ⟨rfl, h3⟩]
  · subst h1
    rw [← hm, if_neg (by omega), if_neg (by omega), if_neg (by omega)]
  · rw [if_neg (fun q => h1 q.1), if_neg (fun q => h1 q.1), if_pos ⟨h1, h2, by rw [← hP h2]; exact h3, h4⟩]
  · rw [if_neg (fun q => h1 q.1), if_neg (fun q => h1 q.1), if_neg (fun q => h2 ⟨q.2.1, by rw [hP q.2.1]; exact q.2.2.1, q.2.2.2⟩)]

end Go.Proofs.YtpmgnpfpnkmmbaaGreatDoor

namespace Go.Proofs.YtpmgnpfpnkmmbaaGreatDoor
open Go.RowKit Go.Maps
set_option maxRecDepth 20000
set_option linter.unusedVariables false

theorem boxOf {w : World} {g : Nat} {a b : Value} {t : TypeId} {fr : Nat × Nat} (h : w.heap[g]? = some (.cells #[a, b] t fr)) : w.cell? ⟨g, 0, none⟩ = some a ∧ w.cell? ⟨g, 1, none⟩ = some b := by
  constructor <;> (unfold World.cell?; rw [h]; rfl)

theorem xfurther_any (s : Nat) (w : World) (hs : s < 19) : Calls Tryz.prog 112 #[.int .i64 s] w fun e w' => e = .returned (.tuple #[.int .i64 (frt s : Nat), .int .i64 (lst s)]) ∧ w' = w := by
  by_cases h16 : s = 16
  · subst h16
    go_enter Tryz.func112, Tryz.ntmps112
    go_wp2
    go_ret2
    exact ⟨rfl, rfl⟩
  · by_cases h17 : s = 17
    · subst h17
      go_enter Tryz.func112, Tryz.ntmps112
      go_wp2
      go_ret2
      exact ⟨rfl, rfl⟩
    · by_cases h18 : s = 18
      · subst h18
        go_enter Tryz.func112, Tryz.ntmps112
        go_wp2
        go_ret2
        exact ⟨rfl, rfl⟩
      · have g1 : ((s : Int) == 16) = false := by simp; omega
        have g2 : ((s : Int) == 17) = false := by simp; omega
        have g3 : ((s : Int) == 18) = false := by simp; omega
        have HE : Hid (frt s = 0 ∧ lst s = 1) := by unfold frt lst; rw [if_pos (by omega), if_pos (by omega)]; exact hide ⟨rfl, rfl⟩
        go_enter Tryz.func112, Tryz.ntmps112
        go_wp2
        go_ret2
        rw [HE.out.1, HE.out.2]
        exact ⟨rfl, rfl⟩

theorem xmost_any (s : Nat) (w : World) (hs : s < 19) : Calls Tryz.prog 115 #[.int .i64 s] w fun e w' => e = .returned (.int .i64 (mst s)) ∧ ∃ q, w' = w.drewN q := by
  have HF := hide (xfurther_any s w hs)
  have C := tab_cases s hs
  rcases C with ⟨a, b, c⟩ | ⟨a, b, c⟩ | ⟨a, b, c⟩ | ⟨a, b, c⟩ <;>
  · rw [a, b] at HF
    rw [c]
    clear a b c
    go_enter Tryz.func115, Tryz.ntmps115
    go_wp2_with fail
    refine HF.out.mono ?_
    rintro e w1 ⟨rfl, hw1⟩
    subst hw1
    go_wp2
    go_ret
    exact ⟨rfl, 0, rfl⟩
end Go.Proofs.YtpmgnpfpnkmmbaaGreatDoor

namespace Go.Proofs.YtpmgnpfpnkmmbaaGreatDoor
open Go.RowKit Go.Maps
set_option maxRecDepth 20000
set_option linter.unusedVariables false

def slnv : Value → Nat | .slice _ n _ => n | _ => 0

theorem OI.cut {w : World} {B g n c k : Nat} {l : List Int} (h : OI w B (.slice (some ⟨g, 0, none⟩) n c) l) (hk : k ≤ l.length) : OI w B (.slice (some ⟨g, 0, none⟩) k c) (l.take k) := by
  have hl : (l.take k).length = k := by rw [List.length_take]; omega
  rcases h.2 with ⟨hv, _⟩ | ⟨g', cap, cur, hv, h1, h2, h3, h4, h5, h6⟩
  · cases hv
  · simp only [Value.slice.injEq, Option.some.injEq, Addr.mk.injEq, and_true] at hv
    obtain ⟨rfl, rfl, rfl⟩ := hv
    refine ⟨by simp, .inr ⟨g, c, cur, by rw [hl], h1, h2, by omega, h4, h5, ?_⟩⟩
    rw [hl]
    have := congrArg (List.take (k * 1)) h6
    rw [List.take_take, show min (k * 1) (l.length * 1) = k * 1 by omega] at this
    rw [this, List.map_take, Nat.mul_one]

theorem cut_trm {l : List Int} {f : Nat} : (l ++ List.replicate (f - l.length) 0).take (tlk (l ++ List.replicate (f - l.length) 0) f (l ++ List.replicate (f - l.length) 0).length) = trm l f := by
  by_cases h : l.length ≤ f
  · have hl : (l ++ List.replicate (f - l.length) (0 : Int)).length = f := by rw [List.length_append, List.length_replicate]; omega
    rw [hl, tl_low _ f f (Nat.le_refl _), List.take_of_length_le (by omega)]
    unfold trm tln
    rw [tl_low l f l.length h, List.take_of_length_le (Nat.le_refl _)]
  · rw [show f - l.length = 0 by omega, List.replicate_zero, List.append_nil]
    unfold trm
    have := tl_ge l f l.length (by omega)
    unfold tln
    rw [show f - tlk l f l.length = 0 by omega, List.replicate_zero, List.append_nil]

end Go.Proofs.YtpmgnpfpnkmmbaaGreatDoor

