import Derived.Test.YtjjepgkcgbbmhacDoorGNvc
import Derived.Lib.SmallJoins
import Derived.Deep.Slices
import Derived.SizedLaws
namespace Go.Proofs.YtjjepgkcgbbmhacDoor
open Go.ChangeShapes Go.WideShapes Go.ChangeAt Go.RowKit Go.Joins Go.Deep
set_option maxRecDepth 100000
set_option linter.unusedVariables false

theorem own : ownKnob Tryd.prog.godebug = none := by kernel_rfl
theorem laidOut : laidOutB Tryd.prog = true := by kernel_rfl

theorem open_str12 {H : Type} {enc : TypeId × Value → H} {W : World} {r : Reach} {b0 : Nat} {v : Value} {d : DataW H} {ps : List MemPlace}
    (hv : Value.okWide Tryd.prog W r b0 9 v) (h : DataW.Trod enc Tryd.prog W 0 (fun _ => true) true 9 v d ps) : ∃ s, v = .string s ∧ d = .lit (.string s.data.toList) ∧ s.size ≤ 9223372036854775807 := by
  obtain ⟨s, rfl⟩ := okWide_string Tryd.underlying9 hv
  obtain ⟨fuel, hf⟩ := h
  obtain ⟨s', hs, hx, hm⟩ := DataW.trod_string Tryd.underlying9 hf
  simp [Value.cells] at hs
  subst hs
  simp only [Prod.mk.injEq] at hx
  unfold maxLen at hm
  exact ⟨s, rfl, hx.1, hm⟩

theorem numN_any (n : Int) (w : World) : Calls Tryd.prog 8 #[.int .i64 n] w fun e w' => e = .returned (.int .i64 n) ∧ w' = w := by
  go_enter Tryd.func8, Tryd.ntmps8
  go_wp2
  go_ret
  exact ⟨rfl, rfl⟩

theorem names_walk (s : ByteArray) (m : Int) (w : World) (hs : s.size ≤ 9223372036854775807) (hm : w.cell? ⟨0, 0, none⟩ = some (.int .i64 m)) :
    Calls Tryd.prog 4 #[.string s] w fun e w' => e = .returned (.bool true) ∧ Below w.heap.size w w' := by
  have HC := hide6 (check_any s m w hs hm)
  have HV := hide6 (fun w' => vcheck_any s w' hs)
  rw [names_eq s] at HC
  generalize dnE s = E at HC HV
  clear hm
  go_enter Tryd.func4, Tryd.ntmps4
  go_wp2_with fail
  refine HC.out.mono ?_
  rintro e w1 ⟨rfl, b1⟩
  have HB1 := hide6 b1
  clear b1
  go_wp2_with (first | (go_at_call 8; refine (numN_any _ _).mono ?_; rintro e w2 ⟨rfl, h2⟩; subst h2) | (go_at_call 9; refine (HV.out _).mono ?_; rintro e w2 ⟨rfl, h2⟩; rw [h2]; clear h2 w2))
  go_ret
  refine ⟨?_, HB1.out⟩
  simp
end Go.Proofs.YtjjepgkcgbbmhacDoor

