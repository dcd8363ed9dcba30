import Derived.Test.YtmbgjkghcpkoiaaGSps
import Derived.Deep.RegionHeld3
namespace Go.Proofs.Ytmbgjkghcpkoiaa
open Go.RowKit Go.Maps
set_option maxRecDepth 20000
set_option linter.unusedVariables false
set_option linter.unusedSimpArgs false

theorem rzS : (Try.prog.info? 39).map (·.size) = some 2 := by kernel_rfl

theorem span_eq (a b : Int) (W : World) : (Op.equalIn 10000 39 (.agg #[.int .i64 a, .int .i64 b]) (.agg #[.int .i64 a, .int .i64 b])).run Try.prog W = .ok true W := by
  go_simp

theorem eqS (s : Int × Int) (W : World) : (Op.equalIn 10000 39 (.agg (spC s)) (.agg (spC s))).run Try.prog W = .ok true W := span_eq _ _ W

set_option maxHeartbeats 4000000 in
theorem spans_same (v1 v2 : Value) (R : List (Int × Int)) (w : World) (h1 : SR 2 w v1 (R.map spC)) (h2 : SR 2 w v2 (R.map spC)) :
    Calls Try.prog 8 #[v1, v2] w fun e w' => e = .returned (.bool true) ∧ Below w.heap.size w w' := by
  have HL1 := hide h1
  have HL2 := hide h2
  obtain ⟨a1, p1, rfl, c1, c2⟩ := h1.open
  obtain ⟨a2, p2, rfl, d1, d2⟩ := h2.open
  have elc : (R.map spC).length = R.length := List.length_map ..
  rw [elc] at HL1 HL2 c1 d1 ⊢
  clear h1 h2 elc
  go_enter Try.func8, Try.ntmps8
  go_wp2
  go_loopw [5] (fun i wr => ∃ (j : Nat), i = .int .i64 (j : Int) ∧ j ≤ R.length ∧ Hid (Below w.heap.size w wr)) (fun i _ => R.length - (intOf i).toNat)
  case atStart => exact ⟨0, rfl, Nat.zero_le _, Below.refl _ _⟩
  case round =>
    obtain ⟨j, rfl, hj, HBr⟩ := hrel
    by_cases hlt : j < R.length
    · have hlt' : (j : Int) < (R.length : Int) := by omega
      obtain ⟨A, hA⟩ : ∃ A, A = spC (R.getD j (0, 0)) := ⟨_, rfl⟩
      have HSA : Hid (A.size = 2) := by rw [hA]; exact rfl
      have HEQ : Hid (∀ W, (Op.equalIn 10000 39 (.agg A) (.agg A)).run Try.prog W = .ok true W) := by rw [hA]; exact eqS _
      obtain ⟨b0, o0, hla, hr1⟩ := SR.row (HL1.out.low HBr.out) (i := j) (by rw [List.length_map]; exact hlt)
      obtain ⟨b1, o1, hlb, hr2⟩ := SR.row (HL2.out.low HBr.out) (i := j) (by rw [List.length_map]; exact hlt)
      rw [spC_get hlt, ← hA] at hr1 hr2
      have HSS : Hid (wr.rangeAt b0 (o0 + j * 2) A.toList ∧ wr.rangeAt b1 (o1 + j * 2) A.toList) := ⟨hr1, hr2⟩
      subst hla hlb
      clear hA hr1 hr2
      go_wp2
      have heq := HEQ.out
      refine wp_region_held_drew (S := fun W => W.rangeAt b0 (o0 + j * 2) A.toList ∧ W.rangeAt b1 (o1 + j * 2) A.toList) (by kernel_rfl) ⟨HSS.out.1, HSS.out.2⟩ (fun hHeld => ?_)
      refine wpAnyH_take (i := 0) (v := .slice (some ⟨b0, o0, none⟩) R.length p1) rfl (by kernel_rfl) (by kernel_rfl) (by kernel_rfl) (fun _ _ _ h => h) (Or.inl ⟨by kernel_rfl, ?_⟩) hHeld ?_
      · intro W hSw
        go_simp
      show wpAnyH _ _ _ _ _ _ _ (Act.put _ (some 17) _) _
      simp only [Act.put, List.setIfInBounds_toArray, List.set_cons_zero, List.set_cons_succ]
      refine wpAnyH_take (i := 1) (v := .int .i64 (j : Int)) rfl (by kernel_rfl) (by kernel_rfl) (by kernel_rfl) (fun _ _ _ h => h) (Or.inl ⟨by kernel_rfl, ?_⟩) hHeld ?_
      · intro W hSw
        go_simp
      show wpAnyH _ _ _ _ _ _ _ (Act.put _ (some 18) _) _
      simp only [Act.put, List.setIfInBounds_toArray, List.set_cons_zero, List.set_cons_succ]
      refine wpAnyH_take (i := 2) (v := .pointer (some ⟨b0, o0 + j * 2, none⟩)) rfl (by kernel_rfl) (by kernel_rfl) (by kernel_rfl) (fun _ _ _ h => h) (Or.inl ⟨by kernel_rfl, ?_⟩) hHeld ?_
      · intro W hSw
        go_simp
      show wpAnyH _ _ _ _ _ _ _ (Act.put _ (some 19) _) _
      simp only [Act.put, List.setIfInBounds_toArray, List.set_cons_zero, List.set_cons_succ]
      refine wpAnyH_take (i := 3) (v := .agg A.toList.toArray) rfl (by kernel_rfl) (by kernel_rfl) (by kernel_rfl) (fun _ _ _ h => h) (yieldsIf_load_mid (by kernel_rfl) 39 _ rfl b0 (o0 + j * 2) rfl A.toList _ (fun W hW => hW.1) Try.underlying39 rfl (by rw [Array.length_toList, HSA.out]; exact rzS)) hHeld ?_
      show wpAnyH _ _ _ _ _ _ _ (Act.put _ (some 20) _) _
      simp only [Act.put, List.setIfInBounds_toArray, List.set_cons_zero, List.set_cons_succ]
      refine wpAnyH_take (i := 4) (v := .slice (some ⟨b1, o1, none⟩) R.length p2) rfl (by kernel_rfl) (by kernel_rfl) (by kernel_rfl) (fun _ _ _ h => h) (Or.inl ⟨by kernel_rfl, ?_⟩) hHeld ?_
      · intro W hSw
        go_simp
      show wpAnyH _ _ _ _ _ _ _ (Act.put _ (some 21) _) _
      simp only [Act.put, List.setIfInBounds_toArray, List.set_cons_zero, List.set_cons_succ]
      refine wpAnyH_take (i := 5) (v := .int .i64 (j : Int)) rfl (by kernel_rfl) (by kernel_rfl) (by kernel_rfl) (fun _ _ _ h => h) (Or.inl ⟨by kernel_rfl, ?_⟩) hHeld ?_
      · intro W hSw
        go_simp
      show wpAnyH _ _ _ _ _ _ _ (Act.put _ (some 22) _) _
      simp only [Act.put, List.setIfInBounds_toArray, List.set_cons_zero, List.set_cons_succ]
      refine wpAnyH_take (i := 6) (v := .pointer (some ⟨b1, o1 + j * 2, none⟩)) rfl (by kernel_rfl) (by kernel_rfl) (by kernel_rfl) (fun _ _ _ h => h) (Or.inl ⟨by kernel_rfl, ?_⟩) hHeld ?_
      · intro W hSw
        go_simp
      show wpAnyH _ _ _ _ _ _ _ (Act.put _ (some 23) _) _
      simp only [Act.put, List.setIfInBounds_toArray, List.set_cons_zero, List.set_cons_succ]
      refine wpAnyH_take (i := 7) (v := .agg A.toList.toArray) rfl (by kernel_rfl) (by kernel_rfl) (by kernel_rfl) (fun _ _ _ h => h) (yieldsIf_load_mid (by kernel_rfl) 39 _ rfl b1 (o1 + j * 2) rfl A.toList _ (fun W hW => hW.2) Try.underlying39 rfl (by rw [Array.length_toList, HSA.out]; exact rzS)) hHeld ?_
      show wpAnyH _ _ _ _ _ _ _ (Act.put _ (some 24) _) _
      simp only [Act.put, List.setIfInBounds_toArray, List.set_cons_zero, List.set_cons_succ]
      refine wpAnyH_take (i := 8) (v := .bool false) rfl (by kernel_rfl) (by kernel_rfl) (by kernel_rfl) (fun _ _ _ h => h) (Or.inl ⟨by kernel_rfl, ?_⟩) hHeld ?_
      · intro W hSw
        go_simp
      show wpAnyH _ _ _ _ _ _ _ (Act.put _ (some 25) _) _
      simp only [Act.put, List.setIfInBounds_toArray, List.set_cons_zero, List.set_cons_succ]
      refine wpAnyH_done (by kernel_rfl) ?_ _
      clear heq
      go_wp2
      go_roundw
      case rel => exact ⟨j + 1, by go_num, by omega, HBr.out.drew⟩
      case measure => simp [intOf]; omega
    · have hje : j = R.length := by omega
      subst hje
      go_wp2
      go_ret
      exact ⟨by first | rfl | simp, HBr.out⟩
end Go.Proofs.Ytmbgjkghcpkoiaa

