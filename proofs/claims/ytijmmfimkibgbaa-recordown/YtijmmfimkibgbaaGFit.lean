import Derived.Test.YtijmmfimkibgbaaGRe
import Derived.Test.YtijmmfimkibgbaaGCnn
namespace Go.Proofs.Ytijmmfimkibgbaa
open Go.RowKit Go.Maps
set_option maxRecDepth 20000
set_option linter.unusedVariables false
set_option linter.unusedSimpArgs false

theorem is16_yes {v : Int} (h : ¬ wide v 2) (w : World) : Calls Try.prog 14 #[.int .i64 v] w fun e w' => e = .returned (.bool true) ∧ w' = w := by
  unfold wide at h
  have h0 : 0 ≤ v := by omega
  have h1 : v ≤ 65535 := by omega
  clear h
  go_enter Try.func14, Try.ntmps14
  go_wp2
  go_ret
  exact ⟨rfl, rfl⟩

theorem is16_no {v : Int} (h : wide v 2) (w : World) : Calls Try.prog 14 #[.int .i64 v] w fun e w' => e = .returned (.bool false) ∧ w' = w := by
  unfold wide at h
  by_cases h0 : v < 0
  · have h1 : ¬ (0 ≤ v) := by omega
    clear h
    go_enter Try.func14, Try.ntmps14
    go_wp2
    go_ret
    exact ⟨rfl, rfl⟩
  · have h1 : 0 ≤ v := by omega
    have h2 : ¬ (v ≤ 65535) := by omega
    clear h
    go_enter Try.func14, Try.ntmps14
    go_wp2
    go_ret
    exact ⟨rfl, rfl⟩

theorem is32_yes {v : Int} (h : ¬ wide v 4) (w : World) : Calls Try.prog 15 #[.int .i64 v] w fun e w' => e = .returned (.bool true) ∧ w' = w := by
  unfold wide at h
  have h0 : 0 ≤ v := by omega
  have h1 : v ≤ 4294967295 := by omega
  clear h
  go_enter Try.func15, Try.ntmps15
  go_wp2
  go_ret
  exact ⟨rfl, rfl⟩

theorem is32_no {v : Int} (h : wide v 4) (w : World) : Calls Try.prog 15 #[.int .i64 v] w fun e w' => e = .returned (.bool false) ∧ w' = w := by
  unfold wide at h
  by_cases h0 : v < 0
  · have h1 : ¬ (0 ≤ v) := by omega
    clear h
    go_enter Try.func15, Try.ntmps15
    go_wp2
    go_ret
    exact ⟨rfl, rfl⟩
  · have h1 : 0 ≤ v := by omega
    have h2 : ¬ (v ≤ 4294967295) := by omega
    clear h
    go_enter Try.func15, Try.ntmps15
    go_wp2
    go_ret
    exact ⟨rfl, rfl⟩

set_option maxHeartbeats 4000000 in
theorem localFits_any (l : Loc) (ok : l.Ok) (w : World) : Calls Try.prog 13 #[l.v] w fun e w' => e = .returned (.bool (decide (fitI (loI l)))) ∧ Below w.heap.size w w' := by
  have HK := hide ok
  obtain ⟨lv, hlv⟩ : ∃ lv, lv = l := ⟨_, rfl⟩
  obtain ⟨wb, hwb⟩ : ∃ wb, w.alloc (.cells l.cs 24) = wb := ⟨_, rfl⟩
  have HB : Hid (Below w.heap.size w wb) := by rw [← hwb]; exact (Below.refl _ _).alloc (Nat.le_refl _) _
  have hN : wb.heap[w.heap.size]? = some (.cells l.cs 24 (0, 0)) := by rw [← hwb]; exact heap_alloc_new w _
  have HD : Hid (l = lv) := hlv.symm
  rw [show loI l = loI lv by rw [hlv]]
  cases l with
  | mk a0 a1 a2 a3 a4 a5 a6 a7 a8 a9 =>
  simp only [Loc.cs] at hN hwb
  simp only [Loc.v, Loc.cs]
  obtain ⟨c0, c1, c2, c3, c4, c5, c6, c7, c8, c9⟩ := box10 hN
  clear hN ok hlv
  go_enter Try.func13, Try.ntmps13
  go_wp2_with fail
  by_cases ka0 : wide a0 2
  case pos =>
    refine (is16_no ka0 _).mono ?_
    rintro e wx ⟨rfl, rfl⟩
    have HF : Hid (¬ fitI (loI lv)) := fun h => h (.num a0 2) (by rw [← HD.out]; simp [loI, lcI]) ka0
    go_wp2
    go_ret
    exact ⟨by rw [decide_eq_false HF.out]; rfl, HB.out⟩
  refine (is16_yes ka0 _).mono ?_
  rintro e wx ⟨rfl, rfl⟩
  have Ka0 := hide ka0
  clear ka0
  go_wp2_with fail
  by_cases ka1 : wide a1 2
  case pos =>
    refine (is16_no ka1 _).mono ?_
    rintro e wx ⟨rfl, rfl⟩
    have HF : Hid (¬ fitI (loI lv)) := fun h => h (.num a1 2) (by rw [← HD.out]; simp [loI, lcI]) ka1
    go_wp2
    go_ret
    exact ⟨by rw [decide_eq_false HF.out]; rfl, HB.out⟩
  refine (is16_yes ka1 _).mono ?_
  rintro e wx ⟨rfl, rfl⟩
  have Ka1 := hide ka1
  clear ka1
  go_wp2_with fail
  by_cases ka2 : wide a2 2
  case pos =>
    refine (is16_no ka2 _).mono ?_
    rintro e wx ⟨rfl, rfl⟩
    have HF : Hid (¬ fitI (loI lv)) := fun h => h (.num a2 2) (by rw [← HD.out]; simp [loI, lcI]) ka2
    go_wp2
    go_ret
    exact ⟨by rw [decide_eq_false HF.out]; rfl, HB.out⟩
  refine (is16_yes ka2 _).mono ?_
  rintro e wx ⟨rfl, rfl⟩
  have Ka2 := hide ka2
  clear ka2
  go_wp2_with fail
  by_cases ka3 : wide a3 2
  case pos =>
    refine (is16_no ka3 _).mono ?_
    rintro e wx ⟨rfl, rfl⟩
    have HF : Hid (¬ fitI (loI lv)) := fun h => h (.num a3 2) (by rw [← HD.out]; simp [loI, lcI]) ka3
    go_wp2
    go_ret
    exact ⟨by rw [decide_eq_false HF.out]; rfl, HB.out⟩
  refine (is16_yes ka3 _).mono ?_
  rintro e wx ⟨rfl, rfl⟩
  have Ka3 := hide ka3
  clear ka3
  go_wp2_with fail
  by_cases ka4 : wide a4 2
  case pos =>
    refine (is16_no ka4 _).mono ?_
    rintro e wx ⟨rfl, rfl⟩
    have HF : Hid (¬ fitI (loI lv)) := fun h => h (.num a4 2) (by rw [← HD.out]; simp [loI, lcI]) ka4
    go_wp2
    go_ret
    exact ⟨by rw [decide_eq_false HF.out]; rfl, HB.out⟩
  refine (is16_yes ka4 _).mono ?_
  rintro e wx ⟨rfl, rfl⟩
  have Ka4 := hide ka4
  clear ka4
  go_wp2_with fail
  by_cases ka6 : wide a6 4
  case pos =>
    refine (is32_no ka6 _).mono ?_
    rintro e wx ⟨rfl, rfl⟩
    have HF : Hid (¬ fitI (loI lv)) := fun h => h (.num a6 4) (by rw [← HD.out]; simp [loI, lcI]) ka6
    go_wp2
    go_ret
    exact ⟨by rw [decide_eq_false HF.out]; rfl, HB.out⟩
  refine (is32_yes ka6 _).mono ?_
  rintro e wx ⟨rfl, rfl⟩
  have Ka6 := hide ka6
  clear ka6
  go_wp2_with fail
  by_cases ka7 : wide a7 4
  case pos =>
    refine (is32_no ka7 _).mono ?_
    rintro e wx ⟨rfl, rfl⟩
    have HF : Hid (¬ fitI (loI lv)) := fun h => h (.num a7 4) (by rw [← HD.out]; simp [loI, lcI]) ka7
    go_wp2
    go_ret
    exact ⟨by rw [decide_eq_false HF.out]; rfl, HB.out⟩
  refine (is32_yes ka7 _).mono ?_
  rintro e wx ⟨rfl, rfl⟩
  have Ka7 := hide ka7
  clear ka7
  by_cases ka8 : wide (a8.size : Int) 2
  case pos =>
    have ma8 : ¬ ((a8.size : Int) ≤ 65535) := by unfold wide at ka8; omega
    have HF : Hid (¬ fitI (loI lv)) := fun h => h (.num (a8.size : Int) 2) (by rw [← HD.out]; simp [loI, lcI]) ka8
    clear ka8
    go_wp2
    go_ret
    exact ⟨by rw [decide_eq_false HF.out]; first | rfl | (show Ending.returned (Value.bool (decide _)) = _; rw [decide_eq_false (by omega)]), HB.out⟩
  have ma8 : (a8.size : Int) ≤ 65535 := by unfold wide at ka8; omega
  have Ka8 := hide ka8
  clear ka8
  by_cases ka9 : wide (a9.size : Int) 2
  case pos =>
    have ma9 : ¬ ((a9.size : Int) ≤ 65535) := by unfold wide at ka9; omega
    have HF : Hid (¬ fitI (loI lv)) := fun h => h (.num (a9.size : Int) 2) (by rw [← HD.out]; simp [loI, lcI]) ka9
    clear ka9
    go_wp2
    go_ret
    exact ⟨by rw [decide_eq_false HF.out]; first | rfl | (show Ending.returned (Value.bool (decide _)) = _; rw [decide_eq_false (by omega)]), HB.out⟩
  have ma9 : (a9.size : Int) ≤ 65535 := by unfold wide at ka9; omega
  have Ka9 := hide ka9
  clear ka9
  have HF : Hid (fitI (loI lv)) := by
    rw [← HD.out]
    have s0 := HK.out.sum0
    have s1 := HK.out.sum1
    simp only [] at s0 s1
    simp only [loI, lcI, List.cons_append, List.nil_append]
    refine fitI_cons (by show ¬ wide _ _; unfold wide; omega) ?_
    refine fitI_cons Ka0.out (fitI_cons Ka1.out (fitI_cons Ka2.out (fitI_cons Ka3.out (fitI_cons Ka4.out (fitI_cons (by show ¬ wide _ _; unfold wide; omega) (fitI_cons Ka6.out (fitI_cons Ka7.out (fitI_cons Ka8.out (fitI_cons Ka9.out (fitI_cons (fit_txt _) (fitI_cons (fit_txt _) fitI_nil)))))))))))
  go_wp2
  go_ret
  exact ⟨by rw [decide_eq_true HF.out]; rfl, HB.out⟩

set_option maxHeartbeats 4000000 in
theorem endFits_any (l : Enr) (ok : l.Ok) (w : World) : Calls Try.prog 5 #[l.v] w fun e w' => e = .returned (.bool (decide (fitI (enI l)))) ∧ Below w.heap.size w w' := by
  have HK := hide ok
  obtain ⟨lv, hlv⟩ : ∃ lv, lv = l := ⟨_, rfl⟩
  obtain ⟨wb, hwb⟩ : ∃ wb, w.alloc (.cells l.cs 28) = wb := ⟨_, rfl⟩
  have HB : Hid (Below w.heap.size w wb) := by rw [← hwb]; exact (Below.refl _ _).alloc (Nat.le_refl _) _
  have hN : wb.heap[w.heap.size]? = some (.cells l.cs 28 (0, 0)) := by rw [← hwb]; exact heap_alloc_new w _
  have HD : Hid (l = lv) := hlv.symm
  rw [show enI l = enI lv by rw [hlv]]
  cases l with
  | mk a0 a1 a2 a3 a4 a5 a6 =>
  simp only [Enr.cs] at hN hwb
  simp only [Enr.v, Enr.cs]
  obtain ⟨c0, c1, c2, c3, c4, c5, c6⟩ := box7 hN
  clear hN ok hlv
  go_enter Try.func5, Try.ntmps5
  go_wp2_with fail
  by_cases ka0 : wide a0 2
  case pos =>
    refine (is16_no ka0 _).mono ?_
    rintro e wx ⟨rfl, rfl⟩
    have HF : Hid (¬ fitI (enI lv)) := fun h => h (.num a0 2) (by rw [← HD.out]; simp [enI]) ka0
    go_wp2
    go_ret
    exact ⟨by rw [decide_eq_false HF.out]; rfl, HB.out⟩
  refine (is16_yes ka0 _).mono ?_
  rintro e wx ⟨rfl, rfl⟩
  have Ka0 := hide ka0
  clear ka0
  go_wp2_with fail
  by_cases ka1 : wide a1 2
  case pos =>
    refine (is16_no ka1 _).mono ?_
    rintro e wx ⟨rfl, rfl⟩
    have HF : Hid (¬ fitI (enI lv)) := fun h => h (.num a1 2) (by rw [← HD.out]; simp [enI]) ka1
    go_wp2
    go_ret
    exact ⟨by rw [decide_eq_false HF.out]; rfl, HB.out⟩
  refine (is16_yes ka1 _).mono ?_
  rintro e wx ⟨rfl, rfl⟩
  have Ka1 := hide ka1
  clear ka1
  go_wp2_with fail
  by_cases ka2 : wide a2 2
  case pos =>
    refine (is16_no ka2 _).mono ?_
    rintro e wx ⟨rfl, rfl⟩
    have HF : Hid (¬ fitI (enI lv)) := fun h => h (.num a2 2) (by rw [← HD.out]; simp [enI]) ka2
    go_wp2
    go_ret
    exact ⟨by rw [decide_eq_false HF.out]; rfl, HB.out⟩
  refine (is16_yes ka2 _).mono ?_
  rintro e wx ⟨rfl, rfl⟩
  have Ka2 := hide ka2
  clear ka2
  go_wp2_with fail
  by_cases ka3 : wide a3 2
  case pos =>
    refine (is16_no ka3 _).mono ?_
    rintro e wx ⟨rfl, rfl⟩
    have HF : Hid (¬ fitI (enI lv)) := fun h => h (.num a3 2) (by rw [← HD.out]; simp [enI]) ka3
    go_wp2
    go_ret
    exact ⟨by rw [decide_eq_false HF.out]; rfl, HB.out⟩
  refine (is16_yes ka3 _).mono ?_
  rintro e wx ⟨rfl, rfl⟩
  have Ka3 := hide ka3
  clear ka3
  go_wp2_with fail
  by_cases ka4 : wide a4 4
  case pos =>
    refine (is32_no ka4 _).mono ?_
    rintro e wx ⟨rfl, rfl⟩
    have HF : Hid (¬ fitI (enI lv)) := fun h => h (.num a4 4) (by rw [← HD.out]; simp [enI]) ka4
    go_wp2
    go_ret
    exact ⟨by rw [decide_eq_false HF.out]; rfl, HB.out⟩
  refine (is32_yes ka4 _).mono ?_
  rintro e wx ⟨rfl, rfl⟩
  have Ka4 := hide ka4
  clear ka4
  go_wp2_with fail
  by_cases ka5 : wide a5 4
  case pos =>
    refine (is32_no ka5 _).mono ?_
    rintro e wx ⟨rfl, rfl⟩
    have HF : Hid (¬ fitI (enI lv)) := fun h => h (.num a5 4) (by rw [← HD.out]; simp [enI]) ka5
    go_wp2
    go_ret
    exact ⟨by rw [decide_eq_false HF.out]; rfl, HB.out⟩
  refine (is32_yes ka5 _).mono ?_
  rintro e wx ⟨rfl, rfl⟩
  have Ka5 := hide ka5
  clear ka5
  by_cases ka6 : wide (a6.size : Int) 2
  case pos =>
    have ma6 : ¬ ((a6.size : Int) ≤ 65535) := by unfold wide at ka6; omega
    have HF : Hid (¬ fitI (enI lv)) := fun h => h (.num (a6.size : Int) 2) (by rw [← HD.out]; simp [enI]) ka6
    clear ka6
    go_wp2
    go_ret
    exact ⟨by rw [decide_eq_false HF.out]; first | rfl | (show Ending.returned (Value.bool (decide _)) = _; rw [decide_eq_false (by omega)]), HB.out⟩
  have ma6 : (a6.size : Int) ≤ 65535 := by unfold wide at ka6; omega
  have Ka6 := hide ka6
  clear ka6
  have HF : Hid (fitI (enI lv)) := by
    rw [← HD.out]
    simp only [enI]
    refine fitI_cons (by show ¬ wide _ _; unfold wide; omega) ?_
    refine fitI_cons Ka0.out (fitI_cons Ka1.out (fitI_cons Ka2.out (fitI_cons Ka3.out (fitI_cons Ka4.out (fitI_cons Ka5.out (fitI_cons Ka6.out (fitI_cons (fit_txt _) fitI_nil)))))))
  go_wp2
  go_ret
  exact ⟨by rw [decide_eq_true HF.out]; rfl, HB.out⟩

end Go.Proofs.Ytijmmfimkibgbaa

