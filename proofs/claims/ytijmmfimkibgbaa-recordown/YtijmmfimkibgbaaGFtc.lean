import Derived.Test.YtijmmfimkibgbaaGFit
namespace Go.Proofs.Ytijmmfimkibgbaa
open Go.RowKit Go.Maps
set_option maxRecDepth 20000
set_option linter.unusedVariables false
set_option linter.unusedSimpArgs false

theorem ce_lo_fit {c : Cen} (h : fitI (ceI c)) : fitI (loI c.loc) := by
  simp only [loI, lcI, List.cons_append, List.nil_append]
  refine fitI_cons (by show ¬ wide _ _; unfold wide; omega) ?_
  iterate 10 refine fitI_cons (h _ (by simp [ceI, lcI])) ?_
  exact fitI_cons (fit_txt _) (fitI_cons (fit_txt _) fitI_nil)

theorem ce_of {c : Cen} (h : fitI (loI c.loc)) (h1 : ¬ wide c.made 2) (h2 : ¬ wide c.disk 2) (h3 : ¬ wide c.internal 2) (h4 : ¬ wide c.external 4) (h5 : ¬ wide c.at' 4) (h6 : ¬ wide (c.comment.size : Int) 2) : fitI (ceI c) := by
  simp only [ceI, lcI, List.cons_append, List.nil_append]
  refine fitI_cons (by show ¬ wide _ _; unfold wide; omega) (fitI_cons h1 ?_)
  iterate 10 refine fitI_cons (h _ (by simp [loI, lcI])) ?_
  exact fitI_cons h6 (fitI_cons h2 (fitI_cons h3 (fitI_cons h4 (fitI_cons h5 (fitI_cons (fit_txt _) (fitI_cons (fit_txt _) (fitI_cons (fit_txt _) fitI_nil)))))))

set_option maxHeartbeats 4000000 in
theorem centralFits_any (l : Cen) (ok : l.Ok) (w : World) : Calls Try.prog 4 #[l.v] w fun e w' => e = .returned (.bool (decide (fitI (ceI l)))) ∧ Below w.heap.size w w' := by
  have HK := hide ok
  obtain ⟨lv, hlv⟩ : ∃ lv, lv = l := ⟨_, rfl⟩
  obtain ⟨wb, hwb⟩ : ∃ wb, w.alloc (.cells l.cs 26) = wb := ⟨_, rfl⟩
  have HB : Hid (Below w.heap.size w wb) := by rw [← hwb]; exact (Below.refl _ _).alloc (Nat.le_refl _) _
  have hN : wb.heap[w.heap.size]? = some (.cells l.cs 26 (0, 0)) := by rw [← hwb]; exact heap_alloc_new w _
  have HD : Hid (l = lv) := hlv.symm
  rw [show ceI l = ceI lv by rw [hlv]]
  obtain ⟨⟨a0, a1, a2, a3, a4, a5, a6, a7, a8, a9⟩, a10, a11, a12, a13, a14, a15⟩ := l
  simp only [Cen.cs, Loc.v, Loc.cs] at hN hwb
  simp only [Cen.v, Cen.cs, Loc.v, Loc.cs]
  have HLV : Hid (lv.loc.v = .agg #[.int .i64 a0, .int .i64 a1, .int .i64 a2, .int .i64 a3, .int .i64 a4, .int .u32 a5, .int .i64 a6, .int .i64 a7, .string a8, .string a9]) := by rw [hlv]; rfl
  have HN := hide hN
  have HK : Hid (lv.Ok) := by rw [hlv]; exact ok
  obtain ⟨c0, c1, c2, c3, c4, c5, c6, c7, c8, c9, c10, c11, c12, c13, c14, c15⟩ := box16 hN
  clear hN ok hlv
  go_enter Try.func4, Try.ntmps4
  go_wp2_with fail
  rw [← HLV.out]
  refine (localFits_any lv.loc HK.out.loc _).mono ?_
  rintro e wf ⟨rfl, hbf⟩
  by_cases hfl : fitI (loI lv.loc)
  case neg =>
    rw [show decide (fitI (loI lv.loc)) = false from decide_eq_false hfl]
    have HBF := hide (HB.out.trans (hbf.mono HB.out.size))
    clear hbf hwb
    go_wp2
    go_ret
    exact ⟨by rw [decide_eq_false (fun h => hfl (ce_lo_fit h))]; rfl, HBF.out⟩
  rw [show decide (fitI (loI lv.loc)) = true from decide_eq_true hfl]
  have HFL := hide hfl
  have HB0 := HB
  clear hfl HB
  have HB := hide (HB0.out.trans (hbf.mono HB0.out.size))
  have hN := (hbf.block _ (Array.getElem?_eq_some_iff.1 HN.out).1).trans HN.out
  clear c0 c1 c2 c3 c4 c5 c6 c7 c8 c9 c10 c11 c12 c13 c14 c15 hwb hbf HB0
  obtain ⟨c0, c1, c2, c3, c4, c5, c6, c7, c8, c9, c10, c11, c12, c13, c14, c15⟩ := box16 hN
  clear hN
  go_wp2_with fail
  by_cases ka10 : wide a10 2
  case pos =>
    refine (is16_no ka10 _).mono ?_
    rintro e wx ⟨rfl, rfl⟩
    have HF : Hid (¬ fitI (ceI lv)) := fun h => h (.num a10 2) (by rw [← HD.out]; simp [ceI, lcI]) ka10
    go_wp2
    go_ret
    exact ⟨by rw [decide_eq_false HF.out]; rfl, HB.out⟩
  refine (is16_yes ka10 _).mono ?_
  rintro e wx ⟨rfl, rfl⟩
  have Ka10 := hide ka10
  clear ka10
  go_wp2_with fail
  by_cases ka11 : wide a11 2
  case pos =>
    refine (is16_no ka11 _).mono ?_
    rintro e wx ⟨rfl, rfl⟩
    have HF : Hid (¬ fitI (ceI lv)) := fun h => h (.num a11 2) (by rw [← HD.out]; simp [ceI, lcI]) ka11
    go_wp2
    go_ret
    exact ⟨by rw [decide_eq_false HF.out]; rfl, HB.out⟩
  refine (is16_yes ka11 _).mono ?_
  rintro e wx ⟨rfl, rfl⟩
  have Ka11 := hide ka11
  clear ka11
  go_wp2_with fail
  by_cases ka12 : wide a12 2
  case pos =>
    refine (is16_no ka12 _).mono ?_
    rintro e wx ⟨rfl, rfl⟩
    have HF : Hid (¬ fitI (ceI lv)) := fun h => h (.num a12 2) (by rw [← HD.out]; simp [ceI, lcI]) ka12
    go_wp2
    go_ret
    exact ⟨by rw [decide_eq_false HF.out]; rfl, HB.out⟩
  refine (is16_yes ka12 _).mono ?_
  rintro e wx ⟨rfl, rfl⟩
  have Ka12 := hide ka12
  clear ka12
  go_wp2_with fail
  by_cases ka13 : wide a13 4
  case pos =>
    refine (is32_no ka13 _).mono ?_
    rintro e wx ⟨rfl, rfl⟩
    have HF : Hid (¬ fitI (ceI lv)) := fun h => h (.num a13 4) (by rw [← HD.out]; simp [ceI, lcI]) ka13
    go_wp2
    go_ret
    exact ⟨by rw [decide_eq_false HF.out]; rfl, HB.out⟩
  refine (is32_yes ka13 _).mono ?_
  rintro e wx ⟨rfl, rfl⟩
  have Ka13 := hide ka13
  clear ka13
  go_wp2_with fail
  by_cases ka14 : wide a14 4
  case pos =>
    refine (is32_no ka14 _).mono ?_
    rintro e wx ⟨rfl, rfl⟩
    have HF : Hid (¬ fitI (ceI lv)) := fun h => h (.num a14 4) (by rw [← HD.out]; simp [ceI, lcI]) ka14
    go_wp2
    go_ret
    exact ⟨by rw [decide_eq_false HF.out]; rfl, HB.out⟩
  refine (is32_yes ka14 _).mono ?_
  rintro e wx ⟨rfl, rfl⟩
  have Ka14 := hide ka14
  clear ka14
  by_cases ka15 : wide (a15.size : Int) 2
  case pos =>
    have ma15 : ¬ ((a15.size : Int) ≤ 65535) := by unfold wide at ka15; omega
    have HF : Hid (¬ fitI (ceI lv)) := fun h => h (.num (a15.size : Int) 2) (by rw [← HD.out]; simp [ceI, lcI]) ka15
    clear ka15
    go_wp2
    go_ret
    exact ⟨by rw [decide_eq_false HF.out]; first | rfl | (show Ending.returned (Value.bool (decide _)) = _; rw [decide_eq_false (by omega)]), HB.out⟩
  have ma15 : (a15.size : Int) ≤ 65535 := by unfold wide at ka15; omega
  have Ka15 := hide ka15
  clear ka15
  have HF : Hid (fitI (ceI lv)) := by
    rw [← HD.out]
    exact ce_of (by rw [HD.out]; exact HFL.out) Ka10.out Ka11.out Ka12.out Ka13.out Ka14.out Ka15.out
  go_wp2
  go_ret
  exact ⟨by rw [decide_eq_true HF.out]; rfl, HB.out⟩

end Go.Proofs.Ytijmmfimkibgbaa

