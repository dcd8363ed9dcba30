import Derived.Test.YtaeifigbnlffbaaDoorG09Tpl
namespace Go.Proofs.YtaeifigbnlffbaaDoor
open Go.RowKit Go.Maps
set_option maxRecDepth 20000
set_option linter.unusedVariables false
set_option linter.unusedSimpArgs false

/-! The document's Sound. -/

theorem sl_is (s : ByteArray) (h : 0 < s.size) : sl s = decide (((s[s.size - 1]'(by omega)).toNat : Int) = 47) := by
  unfold sl Lib.hasSuffix
  have hl := size_list s
  have hne : s.data.toList ≠ [] := by intro e; rw [e] at hl; simp at hl; omega
  have h1 : s.data.toList = s.data.toList.dropLast ++ [s.data.toList.getLast hne] := (List.dropLast_concat_getLast hne).symm
  have h2 : s.data.toList.getLast hne = s[s.size - 1]'(by omega) := by
    have := str_at s (s.size - 1) (by omega)
    rw [List.getLast_eq_getElem]
    have h3 := (List.getElem?_eq_some_iff.1 this).2
    rw [← h3]
    congr 1
  rw [h1, h2]
  rw [Bool.eq_iff_iff, List.isSuffixOf_iff_suffix, decide_eq_true_eq, ← byte47]
  constructor
  · rintro ⟨t, ht⟩
    have := List.append_inj_right' ht rfl
    simp at this
    exact this.symm
  · intro e
    rw [e]
    exact List.suffix_append _ _

theorem cut_pos {s : ByteArray} (h : (cutB s).2.2 = true) : 0 < s.size := by
  unfold cutB at h
  by_cases h1 : s.size ≤ 100
  · rw [if_pos h1] at h
    simpa using h
  · omega

def okX (f : Fl) : Bool := (cutB f.nm).2.2 && !zeroB f.nm && !zeroB f.lk && !zeroB f.us && !zeroB f.tm && decide (f.us.size ≤ 31) && decide (f.tm.size ≤ 31)
def okY (f : Fl) : Bool := decide (0 ≤ f.md) && decide (f.md ≤ 2097151) && decide (0 ≤ f.ow) && decide (f.ow ≤ 2097151) && decide (0 ≤ f.gr) && decide (f.gr ≤ 2097151) && decide (0 ≤ f.ti) && decide (f.ti ≤ 8589934591)
def okZ (f : Fl) : Bool :=
  if f.kd = 0 then !(sl f.nm) && f.lk.toList.isEmpty else if f.kd = 2 then !(sl f.nm) && decide (1 ≤ (f.lk.size : Int)) && decide ((f.lk.size : Int) ≤ 100) && decide (f.dt.length = 0) else if f.kd = 5 then sl f.nm && f.lk.toList.isEmpty && decide (f.dt.length = 0) else false

theorem ok_same (f : Fl) : (okX f && okY f && okZ f) = okS f f.dt.length := by
  have hN : okY f = okN f := by
    unfold okY okN fitN
    rw [Bool.eq_iff_iff]
    simp only [Bool.and_eq_true, decide_eq_true_eq]
    omega
  rw [hN]
  unfold okS okX okT okZ okK
  have he := empty_is f.lk
  rw [Bool.eq_iff_iff]
  by_cases h0 : f.kd = 0
  · simp only [h0, if_true, he, Bool.and_eq_true, decide_eq_true_eq, Bool.not_eq_true', Bool.or_eq_false_iff]
    constructor
    · rintro ⟨⟨⟨⟨⟨⟨⟨⟨a, b⟩, c⟩, d⟩, e⟩, g⟩, h⟩, i⟩, j, k⟩
      exact ⟨⟨⟨a, j, k⟩, ⟨⟨by omega, by omega⟩, by omega⟩, ⟨⟨b, c⟩, d⟩, e⟩, i⟩
    · rintro ⟨⟨⟨a, j, k⟩, ⟨⟨x, g⟩, h⟩, ⟨⟨b, c⟩, d⟩, e⟩, i⟩
      exact ⟨⟨⟨⟨⟨⟨⟨⟨a, b⟩, c⟩, d⟩, e⟩, by omega⟩, by omega⟩, i⟩, j, k⟩
  · by_cases h2 : f.kd = 2
    · simp only [h2, he, Bool.and_eq_true, decide_eq_true_eq, Bool.not_eq_true', Bool.or_eq_false_iff, decide_eq_false_iff_not, show ¬ ((2 : Int) = 0) by decide, if_false, if_true]
      constructor
      · rintro ⟨⟨⟨⟨⟨⟨⟨⟨a, b⟩, c⟩, d⟩, e⟩, g⟩, h⟩, i⟩, ⟨⟨j, k⟩, l⟩, m⟩
        exact ⟨⟨⟨a, ⟨j, by omega⟩, by omega⟩, ⟨⟨by omega, by omega⟩, by omega⟩, ⟨⟨b, c⟩, d⟩, e⟩, i⟩
      · rintro ⟨⟨⟨a, ⟨j, k⟩, m⟩, ⟨⟨x, g⟩, h⟩, ⟨⟨b, c⟩, d⟩, e⟩, i⟩
        exact ⟨⟨⟨⟨⟨⟨⟨⟨a, b⟩, c⟩, d⟩, e⟩, by omega⟩, by omega⟩, i⟩, ⟨⟨j, by omega⟩, by omega⟩, by omega⟩
    · by_cases h5 : f.kd = 5
      · simp only [h5, he, Bool.and_eq_true, decide_eq_true_eq, Bool.not_eq_true', Bool.or_eq_false_iff, show ¬ ((5 : Int) = 0) by decide, show ¬ ((5 : Int) = 2) by decide, if_false, if_true]
        constructor
        · rintro ⟨⟨⟨⟨⟨⟨⟨⟨a, b⟩, c⟩, d⟩, e⟩, g⟩, h⟩, i⟩, ⟨j, k⟩, m⟩
          exact ⟨⟨⟨a, ⟨j, k⟩, by omega⟩, ⟨⟨by omega, by omega⟩, by omega⟩, ⟨⟨b, c⟩, d⟩, e⟩, i⟩
        · rintro ⟨⟨⟨a, ⟨j, k⟩, m⟩, ⟨⟨x, g⟩, h⟩, ⟨⟨b, c⟩, d⟩, e⟩, i⟩
          exact ⟨⟨⟨⟨⟨⟨⟨⟨a, b⟩, c⟩, d⟩, e⟩, by omega⟩, by omega⟩, i⟩, ⟨j, k⟩, by omega⟩
      · rw [if_neg h0, if_neg h2, if_neg h5, if_neg h0, if_neg h2, if_neg h5]
        simp
set_option maxHeartbeats 8000000 in
theorem hxSound (f : Fl) (ao : Option Addr) (cap : Nat) (w : World) (hs : f.nm.size ≤ 1048576) (hs2 : f.lk.size ≤ 1048576) (hs3 : f.us.size ≤ 1048576) (hs4 : f.tm.size ≤ 1048576) (hdt : f.dt.length ≤ 1000000000) :
    Calls Tryd.prog 28 #[.agg (fcs f (.slice ao f.dt.length cap))] w fun e w' => e = .returned (.bool (okS f f.dt.length)) ∧ Below w.heap.size w w' := by
  obtain ⟨wb, hwb⟩ : ∃ wb, w.alloc (.cells (fcs f (.slice ao f.dt.length cap)) 39) = wb := ⟨_, rfl⟩
  obtain ⟨hB, hN⟩ := alloc_box hwb
  have HB := hide hB
  have HC := hide (hsplit f.nm wb (by omega))
  have HZ1 : Hid (∀ w, Calls Tryd.prog 48 #[.string f.nm] w fun e w' => e = .returned (.bool (zeroB f.nm)) ∧ w' = w) := fun w => hzeros f.nm w (by omega)
  have HZ2 : Hid (∀ w, Calls Tryd.prog 48 #[.string f.lk] w fun e w' => e = .returned (.bool (zeroB f.lk)) ∧ w' = w) := fun w => hzeros f.lk w (by omega)
  have HZ3 : Hid (∀ w, Calls Tryd.prog 48 #[.string f.us] w fun e w' => e = .returned (.bool (zeroB f.us)) ∧ w' = w) := fun w => hzeros f.us w (by omega)
  have HZ4 : Hid (∀ w, Calls Tryd.prog 48 #[.string f.tm] w fun e w' => e = .returned (.bool (zeroB f.tm)) ∧ w' = w) := fun w => hzeros f.tm w (by omega)
  have HSL : Hid (∀ h : 0 < f.nm.size, sl f.nm = decide (((f.nm[f.nm.size - 1]'(by omega)).toNat : Int) = 47)) := fun h => sl_is f.nm h
  have HPO : Hid ((cutB f.nm).2.2 = true → 0 < f.nm.size) := cut_pos
  have HE := hide (ok_same f).symm
  unfold okX okY okZ at HE
  obtain ⟨r, HR⟩ : ∃ r, Hid (r = okS f f.dt.length) := ⟨_, rfl⟩
  rw [← HR.out] at HE ⊢
  clear HR
  obtain ⟨nm, lk, us, tm, kd, md, ow, gr, ti, dt⟩ := f
  simp only at HC HZ1 HZ2 HZ3 HZ4 HSL HPO HE hwb hN hs hs2 hs3 hs4 hdt
  obtain ⟨ct1, ct2, c3, hct⟩ : ∃ a b c, cutB nm = (a, b, c) := ⟨_, _, _, rfl⟩
  rw [hct] at HC HPO HE
  simp only at HC HPO HE
  obtain ⟨z1, hz1⟩ : ∃ z, z = zeroB nm := ⟨_, rfl⟩
  obtain ⟨z2, hz2⟩ : ∃ z, z = zeroB lk := ⟨_, rfl⟩
  obtain ⟨z3, hz3⟩ : ∃ z, z = zeroB us := ⟨_, rfl⟩
  obtain ⟨z4, hz4⟩ : ∃ z, z = zeroB tm := ⟨_, rfl⟩
  obtain ⟨sn, hsn⟩ : ∃ z, z = sl nm := ⟨_, rfl⟩
  obtain ⟨le, hle⟩ : ∃ z, z = lk.toList.isEmpty := ⟨_, rfl⟩
  obtain ⟨n, hn⟩ : ∃ n, n = dt.length := ⟨_, rfl⟩
  rw [← hz1] at HZ1 HE
  rw [← hz2] at HZ2 HE
  rw [← hz3] at HZ3 HE
  rw [← hz4] at HZ4 HE
  rw [← hsn] at HSL HE
  rw [← hle] at HE
  rw [← hn] at HE hwb hN hdt ⊢
  clear hz1 hz2 hz3 hz4 hsn hct hn
  have HNB : Hid (∀ wx, Below wb.heap.size wb wx → wx.heap[w.heap.size]? = some (.cells #[.string nm, .string lk, .string us, .string tm, .int .i64 kd, .int .i64 md, .int .i64 ow, .int .i64 gr, .int .i64 ti, .slice ao n cap] 39 (0, 0))) := fun wx hb => by
    rw [hb.block _ (Array.getElem?_eq_some_iff.1 hN).1]; exact hN
  obtain ⟨k0, k1, k2, k3, k4, k5, k6, k7, k8, k9⟩ := box10 hN
  clear hN hB
  go_enter Tryd.func28, Tryd.ntmps28
  go_wp2_with fail
  refine HC.out.mono ?_
  rintro e w1 ⟨rfl, n1, hn1⟩
  have B1 : Hid (Below wb.heap.size wb w1) := by show Below _ _ _; rw [hn1]; exact below_drewN (Below.refl _ _) n1
  have HBF : Hid (Below w.heap.size w w1) := HB.out.trans (B1.out.mono HB.out.size)
  clear hn1 k0 k1 k2 k3 k4 k5 k6 k7 k8 k9 hwb HC
  obtain ⟨k0, k1, k2, k3, k4, k5, k6, k7, k8, k9⟩ := box10 (HNB.out _ B1.out)
  cases c3 with
  | false =>
    go_wp2_with (first | (go_at_call_of 48 (Value.string nm); refine (HZ1.out _).mono ?_; rintro e wz ⟨rfl, hq⟩; have hq2 := hq.symm; clear hq; subst hq2) | (go_at_call_of 48 (Value.string lk); refine (HZ2.out _).mono ?_; rintro e wz ⟨rfl, hq⟩; have hq2 := hq.symm; clear hq; subst hq2) | (go_at_call_of 48 (Value.string us); refine (HZ3.out _).mono ?_; rintro e wz ⟨rfl, hq⟩; have hq2 := hq.symm; clear hq; subst hq2) | (go_at_call_of 48 (Value.string tm); refine (HZ4.out _).mono ?_; rintro e wz ⟨rfl, hq⟩; have hq2 := hq.symm; clear hq; subst hq2))
    go_ret
    exact ⟨by rw [HE.out]; rfl, HBF.out⟩
  | true =>
    cases z1 with
    | true =>
      go_wp2_with (first | (go_at_call_of 48 (Value.string nm); refine (HZ1.out _).mono ?_; rintro e wz ⟨rfl, hq⟩; have hq2 := hq.symm; clear hq; subst hq2) | (go_at_call_of 48 (Value.string lk); refine (HZ2.out _).mono ?_; rintro e wz ⟨rfl, hq⟩; have hq2 := hq.symm; clear hq; subst hq2) | (go_at_call_of 48 (Value.string us); refine (HZ3.out _).mono ?_; rintro e wz ⟨rfl, hq⟩; have hq2 := hq.symm; clear hq; subst hq2) | (go_at_call_of 48 (Value.string tm); refine (HZ4.out _).mono ?_; rintro e wz ⟨rfl, hq⟩; have hq2 := hq.symm; clear hq; subst hq2))
      go_ret
      exact ⟨by rw [HE.out]; simp, HBF.out⟩
    | false =>
      cases z2 with
      | true =>
        go_wp2_with (first | (go_at_call_of 48 (Value.string nm); refine (HZ1.out _).mono ?_; rintro e wz ⟨rfl, hq⟩; have hq2 := hq.symm; clear hq; subst hq2) | (go_at_call_of 48 (Value.string lk); refine (HZ2.out _).mono ?_; rintro e wz ⟨rfl, hq⟩; have hq2 := hq.symm; clear hq; subst hq2) | (go_at_call_of 48 (Value.string us); refine (HZ3.out _).mono ?_; rintro e wz ⟨rfl, hq⟩; have hq2 := hq.symm; clear hq; subst hq2) | (go_at_call_of 48 (Value.string tm); refine (HZ4.out _).mono ?_; rintro e wz ⟨rfl, hq⟩; have hq2 := hq.symm; clear hq; subst hq2))
        go_ret
        exact ⟨by rw [HE.out]; simp, HBF.out⟩
      | false =>
        cases z3 with
        | true =>
          go_wp2_with (first | (go_at_call_of 48 (Value.string nm); refine (HZ1.out _).mono ?_; rintro e wz ⟨rfl, hq⟩; have hq2 := hq.symm; clear hq; subst hq2) | (go_at_call_of 48 (Value.string lk); refine (HZ2.out _).mono ?_; rintro e wz ⟨rfl, hq⟩; have hq2 := hq.symm; clear hq; subst hq2) | (go_at_call_of 48 (Value.string us); refine (HZ3.out _).mono ?_; rintro e wz ⟨rfl, hq⟩; have hq2 := hq.symm; clear hq; subst hq2) | (go_at_call_of 48 (Value.string tm); refine (HZ4.out _).mono ?_; rintro e wz ⟨rfl, hq⟩; have hq2 := hq.symm; clear hq; subst hq2))
          go_ret
          exact ⟨by rw [HE.out]; simp, HBF.out⟩
        | false =>
          cases z4 with
          | true =>
            go_wp2_with (first | (go_at_call_of 48 (Value.string nm); refine (HZ1.out _).mono ?_; rintro e wz ⟨rfl, hq⟩; have hq2 := hq.symm; clear hq; subst hq2) | (go_at_call_of 48 (Value.string lk); refine (HZ2.out _).mono ?_; rintro e wz ⟨rfl, hq⟩; have hq2 := hq.symm; clear hq; subst hq2) | (go_at_call_of 48 (Value.string us); refine (HZ3.out _).mono ?_; rintro e wz ⟨rfl, hq⟩; have hq2 := hq.symm; clear hq; subst hq2) | (go_at_call_of 48 (Value.string tm); refine (HZ4.out _).mono ?_; rintro e wz ⟨rfl, hq⟩; have hq2 := hq.symm; clear hq; subst hq2))
            go_ret
            exact ⟨by rw [HE.out]; simp, HBF.out⟩
          | false =>
            by_cases hus : (us.size : Int) ≤ 31
            case neg =>
              have hus2 : ¬ us.size ≤ 31 := by omega
              go_wp2_with (first | (go_at_call_of 48 (Value.string nm); refine (HZ1.out _).mono ?_; rintro e wz ⟨rfl, hq⟩; have hq2 := hq.symm; clear hq; subst hq2) | (go_at_call_of 48 (Value.string lk); refine (HZ2.out _).mono ?_; rintro e wz ⟨rfl, hq⟩; have hq2 := hq.symm; clear hq; subst hq2) | (go_at_call_of 48 (Value.string us); refine (HZ3.out _).mono ?_; rintro e wz ⟨rfl, hq⟩; have hq2 := hq.symm; clear hq; subst hq2) | (go_at_call_of 48 (Value.string tm); refine (HZ4.out _).mono ?_; rintro e wz ⟨rfl, hq⟩; have hq2 := hq.symm; clear hq; subst hq2))
              go_ret
              exact ⟨by rw [HE.out]; simp [hus2], HBF.out⟩
            have hus2 : us.size ≤ 31 := by omega
            by_cases htm : (tm.size : Int) ≤ 31
            case neg =>
              have htm2 : ¬ tm.size ≤ 31 := by omega
              go_wp2_with (first | (go_at_call_of 48 (Value.string nm); refine (HZ1.out _).mono ?_; rintro e wz ⟨rfl, hq⟩; have hq2 := hq.symm; clear hq; subst hq2) | (go_at_call_of 48 (Value.string lk); refine (HZ2.out _).mono ?_; rintro e wz ⟨rfl, hq⟩; have hq2 := hq.symm; clear hq; subst hq2) | (go_at_call_of 48 (Value.string us); refine (HZ3.out _).mono ?_; rintro e wz ⟨rfl, hq⟩; have hq2 := hq.symm; clear hq; subst hq2) | (go_at_call_of 48 (Value.string tm); refine (HZ4.out _).mono ?_; rintro e wz ⟨rfl, hq⟩; have hq2 := hq.symm; clear hq; subst hq2))
              go_ret
              exact ⟨by rw [HE.out]; simp [htm2], HBF.out⟩
            have htm2 : tm.size ≤ 31 := by omega
            by_cases qmd : 0 ≤ md
            case neg =>
              go_wp2_with (first | (go_at_call_of 48 (Value.string nm); refine (HZ1.out _).mono ?_; rintro e wz ⟨rfl, hq⟩; have hq2 := hq.symm; clear hq; subst hq2) | (go_at_call_of 48 (Value.string lk); refine (HZ2.out _).mono ?_; rintro e wz ⟨rfl, hq⟩; have hq2 := hq.symm; clear hq; subst hq2) | (go_at_call_of 48 (Value.string us); refine (HZ3.out _).mono ?_; rintro e wz ⟨rfl, hq⟩; have hq2 := hq.symm; clear hq; subst hq2) | (go_at_call_of 48 (Value.string tm); refine (HZ4.out _).mono ?_; rintro e wz ⟨rfl, hq⟩; have hq2 := hq.symm; clear hq; subst hq2))
              go_ret
              exact ⟨by rw [HE.out, show decide (0 ≤ md) = false from decide_eq_false (by omega)]; simp, HBF.out⟩
            by_cases pmd : md ≤ 2097151
            case neg =>
              go_wp2_with (first | (go_at_call_of 48 (Value.string nm); refine (HZ1.out _).mono ?_; rintro e wz ⟨rfl, hq⟩; have hq2 := hq.symm; clear hq; subst hq2) | (go_at_call_of 48 (Value.string lk); refine (HZ2.out _).mono ?_; rintro e wz ⟨rfl, hq⟩; have hq2 := hq.symm; clear hq; subst hq2) | (go_at_call_of 48 (Value.string us); refine (HZ3.out _).mono ?_; rintro e wz ⟨rfl, hq⟩; have hq2 := hq.symm; clear hq; subst hq2) | (go_at_call_of 48 (Value.string tm); refine (HZ4.out _).mono ?_; rintro e wz ⟨rfl, hq⟩; have hq2 := hq.symm; clear hq; subst hq2))
              go_ret
              exact ⟨by rw [HE.out, show decide (md ≤ 2097151) = false from decide_eq_false (by omega)]; simp, HBF.out⟩
            by_cases qow : 0 ≤ ow
            case neg =>
              go_wp2_with (first | (go_at_call_of 48 (Value.string nm); refine (HZ1.out _).mono ?_; rintro e wz ⟨rfl, hq⟩; have hq2 := hq.symm; clear hq; subst hq2) | (go_at_call_of 48 (Value.string lk); refine (HZ2.out _).mono ?_; rintro e wz ⟨rfl, hq⟩; have hq2 := hq.symm; clear hq; subst hq2) | (go_at_call_of 48 (Value.string us); refine (HZ3.out _).mono ?_; rintro e wz ⟨rfl, hq⟩; have hq2 := hq.symm; clear hq; subst hq2) | (go_at_call_of 48 (Value.string tm); refine (HZ4.out _).mono ?_; rintro e wz ⟨rfl, hq⟩; have hq2 := hq.symm; clear hq; subst hq2))
              go_ret
              exact ⟨by rw [HE.out, show decide (0 ≤ ow) = false from decide_eq_false (by omega)]; simp, HBF.out⟩
            by_cases pow : ow ≤ 2097151
            case neg =>
              go_wp2_with (first | (go_at_call_of 48 (Value.string nm); refine (HZ1.out _).mono ?_; rintro e wz ⟨rfl, hq⟩; have hq2 := hq.symm; clear hq; subst hq2) | (go_at_call_of 48 (Value.string lk); refine (HZ2.out _).mono ?_; rintro e wz ⟨rfl, hq⟩; have hq2 := hq.symm; clear hq; subst hq2) | (go_at_call_of 48 (Value.string us); refine (HZ3.out _).mono ?_; rintro e wz ⟨rfl, hq⟩; have hq2 := hq.symm; clear hq; subst hq2) | (go_at_call_of 48 (Value.string tm); refine (HZ4.out _).mono ?_; rintro e wz ⟨rfl, hq⟩; have hq2 := hq.symm; clear hq; subst hq2))
              go_ret
              exact ⟨by rw [HE.out, show decide (ow ≤ 2097151) = false from decide_eq_false (by omega)]; simp, HBF.out⟩
            by_cases qgr : 0 ≤ gr
            case neg =>
              go_wp2_with (first | (go_at_call_of 48 (Value.string nm); refine (HZ1.out _).mono ?_; rintro e wz ⟨rfl, hq⟩; have hq2 := hq.symm; clear hq; subst hq2) | (go_at_call_of 48 (Value.string lk); refine (HZ2.out _).mono ?_; rintro e wz ⟨rfl, hq⟩; have hq2 := hq.symm; clear hq; subst hq2) | (go_at_call_of 48 (Value.string us); refine (HZ3.out _).mono ?_; rintro e wz ⟨rfl, hq⟩; have hq2 := hq.symm; clear hq; subst hq2) | (go_at_call_of 48 (Value.string tm); refine (HZ4.out _).mono ?_; rintro e wz ⟨rfl, hq⟩; have hq2 := hq.symm; clear hq; subst hq2))
              go_ret
              exact ⟨by rw [HE.out, show decide (0 ≤ gr) = false from decide_eq_false (by omega)]; simp, HBF.out⟩
            by_cases pgr : gr ≤ 2097151
            case neg =>
              go_wp2_with (first | (go_at_call_of 48 (Value.string nm); refine (HZ1.out _).mono ?_; rintro e wz ⟨rfl, hq⟩; have hq2 := hq.symm; clear hq; subst hq2) | (go_at_call_of 48 (Value.string lk); refine (HZ2.out _).mono ?_; rintro e wz ⟨rfl, hq⟩; have hq2 := hq.symm; clear hq; subst hq2) | (go_at_call_of 48 (Value.string us); refine (HZ3.out _).mono ?_; rintro e wz ⟨rfl, hq⟩; have hq2 := hq.symm; clear hq; subst hq2) | (go_at_call_of 48 (Value.string tm); refine (HZ4.out _).mono ?_; rintro e wz ⟨rfl, hq⟩; have hq2 := hq.symm; clear hq; subst hq2))
              go_ret
              exact ⟨by rw [HE.out, show decide (gr ≤ 2097151) = false from decide_eq_false (by omega)]; simp, HBF.out⟩
            by_cases qti : 0 ≤ ti
            case neg =>
              go_wp2_with (first | (go_at_call_of 48 (Value.string nm); refine (HZ1.out _).mono ?_; rintro e wz ⟨rfl, hq⟩; have hq2 := hq.symm; clear hq; subst hq2) | (go_at_call_of 48 (Value.string lk); refine (HZ2.out _).mono ?_; rintro e wz ⟨rfl, hq⟩; have hq2 := hq.symm; clear hq; subst hq2) | (go_at_call_of 48 (Value.string us); refine (HZ3.out _).mono ?_; rintro e wz ⟨rfl, hq⟩; have hq2 := hq.symm; clear hq; subst hq2) | (go_at_call_of 48 (Value.string tm); refine (HZ4.out _).mono ?_; rintro e wz ⟨rfl, hq⟩; have hq2 := hq.symm; clear hq; subst hq2))
              go_ret
              exact ⟨by rw [HE.out, show decide (0 ≤ ti) = false from decide_eq_false (by omega)]; simp, HBF.out⟩
            by_cases pti : ti ≤ 8589934591
            case neg =>
              go_wp2_with (first | (go_at_call_of 48 (Value.string nm); refine (HZ1.out _).mono ?_; rintro e wz ⟨rfl, hq⟩; have hq2 := hq.symm; clear hq; subst hq2) | (go_at_call_of 48 (Value.string lk); refine (HZ2.out _).mono ?_; rintro e wz ⟨rfl, hq⟩; have hq2 := hq.symm; clear hq; subst hq2) | (go_at_call_of 48 (Value.string us); refine (HZ3.out _).mono ?_; rintro e wz ⟨rfl, hq⟩; have hq2 := hq.symm; clear hq; subst hq2) | (go_at_call_of 48 (Value.string tm); refine (HZ4.out _).mono ?_; rintro e wz ⟨rfl, hq⟩; have hq2 := hq.symm; clear hq; subst hq2))
              go_ret
              exact ⟨by rw [HE.out, show decide (ti ≤ 8589934591) = false from decide_eq_false (by omega)]; simp, HBF.out⟩
            have hpos : 0 < nm.size := HPO.out rfl
            obtain ⟨K, hK⟩ : ∃ K, K = nm.size - 1 := ⟨_, rfl⟩
            have hKl : K < nm.size := by omega
            have hK1 : (nm.size : Int) - 1 = (K : Int) := by omega
            have HSN : Hid (sn = decide (((nm[K]'hKl).toNat : Int) = 47)) := by
              subst hK
              exact HSL.out hpos
            have HR1 : Hid (r = if kd = 0 then !sn && le else if kd = 2 then !sn && decide (1 ≤ (lk.size : Int)) && decide ((lk.size : Int) ≤ 100) && decide (n = 0) else if kd = 5 then sn && le && decide (n = 0) else false) := by
              show _ = _
              rw [HE.out, show decide (0 ≤ md) = true from decide_eq_true qmd, show decide (md ≤ 2097151) = true from decide_eq_true pmd, show decide (0 ≤ ow) = true from decide_eq_true qow, show decide (ow ≤ 2097151) = true from decide_eq_true pow, show decide (0 ≤ gr) = true from decide_eq_true qgr, show decide (gr ≤ 2097151) = true from decide_eq_true pgr, show decide (0 ≤ ti) = true from decide_eq_true qti, show decide (ti ≤ 8589934591) = true from decide_eq_true pti, show decide (us.size ≤ 31) = true from decide_eq_true hus2, show decide (tm.size ≤ 31) = true from decide_eq_true htm2]
              simp
            clear HE HSL HPO hpos hK
            have hle2 := hle.symm
            clear hle
            by_cases hb : ((nm[K]'hKl).toNat : Int) = 47
            case pos =>
              obtain rfl : sn = true := by rw [HSN.out]; exact decide_eq_true hb
              clear HSN
              by_cases h0 : kd = 0
              case pos =>
                subst h0
                go_wp2_with (first | (go_at_call_of 48 (Value.string nm); refine (HZ1.out _).mono ?_; rintro e wz ⟨rfl, hq⟩; have hq2 := hq.symm; clear hq; subst hq2) | (go_at_call_of 48 (Value.string lk); refine (HZ2.out _).mono ?_; rintro e wz ⟨rfl, hq⟩; have hq2 := hq.symm; clear hq; subst hq2) | (go_at_call_of 48 (Value.string us); refine (HZ3.out _).mono ?_; rintro e wz ⟨rfl, hq⟩; have hq2 := hq.symm; clear hq; subst hq2) | (go_at_call_of 48 (Value.string tm); refine (HZ4.out _).mono ?_; rintro e wz ⟨rfl, hq⟩; have hq2 := hq.symm; clear hq; subst hq2))
                go_ret
                exact ⟨by rw [HR1.out]; simp [hb], HBF.out⟩
              by_cases h2 : kd = 2
              case pos =>
                subst h2
                go_wp2_with (first | (go_at_call_of 48 (Value.string nm); refine (HZ1.out _).mono ?_; rintro e wz ⟨rfl, hq⟩; have hq2 := hq.symm; clear hq; subst hq2) | (go_at_call_of 48 (Value.string lk); refine (HZ2.out _).mono ?_; rintro e wz ⟨rfl, hq⟩; have hq2 := hq.symm; clear hq; subst hq2) | (go_at_call_of 48 (Value.string us); refine (HZ3.out _).mono ?_; rintro e wz ⟨rfl, hq⟩; have hq2 := hq.symm; clear hq; subst hq2) | (go_at_call_of 48 (Value.string tm); refine (HZ4.out _).mono ?_; rintro e wz ⟨rfl, hq⟩; have hq2 := hq.symm; clear hq; subst hq2))
                go_ret
                exact ⟨by rw [HR1.out]; simp [hb], HBF.out⟩
              by_cases h5 : kd = 5
              case pos =>
                subst h5
                cases le
                case false =>
                  go_wp2_with (first | (go_at_call_of 48 (Value.string nm); refine (HZ1.out _).mono ?_; rintro e wz ⟨rfl, hq⟩; have hq2 := hq.symm; clear hq; subst hq2) | (go_at_call_of 48 (Value.string lk); refine (HZ2.out _).mono ?_; rintro e wz ⟨rfl, hq⟩; have hq2 := hq.symm; clear hq; subst hq2) | (go_at_call_of 48 (Value.string us); refine (HZ3.out _).mono ?_; rintro e wz ⟨rfl, hq⟩; have hq2 := hq.symm; clear hq; subst hq2) | (go_at_call_of 48 (Value.string tm); refine (HZ4.out _).mono ?_; rintro e wz ⟨rfl, hq⟩; have hq2 := hq.symm; clear hq; subst hq2))
                  go_ret
                  exact ⟨by rw [HR1.out]; simp [hb], HBF.out⟩
                by_cases l3 : (n : Int) = 0
                case neg =>
                  go_wp2_with (first | (go_at_call_of 48 (Value.string nm); refine (HZ1.out _).mono ?_; rintro e wz ⟨rfl, hq⟩; have hq2 := hq.symm; clear hq; subst hq2) | (go_at_call_of 48 (Value.string lk); refine (HZ2.out _).mono ?_; rintro e wz ⟨rfl, hq⟩; have hq2 := hq.symm; clear hq; subst hq2) | (go_at_call_of 48 (Value.string us); refine (HZ3.out _).mono ?_; rintro e wz ⟨rfl, hq⟩; have hq2 := hq.symm; clear hq; subst hq2) | (go_at_call_of 48 (Value.string tm); refine (HZ4.out _).mono ?_; rintro e wz ⟨rfl, hq⟩; have hq2 := hq.symm; clear hq; subst hq2))
                  go_ret
                  exact ⟨by rw [HR1.out]; simp [hb, show ¬ (n = 0) by omega], HBF.out⟩
                go_wp2_with (first | (go_at_call_of 48 (Value.string nm); refine (HZ1.out _).mono ?_; rintro e wz ⟨rfl, hq⟩; have hq2 := hq.symm; clear hq; subst hq2) | (go_at_call_of 48 (Value.string lk); refine (HZ2.out _).mono ?_; rintro e wz ⟨rfl, hq⟩; have hq2 := hq.symm; clear hq; subst hq2) | (go_at_call_of 48 (Value.string us); refine (HZ3.out _).mono ?_; rintro e wz ⟨rfl, hq⟩; have hq2 := hq.symm; clear hq; subst hq2) | (go_at_call_of 48 (Value.string tm); refine (HZ4.out _).mono ?_; rintro e wz ⟨rfl, hq⟩; have hq2 := hq.symm; clear hq; subst hq2))
                go_ret
                exact ⟨by rw [HR1.out]; simp [hb, show n = 0 by omega], HBF.out⟩
              go_wp2_with (first | (go_at_call_of 48 (Value.string nm); refine (HZ1.out _).mono ?_; rintro e wz ⟨rfl, hq⟩; have hq2 := hq.symm; clear hq; subst hq2) | (go_at_call_of 48 (Value.string lk); refine (HZ2.out _).mono ?_; rintro e wz ⟨rfl, hq⟩; have hq2 := hq.symm; clear hq; subst hq2) | (go_at_call_of 48 (Value.string us); refine (HZ3.out _).mono ?_; rintro e wz ⟨rfl, hq⟩; have hq2 := hq.symm; clear hq; subst hq2) | (go_at_call_of 48 (Value.string tm); refine (HZ4.out _).mono ?_; rintro e wz ⟨rfl, hq⟩; have hq2 := hq.symm; clear hq; subst hq2))
              go_ret
              exact ⟨by rw [HR1.out]; simp [hb, h0, h2, h5], HBF.out⟩
            obtain rfl : sn = false := by rw [HSN.out]; exact decide_eq_false hb
            clear HSN
            by_cases h0 : kd = 0
            case pos =>
              subst h0
              cases le
              case true =>
                go_wp2_with (first | (go_at_call_of 48 (Value.string nm); refine (HZ1.out _).mono ?_; rintro e wz ⟨rfl, hq⟩; have hq2 := hq.symm; clear hq; subst hq2) | (go_at_call_of 48 (Value.string lk); refine (HZ2.out _).mono ?_; rintro e wz ⟨rfl, hq⟩; have hq2 := hq.symm; clear hq; subst hq2) | (go_at_call_of 48 (Value.string us); refine (HZ3.out _).mono ?_; rintro e wz ⟨rfl, hq⟩; have hq2 := hq.symm; clear hq; subst hq2) | (go_at_call_of 48 (Value.string tm); refine (HZ4.out _).mono ?_; rintro e wz ⟨rfl, hq⟩; have hq2 := hq.symm; clear hq; subst hq2))
                go_ret
                exact ⟨by rw [HR1.out]; simp [hb], HBF.out⟩
              case false =>
                go_wp2_with (first | (go_at_call_of 48 (Value.string nm); refine (HZ1.out _).mono ?_; rintro e wz ⟨rfl, hq⟩; have hq2 := hq.symm; clear hq; subst hq2) | (go_at_call_of 48 (Value.string lk); refine (HZ2.out _).mono ?_; rintro e wz ⟨rfl, hq⟩; have hq2 := hq.symm; clear hq; subst hq2) | (go_at_call_of 48 (Value.string us); refine (HZ3.out _).mono ?_; rintro e wz ⟨rfl, hq⟩; have hq2 := hq.symm; clear hq; subst hq2) | (go_at_call_of 48 (Value.string tm); refine (HZ4.out _).mono ?_; rintro e wz ⟨rfl, hq⟩; have hq2 := hq.symm; clear hq; subst hq2))
                go_ret
                exact ⟨by rw [HR1.out]; simp [hb], HBF.out⟩
            by_cases h2 : kd = 2
            case pos =>
              subst h2
              by_cases l1 : 1 ≤ (lk.size : Int)
              case neg =>
                go_wp2_with (first | (go_at_call_of 48 (Value.string nm); refine (HZ1.out _).mono ?_; rintro e wz ⟨rfl, hq⟩; have hq2 := hq.symm; clear hq; subst hq2) | (go_at_call_of 48 (Value.string lk); refine (HZ2.out _).mono ?_; rintro e wz ⟨rfl, hq⟩; have hq2 := hq.symm; clear hq; subst hq2) | (go_at_call_of 48 (Value.string us); refine (HZ3.out _).mono ?_; rintro e wz ⟨rfl, hq⟩; have hq2 := hq.symm; clear hq; subst hq2) | (go_at_call_of 48 (Value.string tm); refine (HZ4.out _).mono ?_; rintro e wz ⟨rfl, hq⟩; have hq2 := hq.symm; clear hq; subst hq2))
                go_ret
                exact ⟨by rw [HR1.out]; simp [hb, show ¬ (1 ≤ (lk.size : Int)) by omega, show ¬ (1 ≤ lk.size) by omega, show lk.size = 0 by omega], HBF.out⟩
              by_cases l2 : (lk.size : Int) ≤ 100
              case neg =>
                go_wp2_with (first | (go_at_call_of 48 (Value.string nm); refine (HZ1.out _).mono ?_; rintro e wz ⟨rfl, hq⟩; have hq2 := hq.symm; clear hq; subst hq2) | (go_at_call_of 48 (Value.string lk); refine (HZ2.out _).mono ?_; rintro e wz ⟨rfl, hq⟩; have hq2 := hq.symm; clear hq; subst hq2) | (go_at_call_of 48 (Value.string us); refine (HZ3.out _).mono ?_; rintro e wz ⟨rfl, hq⟩; have hq2 := hq.symm; clear hq; subst hq2) | (go_at_call_of 48 (Value.string tm); refine (HZ4.out _).mono ?_; rintro e wz ⟨rfl, hq⟩; have hq2 := hq.symm; clear hq; subst hq2))
                go_ret
                exact ⟨by rw [HR1.out]; simp [hb, show ¬ ((lk.size : Int) ≤ 100) by omega, show ¬ (lk.size ≤ 100) by omega], HBF.out⟩
              by_cases l3 : (n : Int) = 0
              case neg =>
                go_wp2_with (first | (go_at_call_of 48 (Value.string nm); refine (HZ1.out _).mono ?_; rintro e wz ⟨rfl, hq⟩; have hq2 := hq.symm; clear hq; subst hq2) | (go_at_call_of 48 (Value.string lk); refine (HZ2.out _).mono ?_; rintro e wz ⟨rfl, hq⟩; have hq2 := hq.symm; clear hq; subst hq2) | (go_at_call_of 48 (Value.string us); refine (HZ3.out _).mono ?_; rintro e wz ⟨rfl, hq⟩; have hq2 := hq.symm; clear hq; subst hq2) | (go_at_call_of 48 (Value.string tm); refine (HZ4.out _).mono ?_; rintro e wz ⟨rfl, hq⟩; have hq2 := hq.symm; clear hq; subst hq2))
                go_ret
                exact ⟨by rw [HR1.out]; simp [hb, show ¬ (n = 0) by omega], HBF.out⟩
              go_wp2_with (first | (go_at_call_of 48 (Value.string nm); refine (HZ1.out _).mono ?_; rintro e wz ⟨rfl, hq⟩; have hq2 := hq.symm; clear hq; subst hq2) | (go_at_call_of 48 (Value.string lk); refine (HZ2.out _).mono ?_; rintro e wz ⟨rfl, hq⟩; have hq2 := hq.symm; clear hq; subst hq2) | (go_at_call_of 48 (Value.string us); refine (HZ3.out _).mono ?_; rintro e wz ⟨rfl, hq⟩; have hq2 := hq.symm; clear hq; subst hq2) | (go_at_call_of 48 (Value.string tm); refine (HZ4.out _).mono ?_; rintro e wz ⟨rfl, hq⟩; have hq2 := hq.symm; clear hq; subst hq2))
              go_ret
              exact ⟨by rw [HR1.out]; simp [hb, show 1 ≤ (lk.size : Int) by omega, show (lk.size : Int) ≤ 100 by omega, show n = 0 by omega, show lk.size ≤ 100 by omega, show 1 ≤ lk.size by omega, show ¬ lk.size = 0 by omega], HBF.out⟩
            by_cases h5 : kd = 5
            case pos =>
              subst h5
              go_wp2_with (first | (go_at_call_of 48 (Value.string nm); refine (HZ1.out _).mono ?_; rintro e wz ⟨rfl, hq⟩; have hq2 := hq.symm; clear hq; subst hq2) | (go_at_call_of 48 (Value.string lk); refine (HZ2.out _).mono ?_; rintro e wz ⟨rfl, hq⟩; have hq2 := hq.symm; clear hq; subst hq2) | (go_at_call_of 48 (Value.string us); refine (HZ3.out _).mono ?_; rintro e wz ⟨rfl, hq⟩; have hq2 := hq.symm; clear hq; subst hq2) | (go_at_call_of 48 (Value.string tm); refine (HZ4.out _).mono ?_; rintro e wz ⟨rfl, hq⟩; have hq2 := hq.symm; clear hq; subst hq2))
              go_ret
              exact ⟨by rw [HR1.out]; simp [hb], HBF.out⟩
            go_wp2_with (first | (go_at_call_of 48 (Value.string nm); refine (HZ1.out _).mono ?_; rintro e wz ⟨rfl, hq⟩; have hq2 := hq.symm; clear hq; subst hq2) | (go_at_call_of 48 (Value.string lk); refine (HZ2.out _).mono ?_; rintro e wz ⟨rfl, hq⟩; have hq2 := hq.symm; clear hq; subst hq2) | (go_at_call_of 48 (Value.string us); refine (HZ3.out _).mono ?_; rintro e wz ⟨rfl, hq⟩; have hq2 := hq.symm; clear hq; subst hq2) | (go_at_call_of 48 (Value.string tm); refine (HZ4.out _).mono ?_; rintro e wz ⟨rfl, hq⟩; have hq2 := hq.symm; clear hq; subst hq2))
            go_ret
            exact ⟨by rw [HR1.out]; simp [hb, h0, h2, h5], HBF.out⟩
end Go.Proofs.YtaeifigbnlffbaaDoor

