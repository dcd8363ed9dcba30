import Derived.Test.YtaeifigbnlffbaaDoorG08Tpk
namespace Go.Proofs.YtaeifigbnlffbaaDoor
open Go.RowKit Go.Maps
set_option maxRecDepth 20000
set_option linter.unusedVariables false
set_option linter.unusedSimpArgs false

/-! soundKind, soundTexts, sound. -/

def sl (s : ByteArray) : Bool := Lib.hasSuffix s.data.toList [47]

def okK (f : Fl) (sz : Int) : Bool :=
  if f.kd = 0 then !(sl f.nm) && f.lk.toList.isEmpty else if f.kd = 2 then !(sl f.nm) && !f.lk.toList.isEmpty && decide (sz = 0) else if f.kd = 5 then sl f.nm && f.lk.toList.isEmpty && decide (sz = 0) else false

theorem alloc_box {w wb : World} {o : Array Value} {t : TypeId} (h : w.alloc (.cells o t) = wb) : Below w.heap.size w wb ∧ wb.heap[w.heap.size]? = some (.cells o t (0, 0)) := by
  rw [← h]
  exact ⟨(Below.refl _ _).alloc (Nat.le_refl _) _, heap_alloc_new w _⟩

set_option maxHeartbeats 2000000 in
theorem hsoundK (f : Fl) (dv : Value) (sz : Int) (w : World) (hs : f.nm.size ≤ 9000000000000000000) : Calls Tryd.prog 42 #[.agg (fcs f dv), .int .i64 sz] w fun e w' => e = .returned (.bool (okK f sz)) ∧ Below w.heap.size w w' := by
  obtain ⟨wb, hwb⟩ : ∃ wb, w.alloc (.cells (fcs f dv) 39) = wb := ⟨_, rfl⟩
  obtain ⟨hB, hN⟩ := alloc_box hwb
  have HB := hide hB
  have HS : Hid (∀ w, Calls Tryd.prog 57 #[.string f.nm, .string ⟨#[47]⟩] w fun e w' => e = .returned (.bool (sl f.nm)) ∧ w' = w) := fun w => sh_strings_HasSuffix f.nm ⟨#[47]⟩ w (by omega)
  obtain ⟨nm, lk, us, tm, kd, md, ow, gr, ti, dt⟩ := f
  simp only at HS hwb hN
  unfold okK
  simp only
  obtain ⟨a, HA⟩ : ∃ a, Hid (a = sl nm) := ⟨_, rfl⟩
  rw [← HA.out] at HS ⊢
  obtain ⟨k0, k1, -, -, k4, -⟩ := box10 hN
  obtain ⟨z, HZ⟩ : ∃ z, Hid (z = lk.toList.isEmpty) := ⟨_, rfl⟩
  have hz := HZ.out.symm
  rw [← HZ.out]
  clear hN hB
  by_cases h0 : kd = 0
  · subst h0
    rw [if_pos rfl]
    cases a <;> cases z <;>
    · go_enter Tryd.func42, Tryd.ntmps42
      go_wp2_with (go_at_call 57; refine (HS.out _).mono ?_; rintro e w1 ⟨rfl, hq⟩; have hq2 := hq.symm; clear hq; subst hq2)
      go_ret
      exact ⟨rfl, HB.out⟩
  · rw [if_neg h0]
    by_cases h2 : kd = 2
    · subst h2
      rw [if_pos rfl]
      cases a <;> cases z <;>
      · go_enter Tryd.func42, Tryd.ntmps42
        go_wp2_with (go_at_call 57; refine (HS.out _).mono ?_; rintro e w1 ⟨rfl, hq⟩; have hq2 := hq.symm; clear hq; subst hq2)
        go_ret
        exact ⟨by first | rfl | simp, HB.out⟩
    · rw [if_neg h2]
      by_cases h5 : kd = 5
      · subst h5
        rw [if_pos rfl]
        cases a <;> cases z <;>
        · go_enter Tryd.func42, Tryd.ntmps42
          go_wp2_with (go_at_call 57; refine (HS.out _).mono ?_; rintro e w1 ⟨rfl, hq⟩; have hq2 := hq.symm; clear hq; subst hq2)
          go_ret
          exact ⟨by first | rfl | simp, HB.out⟩
      · rw [if_neg h5]
        go_enter Tryd.func42, Tryd.ntmps42
        go_wp2_with (go_at_call 57; refine (HS.out _).mono ?_; rintro e w1 ⟨rfl, hq⟩; have hq2 := hq.symm; clear hq; subst hq2)
        go_ret
        exact ⟨rfl, HB.out⟩

def okT (f : Fl) : Bool := decide (f.lk.size ≤ 100) && decide (f.us.size < 32) && decide (f.tm.size < 32) && !(zeroB f.nm || zeroB f.lk || zeroB f.us || zeroB f.tm)

theorem zeroB_app (s t : ByteArray) : zeroB (s ++ t) = (zeroB s || zeroB t) := by
  unfold zeroB
  have e : (s ++ t).data.toList = s.data.toList ++ t.data.toList := by rw [ByteArray.data_append, Array.toList_append]
  rw [e, List.contains_append]

theorem zero_idx (s : ByteArray) : decide (0 ≤ Lib.indexByte s.data.toList 0) = zeroB s := by
  rw [indexByte_is]
  unfold zeroB
  by_cases h : s.data.toList.findIdx (· == 0) < s.data.toList.length
  · rw [if_pos h]
    have h1 := List.findIdx_getElem (xs := s.data.toList) (p := (· == 0)) (w := h)
    have h2 : s.data.toList.contains 0 = true := by
      rw [List.contains_iff_mem]
      have h3 : s.data.toList[s.data.toList.findIdx (· == 0)] = 0 := by simpa using h1
      rw [← h3]; exact List.getElem_mem h
    rw [h2]; simp
  · rw [if_neg h]
    have h2 : s.data.toList.contains 0 = false := by
      cases hc : s.data.toList.contains 0 with
      | false => rfl
      | true =>
        rw [List.contains_iff_mem] at hc
        exact absurd (List.findIdx_lt_length_of_exists ⟨0, hc, by simp⟩) h
    rw [h2]; rfl

set_option maxHeartbeats 2000000 in
theorem hsoundT (f : Fl) (dv : Value) (w : World) (T : Tbs w) (h1 : f.nm.size ≤ 1048576) (h2 : f.lk.size ≤ 1048576) (h3 : f.us.size ≤ 1048576) (h4 : f.tm.size ≤ 1048576) : Calls Tryd.prog 43 #[.agg (fcs f dv)] w fun e w' => e = .returned (.bool (okT f)) ∧ Below w.heap.size w w' := by
  obtain ⟨wb, hwb⟩ : ∃ wb, w.alloc (.cells (fcs f dv) 39) = wb := ⟨_, rfl⟩
  obtain ⟨hB, hN⟩ := alloc_box hwb
  have HB := hide hB
  have hT := T.mono hB
  have t3 := hT.tx 3 100 rfl
  have t5 := hT.tx 5 32 rfl
  have t7 := hT.tx 7 32 rfl
  have HC : Hid (∀ w, Calls Tryd.prog 58 #[.string (f.nm ++ f.lk ++ f.us ++ f.tm), .string ⟨#[0]⟩] w fun e w' => e = .returned (.bool (zeroB f.nm || zeroB f.lk || zeroB f.us || zeroB f.tm)) ∧ w' = w) := fun w => by
    have := sh_strings_Contains_one (f.nm ++ f.lk ++ f.us ++ f.tm) 0 w
    rw [zero_idx, zeroB_app, zeroB_app, zeroB_app] at this
    exact this
  obtain ⟨nm, lk, us, tm, kd, md, ow, gr, ti, dt⟩ := f
  simp only at HC hwb hN h1 h2 h3 h4
  unfold okT
  simp only
  obtain ⟨a, HA⟩ : ∃ a, Hid (a = (zeroB nm || zeroB lk || zeroB us || zeroB tm)) := ⟨_, rfl⟩
  rw [← HA.out] at HC ⊢
  obtain ⟨k0, k1, k2, k3, -⟩ := box10 hN
  clear hN hB T hT
  by_cases q1 : lk.size ≤ 100
  · by_cases q2 : us.size < 32
    · by_cases q3 : tm.size < 32
      · have e1 : (lk.size : Int) ≤ 100 := by omega
        have e2 : (us.size : Int) < 32 := by omega
        have e3 : (tm.size : Int) < 32 := by omega
        cases a <;>
        · go_enter Tryd.func43, Tryd.ntmps43
          go_wp2_with (go_at_call 58; refine (HC.out _).mono ?_; rintro e w1 ⟨rfl, hq⟩; have hq2 := hq.symm; clear hq; subst hq2)
          go_ret
          exact ⟨by simp [q1, q2, q3], HB.out⟩
      · have e1 : (lk.size : Int) ≤ 100 := by omega
        have e2 : (us.size : Int) < 32 := by omega
        have e3 : ¬ (tm.size : Int) < 32 := by omega
        go_enter Tryd.func43, Tryd.ntmps43
        go_wp2
        go_ret
        exact ⟨by simp [q1, q2, q3], HB.out⟩
    · have e1 : (lk.size : Int) ≤ 100 := by omega
      have e2 : ¬ (us.size : Int) < 32 := by omega
      go_enter Tryd.func43, Tryd.ntmps43
      go_wp2
      go_ret
      exact ⟨by simp [q1, q2], HB.out⟩
  · have e1 : ¬ (lk.size : Int) ≤ 100 := by omega
    go_enter Tryd.func43, Tryd.ntmps43
    go_wp2
    go_ret
    exact ⟨by simp [q1], HB.out⟩

def okS (f : Fl) (sz : Int) : Bool := (cutB f.nm).2.2 && okK f sz && okT f && okN f

set_option maxHeartbeats 2000000 in
theorem hsound (f : Fl) (dv : Value) (sz : Int) (w : World) (T : Tbs w) (h1 : f.nm.size ≤ 1048576) (h2 : f.lk.size ≤ 1048576) (h3 : f.us.size ≤ 1048576) (h4 : f.tm.size ≤ 1048576) : Calls Tryd.prog 24 #[.agg (fcs f dv), .int .i64 sz] w fun e w' => e = .returned (.bool (okS f sz)) ∧ Below w.heap.size w w' := by
  obtain ⟨wb, hwb⟩ : ∃ wb, w.alloc (.cells (fcs f dv) 39) = wb := ⟨_, rfl⟩
  obtain ⟨hB, hN⟩ := alloc_box hwb
  have HB := hide hB
  have HT : Hid (∀ wx, Below wb.heap.size wb wx → Tbs wx) := fun wx hb => (T.mono hB).mono hb
  have HBX : Hid (∀ wx, Below wb.heap.size wb wx → wx.heap[w.heap.size]? = some (.cells (fcs f dv) 39 (0, 0))) := fun wx hb => by
    rw [hb.block _ (Array.getElem?_eq_some_iff.1 hN).1]; exact hN
  have HC := hide (hcut f.nm wb (T.mono hB) (by omega))
  have HKK : Hid (∀ w, Calls Tryd.prog 42 #[.agg (fcs f dv), .int .i64 sz] w fun e w' => e = .returned (.bool (okK f sz)) ∧ Below w.heap.size w w') := fun w => hsoundK f dv sz w (by omega)
  have HTT : Hid (∀ w, Tbs w → Calls Tryd.prog 43 #[.agg (fcs f dv)] w fun e w' => e = .returned (.bool (okT f)) ∧ Below w.heap.size w w') := fun w T => hsoundT f dv w T h1 h2 h3 h4
  have HNN : Hid (∀ w, Tbs w → Calls Tryd.prog 44 #[.agg (fcs f dv)] w fun e w' => e = .returned (.bool (okN f)) ∧ Below w.heap.size w w') := fun w T => hsoundN f dv w T
  unfold okS
  obtain ⟨a1, HA1⟩ : ∃ a, Hid (a = (cutB f.nm).2.2) := ⟨_, rfl⟩
  obtain ⟨a2, HA2⟩ : ∃ a, Hid (a = okK f sz) := ⟨_, rfl⟩
  obtain ⟨a3, HA3⟩ : ∃ a, Hid (a = okT f) := ⟨_, rfl⟩
  obtain ⟨a4, HA4⟩ : ∃ a, Hid (a = okN f) := ⟨_, rfl⟩
  rw [← HA1.out, ← HA2.out, ← HA3.out, ← HA4.out]
  rw [← HA1.out] at HC
  rw [← HA2.out] at HKK
  rw [← HA3.out] at HTT
  rw [← HA4.out] at HNN
  obtain ⟨nm, lk, us, tm, kd, md, ow, gr, ti, dt⟩ := f
  simp only at HC HKK HTT HNN HBX hwb hN
  obtain ⟨k0, k1, k2, k3, k4, k5, k6, k7, k8, k9⟩ := box10 hN
  clear hN hB T
  go_enter Tryd.func24, Tryd.ntmps24
  go_wp2_with fail
  refine HC.out.mono ?_
  rintro e w1 ⟨rfl, n, hn⟩
  have HB1 : Hid (Below wb.heap.size wb w1) := by show Below _ _ _; rw [hn]; exact below_drewN (Below.refl _ _) n
  clear hn k0 k1 k2 k3 k4 k5 k6 k7 k8 k9 hwb HC
  cases a1 with
  | false =>
    go_wp2
    go_ret
    exact ⟨rfl, HB.out.trans (HB1.out.mono HB.out.size)⟩
  | true =>
    obtain ⟨k0, k1, k2, k3, k4, k5, k6, k7, k8, k9⟩ := box10 (HBX.out _ HB1.out)
    go_wp2_with fail
    refine (HKK.out _).mono ?_
    rintro e w2 ⟨rfl, hb2⟩
    have HB2 := hide (HB1.out.trans (hb2.mono HB1.out.size))
    clear hb2 k0 k1 k2 k3 k4 k5 k6 k7 k8 k9
    cases a2 with
    | false =>
      go_wp2
      go_ret
      exact ⟨rfl, HB.out.trans (HB2.out.mono HB.out.size)⟩
    | true =>
      obtain ⟨k0, k1, k2, k3, k4, k5, k6, k7, k8, k9⟩ := box10 (HBX.out _ HB2.out)
      go_wp2_with fail
      refine (HTT.out _ (HT.out _ HB2.out)).mono ?_
      rintro e w3 ⟨rfl, hb3⟩
      have HB3 := hide (HB2.out.trans (hb3.mono HB2.out.size))
      clear hb3 k0 k1 k2 k3 k4 k5 k6 k7 k8 k9
      cases a3 with
      | false =>
        go_wp2
        go_ret
        exact ⟨rfl, HB.out.trans (HB3.out.mono HB.out.size)⟩
      | true =>
        obtain ⟨k0, k1, k2, k3, k4, k5, k6, k7, k8, k9⟩ := box10 (HBX.out _ HB3.out)
        go_wp2_with fail
        refine (HNN.out _ (HT.out _ HB3.out)).mono ?_
        rintro e w4 ⟨rfl, hb4⟩
        have HB4 := hide (HB3.out.trans (hb4.mono HB3.out.size))
        clear hb4 k0 k1 k2 k3 k4 k5 k6 k7 k8 k9
        go_wp2
        go_ret
        exact ⟨rfl, HB.out.trans (HB4.out.mono HB.out.size)⟩
end Go.Proofs.YtaeifigbnlffbaaDoor

