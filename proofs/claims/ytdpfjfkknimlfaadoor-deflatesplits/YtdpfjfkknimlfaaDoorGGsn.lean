import Derived.Test.YtdpfjfkknimlfaaDoorGSpf
namespace Go.Proofs.YtdpfjfkknimlfaaDoor
open Go.RowKit Go.Maps
set_option maxRecDepth 20000
set_option linter.unusedVariables false
set_option linter.unusedSimpArgs false

theorem gsays_any (a b c : Int) (w : World) : Calls Tryd.prog 27 #[.agg #[.int .i64 a, .int .i64 b, .int .u8 c]] w fun e w' => e = .returned (.int .i64 (say (a, b, c))) ∧ Below w.heap.size w w' := by
  have HB : Hid (Below w.heap.size w (w.alloc (.cells #[.int .i64 a, .int .i64 b, .int .u8 c] 24))) := (Below.refl _ _).alloc (Nat.le_refl _) _
  obtain ⟨wb, hwb⟩ : ∃ wb, w.alloc (.cells #[.int .i64 a, .int .i64 b, .int .u8 c] 24) = wb := ⟨_, rfl⟩
  have d1 : wb.cell? ⟨w.heap.size, 0, none⟩ = some (.int .i64 a) := by rw [← hwb]; unfold World.cell?; simp only [heap_alloc_new]; rfl
  rw [hwb] at HB
  by_cases h0 : a = 0
  · have HE : Hid (say (a, b, c) = 1) := by show _ = _; unfold say; rw [if_pos h0]
    have g0 : (a == 0) = true := by simpa using h0
    rw [HE.out]
    clear HE h0
    go_enter Tryd.func27, Tryd.ntmps27
    go_wp2
    go_ret
    exact ⟨rfl, HB.out⟩
  · have HE : Hid (say (a, b, c) = a) := by show _ = _; unfold say; rw [if_neg h0]
    have g0 : (a == 0) = false := by simpa using h0
    rw [HE.out]
    clear HE h0
    go_enter Tryd.func27, Tryd.ntmps27
    go_wp2
    go_ret
    exact ⟨rfl, HB.out⟩

theorem gclass_any (a b c : Int) (w : World) (hc : 0 ≤ c ∧ c < 256) : Calls Tryd.prog 32 #[.agg #[.int .i64 a, .int .i64 b, .int .u8 c]] w fun e w' => e = .returned (.int .i64 (kls (a, b, c) : Nat)) ∧ Below w.heap.size w w' := by
  have HB : Hid (Below w.heap.size w (w.alloc (.cells #[.int .i64 a, .int .i64 b, .int .u8 c] 24))) := (Below.refl _ _).alloc (Nat.le_refl _) _
  obtain ⟨wb, hwb⟩ : ∃ wb, w.alloc (.cells #[.int .i64 a, .int .i64 b, .int .u8 c] 24) = wb := ⟨_, rfl⟩
  have d1 : wb.cell? ⟨w.heap.size, 0, none⟩ = some (.int .i64 a) := by rw [← hwb]; unfold World.cell?; simp only [heap_alloc_new]; rfl
  have d2 : wb.cell? ⟨w.heap.size, 1, none⟩ = some (.int .i64 b) := by rw [← hwb]; unfold World.cell?; simp only [heap_alloc_new]; rfl
  have d3 : wb.cell? ⟨w.heap.size, 2, none⟩ = some (.int .u8 c) := by rw [← hwb]; unfold World.cell?; simp only [heap_alloc_new]; rfl
  rw [hwb] at HB
  by_cases h0 : a = 0
  · obtain ⟨n, rfl⟩ := Int.eq_ofNat_of_zero_le hc.1
    have HE : Hid (((kls (a, b, (n : Int)) : Nat) : Int) = ((n / 64 : Nat) : Int)) := by show _ = _; unfold kls; rw [if_pos h0]; rfl
    have g0 : (a == 0) = true := by simpa using h0
    have hn : n < 256 := by omega
    have e1 : (n : Int).tdiv 64 = ((n / 64 : Nat) : Int) := by rw [Int.tdiv_eq_ediv_of_nonneg (by omega)]; rfl
    rw [HE.out]
    clear HE h0
    go_enter Tryd.func32, Tryd.ntmps32
    go_wp2
    go_ret
    exact ⟨rfl, HB.out⟩
  · have g0 : (a == 0) = false := by simpa using h0
    by_cases h8 : 8 < a
    · by_cases hb : 256 < b
      · have HE : Hid (((kls (a, b, c) : Nat) : Int) = 7) := by show _ = _; unfold kls; rw [if_neg h0, if_pos h8, if_pos hb]; rfl
        rw [HE.out]
        clear HE
        go_enter Tryd.func32, Tryd.ntmps32
        go_wp2
        go_ret
        exact ⟨rfl, HB.out⟩
      · have HE : Hid (((kls (a, b, c) : Nat) : Int) = 6) := by show _ = _; unfold kls; rw [if_neg h0, if_pos h8, if_neg hb]; rfl
        rw [HE.out]
        clear HE
        go_enter Tryd.func32, Tryd.ntmps32
        go_wp2
        go_ret
        exact ⟨rfl, HB.out⟩
    · by_cases hb : 256 < b
      · have HE : Hid (((kls (a, b, c) : Nat) : Int) = 5) := by show _ = _; unfold kls; rw [if_neg h0, if_neg h8, if_pos hb]; rfl
        rw [HE.out]
        clear HE
        go_enter Tryd.func32, Tryd.ntmps32
        go_wp2
        go_ret
        exact ⟨rfl, HB.out⟩
      · have HE : Hid (((kls (a, b, c) : Nat) : Int) = 4) := by show _ = _; unfold kls; rw [if_neg h0, if_neg h8, if_neg hb]; rfl
        rw [HE.out]
        clear HE
        go_enter Tryd.func32, Tryd.ntmps32
        go_wp2
        go_ret
        exact ⟨rfl, HB.out⟩

theorem tk_mem {R : List Tk} {k : Nat} (h : k < R.length) : R.getD k tk0 ∈ R := by rw [List.getD_eq_getElem?_getD, List.getElem?_eq_getElem h]; exact List.getElem_mem h

theorem gnumber_any (v : Value) (R : List Tk) (k : Nat) (w : World) (h : SK w v R) (hs : ∀ t ∈ R, Bt t) (hn : R.length ≤ 16777216) :
    Calls Tryd.prog 28 #[v, .int .i64 (k : Int)] w fun e w' => e = .returned (.int .i64 (kn R k)) ∧ Below w.heap.size w w' := by
  have HS := hide h
  have HSN := hide hs
  obtain ⟨ao, cap, rfl, hlc, hcm⟩ := h.open
  clear h hs
  go_enter Tryd.func28, Tryd.ntmps28
  go_wp2
  go_loopw [5, 6] (fun s i wr => ∃ j : Nat, j ≤ R.length ∧ i = .int .i64 j ∧ s = .int .i64 (kn (R.take j) k) ∧ Hid (Below w.heap.size w wr)) (fun _ i _ => R.length - (intOf i).toNat)
  case atStart => exact ⟨0, Nat.zero_le _, rfl, rfl, Below.refl _ _⟩
  case round =>
    obtain ⟨j, hj, rfl, rfl, HB⟩ := hrel
    by_cases hlt : j < R.length
    · have hlt' : (j : Int) < (R.length : Int) := by omega
      obtain ⟨b, o, rfl, c0, c1, c2⟩ := HS.out.get HB.out hlt
      have hsn := HSN.out _ (tk_mem hlt)
      have HST : Hid (kn (R.take (j + 1)) k = kn (R.take j) k + if kls (R.getD j tk0) = k then 1 else 0) := by show _ = _; rw [tk_snoc hlt, kn_app, kn_one]
      have hkn := kn_in (R.take j) k
      have hl2 : (R.take j).length ≤ 16777216 := by rw [List.length_take]; omega
      obtain ⟨⟨t1, t2, t3⟩, ht⟩ : ∃ t, R.getD j tk0 = t := ⟨_, rfl⟩
      rw [ht] at c0 c1 c2 hsn HST
      simp only at c0 c1 c2
      have HCL := hide (gclass_any t1 t2 t3 wr hsn)
      obtain ⟨q, hq⟩ : ∃ q, kls (t1, t2, t3) = q := ⟨_, rfl⟩
      obtain ⟨y, hy⟩ : ∃ y, kn (R.take j) k = y := ⟨_, rfl⟩
      rw [hq] at HST HCL
      rw [hy] at HST hkn ⊢
      clear ht hq hy hsn
      by_cases e : q = k
      · subst e
        rw [if_pos rfl] at HST
        have hyw : wrap64 (y + 1) = y + 1 := by unfold wrap64; omega
        go_wp2_with fail
        refine HCL.out.mono ?_
        rintro e w8 ⟨rfl, b8⟩
        have HB8 := hide (HB.out.trans (b8.mono HB.out.size))
        clear b8 HCL
        go_wp2
        go_roundw
        case rel => exact ⟨j + 1, by omega, by go_num, by rw [HST.out], HB8⟩
        case measure => simp [intOf]; omega
      · rw [if_neg e, Int.add_zero] at HST
        have e2 : ((q : Int) == (k : Int)) = false := by rw [beq_eq_false_iff_ne]; omega
        have e3 : ¬ (q : Int) = (k : Int) := by omega
        go_wp2_with fail
        refine HCL.out.mono ?_
        rintro e w8 ⟨rfl, b8⟩
        have HB8 := hide (HB.out.trans (b8.mono HB.out.size))
        clear b8 HCL
        go_wp2
        go_roundw
        case rel => exact ⟨j + 1, by omega, by go_num, by rw [HST.out], HB8⟩
        case measure => simp [intOf]; omega
    · obtain rfl : j = R.length := by omega
      have hlt' : ¬ (R.length : Int) < (R.length : Int) := by omega
      rw [List.take_of_length_le (Nat.le_refl _)]
      go_wp2
      go_ret
      exact ⟨rfl, HB.out⟩

theorem gbytes_any (v : Value) (R : List Tk) (w : World) (h : SK w v R) (hs : ∀ t ∈ R, Snd t) (hn : R.length ≤ 16777216) :
    Calls Tryd.prog 19 #[v] w fun e w' => e = .returned (.int .i64 (sayS R)) ∧ Below w.heap.size w w' := by
  have HS := hide h
  have HSN := hide hs
  obtain ⟨ao, cap, rfl, hlc, hcm⟩ := h.open
  clear h hs
  go_enter Tryd.func19, Tryd.ntmps19
  go_wp2
  go_loopw [3, 4] (fun s i wr => ∃ j : Nat, j ≤ R.length ∧ i = .int .i64 j ∧ s = .int .i64 (sayS (R.take j)) ∧ Hid (Below w.heap.size w wr)) (fun _ i _ => R.length - (intOf i).toNat)
  case atStart => exact ⟨0, Nat.zero_le _, rfl, rfl, Below.refl _ _⟩
  case round =>
    obtain ⟨j, hj, rfl, rfl, HB⟩ := hrel
    by_cases hlt : j < R.length
    · have hlt' : (j : Int) < (R.length : Int) := by omega
      obtain ⟨b, o, rfl, c0, c1, c2⟩ := HS.out.get HB.out hlt
      have hsn := HSN.out _ (tk_mem hlt)
      have HST : Hid (sayS (R.take (j + 1)) = sayS (R.take j) + say (R.getD j tk0)) := by show _ = _; rw [tk_snoc hlt, sayS_app]; simp [sayS]
      have hsy := say_in (A := R.take j) (fun t ht => HSN.out t (List.mem_of_mem_take ht)) (by rw [List.length_take]; omega)
      have hsl := say_le hsn
      obtain ⟨⟨t1, t2, t3⟩, ht⟩ : ∃ t, R.getD j tk0 = t := ⟨_, rfl⟩
      rw [ht] at c0 c1 c2 hsl HST
      simp only at c0 c1 c2
      have HCL := hide (gsays_any t1 t2 t3 wr)
      obtain ⟨q, hq⟩ : ∃ q, say (t1, t2, t3) = q := ⟨_, rfl⟩
      obtain ⟨y, hy⟩ : ∃ y, sayS (R.take j) = y := ⟨_, rfl⟩
      rw [hq] at HST HCL hsl
      rw [hy] at HST hsy ⊢
      have hyw : wrap64 (y + q) = y + q := by unfold wrap64; omega
      clear ht hq hy hsn
      go_wp2_with fail
      refine HCL.out.mono ?_
      rintro e w8 ⟨rfl, b8⟩
      have HB8 := hide (HB.out.trans (b8.mono HB.out.size))
      clear b8 HCL
      go_wp2
      go_roundw
      case rel => exact ⟨j + 1, by omega, by go_num, by rw [HST.out], HB8⟩
      case measure => simp [intOf]; omega
    · obtain rfl : j = R.length := by omega
      have hlt' : ¬ (R.length : Int) < (R.length : Int) := by omega
      rw [List.take_of_length_le (Nat.le_refl _)]
      go_wp2
      go_ret
      exact ⟨rfl, HB.out⟩
end Go.Proofs.YtdpfjfkknimlfaaDoor

