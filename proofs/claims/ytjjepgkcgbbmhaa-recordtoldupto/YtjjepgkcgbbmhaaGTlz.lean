import Derived.Test.YtjjepgkcgbbmhaaGTly
namespace Go.Proofs.Ytjjepgkcgbbmhaa
open Go.RowKit Go.Maps
set_option maxRecDepth 20000
set_option linter.unusedVariables false
set_option linter.unusedSimpArgs false

set_option maxHeartbeats 8000000 in
theorem told_2 (v0 v3 : Value) (A Z : List Int) (l : Loc) (ok : l.Ok) (w : World) (h0 : SB w v0 A) (h3 : SB w v3 Z) (hA : Byt A) (hZ : Byt Z) (hl : A.length + Z.length ≤ 2097152) (hf : w32 l.packed = true ∧ w32 l.size = true) (hs : l.sum = 134695760) :
    Calls Try.prog 3 #[v0, l.v, .bool true, v3] w fun e w' => e = .returned (.bool true) ∧ Below w.heap.size w w' := by
  obtain ⟨ao, cap, rfl, q1, q2, q3⟩ := h0.open11
  obtain ⟨bo, bap, rfl, r1, r2, r3⟩ := h3.open11
  have HS0 := hide h0
  have HS3 := hide h3
  have HKL := hide ok
  obtain ⟨wb, hwb⟩ : ∃ wb, w.alloc (.cells l.cs 25) = wb := ⟨_, rfl⟩
  have HB : Hid (Below w.heap.size w wb) := by rw [← hwb]; exact (Below.refl _ _).alloc (Nat.le_refl _) _
  have HN : Hid (wb.heap[w.heap.size]? = some (.cells l.cs 25 (0, 0))) := by rw [← hwb]; exact heap_alloc_new w _
  have hfit : fitI (dsI l true) := (fit_ds ok true).2 (by rw [hf.1, hf.2]; rfl)
  have hft := fit_tf ok true hfit
  have HP : Hid (puE (dsI l true) = 0 ∧ puL (dsI l true) = rowI (dsI l true)) := ⟨if_pos hfit, if_pos hfit⟩
  have HPD := hide (putDescriptor_any l ok true wb)
  rw [HP.out.1, HP.out.2] at HPD
  have HGS := hide (gd_self (a := A) (r := Z) ok true hft)
  have HNW : Hid (gdN (A ++ (rowI (dsI l true) ++ Z)) (A.length : Int) l = 16) := gd_selfT hft
  have hx := xor1_u32 ok.sum0 ok.sum1
  obtain ⟨s2, hs2⟩ : ∃ s, bits .xor .u32 l.sum 1 = s := ⟨_, rfl⟩
  rw [hs2] at hx
  have hsb : 0 ≤ s2 ∧ s2 < 4294967296 ∧ s2 ≠ l.sum ∧ (s2 = 134695760 → l.sum = 134695761) := by
    have := ok.sum0
    have := ok.sum1
    split at hx <;> omega
  have HGO := hide (gd_other (a := A) (r := Z) ok true hft s2 hsb.1 hsb.2.1 hsb.2.2.1)
  have HS2 := hide hsb
  have HK2 := hide (ok.sumTo hsb.1 hsb.2.1)
  obtain ⟨R, hR⟩ : ∃ R, R = rowI (dsI l true) := ⟨_, rfl⟩
  have hRl : R.length = 16 := by rw [hR]; exact (ds_len l).1
  have HRB : Hid (Byt R) := by rw [hR]; exact byt_rowI _
  rw [← hR] at HPD HGS HNW HGO
  obtain ⟨T1, hT1⟩ : ∃ T, T = A ++ R := ⟨_, rfl⟩
  obtain ⟨T2, hT2⟩ : ∃ T, T = T1 ++ Z := ⟨_, rfl⟩
  have HTT : Hid (A ++ (R ++ Z) = T2) := by show _ = _; rw [hT2, hT1, List.append_assoc]
  rw [HTT.out] at HGS HNW HGO
  have HT2B : Hid (Byt T2) := by rw [hT2, hT1]; exact byt_append (byt_append hA HRB.out) hZ
  have hT1l : T1.length = A.length + 16 := by rw [hT1, List.length_append, hRl]
  have hT2l : T2.length ≤ 2097200 := by rw [hT2, List.length_append, hT1l]; omega
  have HT2L : Hid (T2.length ≤ 140737488355328) := Nat.le_trans hT2l (by omega)
  have HJ1 : Hid (∀ W x y, SB W (.slice ao A.length cap) A → SB W (.slice x R.length y) R → Calls Try.prog 9 #[.slice ao A.length cap, .slice x R.length y] W fun e w' => ∃ a c, e = .returned (.slice a T1.length c) ∧ OB w' W.heap.size (.slice a T1.length c) T1 ∧ Below W.heap.size W w') := fun W x y ha hb => by
    have := joined_any _ _ A R W ha hb (by omega)
    rw [← hT1] at this
    exact this
  have HJ2 : Hid (∀ W x y, SB W (.slice x T1.length y) T1 → SB W (.slice bo Z.length bap) Z → Calls Try.prog 9 #[.slice x T1.length y, .slice bo Z.length bap] W fun e w' => ∃ a c, e = .returned (.slice a T2.length c) ∧ OB w' W.heap.size (.slice a T2.length c) T2 ∧ Below W.heap.size W w') := fun W x y ha hb => by
    have := joined_any _ _ T1 Z W ha hb (by omega)
    rw [← hT2] at this
    exact this
  have HAL : Hid (A.length ≤ 2097152) := by show _ ≤ _; omega
  have hal : A.length ≤ 2097152 := HAL.out
  obtain ⟨lv, hlv⟩ : ∃ lv, lv = l := ⟨_, rfl⟩
  obtain ⟨lw, hlw⟩ : ∃ lw, lw = ({ l with sum := s2 } : Loc) := ⟨_, rfl⟩
  rw [← hlw] at HGO HK2
  obtain ⟨E2, HE2⟩ : ∃ E, Hid (gdE T2 (A.length : Int) lw = E) := ⟨_, rfl⟩
  rw [HE2.out] at HGO
  obtain ⟨N2, HN2⟩ : ∃ E, Hid (gdN T2 (A.length : Int) lw = E) := ⟨_, rfl⟩
  obtain ⟨N1, hN1⟩ : ∃ E, gdN T2 (A.length : Int) l = E := ⟨_, rfl⟩
  rw [hN1] at HNW
  have HGE : Hid (gdE T2 (A.length : Int) l = 0) := HGS.out.1
  rw [← hlv] at HGE hN1 HKL
  have HN1' := hide hN1
  cases l with
  | mk a0 a1 a2 a3 a4 a5 a6 a7 a8 a9 =>
  simp only [Loc.cs] at HN hwb
  simp only at hf hs hs2 HGO HS2
  have HV : Hid (lv.v = .agg #[.int .i64 a0, .int .i64 a1, .int .i64 a2, .int .i64 a3, .int .i64 a4, .int .u32 a5, .int .i64 a6, .int .i64 a7, .string a8, .string a9]) := by rw [hlv]; rfl
  have HV2 : Hid (lw.v = .agg #[.int .i64 a0, .int .i64 a1, .int .i64 a2, .int .i64 a3, .int .i64 a4, .int .u32 s2, .int .i64 a6, .int .i64 a7, .string a8, .string a9]) := by rw [hlw]; rfl
  rw [← hlv] at HPD
  simp only [Loc.v, Loc.cs]
  obtain ⟨c0, c1, c2, c3, c4, c5, c6, c7, c8, c9⟩ := box10 HN.out
  have HHF := hide hf
  have g5 : (a5 != 134695760) = false := by simpa using hs
  have g5e : (a5 == 134695760) = true := by simpa using hs
  have HG5 := hide (And.intro g5 g5e)
  have HHS := hide hs
  have HX2 := hide hs2
  have HRl := hide hRl
  clear h0 h3 q3 r3 ok hfit hft HP hA hZ hl hf hx hsb hR hRl hT1 hT2 hT1l hT2l hlv hlw hN1 HGS hs hs2 g5 g5e
  go_enter Try.func3, Try.ntmps3
  go_wp2_with fail
  rw [← HV.out]
  refine HPD.out.mono ?_
  rintro e w1 ⟨x1, y1, rfl, ho1, hb1⟩
  have HO1 := hide ho1
  have HN1 : Hid (w1.heap[w.heap.size]? = some (.cells #[.int .i64 a0, .int .i64 a1, .int .i64 a2, .int .i64 a3, .int .i64 a4, .int .u32 a5, .int .i64 a6, .int .i64 a7, .string a8, .string a9] 25 (0, 0))) := (hb1.block _ (Array.getElem?_eq_some_iff.1 HN.out).1).trans HN.out
  have HB1 : Hid (Below w.heap.size w w1) := HB.out.trans (hb1.mono HB.out.size)
  clear ho1 hb1 hwb c0 c1 c2 c3 c4 c5 c6 c7 c8 c9 HN HPD
  obtain ⟨c0, c1, c2, c3, c4, c5, c6, c7, c8, c9⟩ := box10 HN1.out
  go_wp2_with fail
  refine (lis32_any a6 _).mono ?_
  rintro e w2 ⟨rfl, rfl⟩
  rw [HHF.out.1]
  go_wp2_with fail
  refine (lis32_any a7 _).mono ?_
  rintro e w3 ⟨rfl, rfl⟩
  rw [HHF.out.2]
  have hRl := HRl.out
  go_wp2_with fail
  rw [← hRl]
  clear hRl
  refine (HJ1.out _ x1 y1 (SB.below HS0.out HB1.out) (by rw [HRl.out] at HO1 ⊢; exact HO1.out.sb)).mono ?_
  rintro e w4 ⟨j4, k4', rfl, ho4, hb4⟩
  have HO4 := hide ho4
  have HB4 : Hid (Below w.heap.size w w4) := HB1.out.trans (hb4.mono HB1.out.size)
  have HN4 : Hid (w4.heap[w.heap.size]? = some (.cells #[.int .i64 a0, .int .i64 a1, .int .i64 a2, .int .i64 a3, .int .i64 a4, .int .u32 a5, .int .i64 a6, .int .i64 a7, .string a8, .string a9] 25 (0, 0))) := (hb4.block _ (Array.getElem?_eq_some_iff.1 HN1.out).1).trans HN1.out
  clear ho4 hb4 HO1 HB1 HN1 HJ1 c0 c1 c2 c3 c4 c5 c6 c7 c8 c9
  go_wp2_with fail
  refine (HJ2.out _ j4 k4' HO4.out.sb (SB.below HS3.out HB4.out)).mono ?_
  rintro e w5 ⟨a5', c5', rfl, ho5, hb5⟩
  have HO5 := hide ho5
  have HB5 : Hid (Below w.heap.size w w5) := HB4.out.trans (hb5.mono HB4.out.size)
  have HN5 : Hid (w5.heap[w.heap.size]? = some (.cells #[.int .i64 a0, .int .i64 a1, .int .i64 a2, .int .i64 a3, .int .i64 a4, .int .u32 a5, .int .i64 a6, .int .i64 a7, .string a8, .string a9] 25 (0, 0))) := (hb5.block _ (Array.getElem?_eq_some_iff.1 HN4.out).1).trans HN4.out
  have HOB : Hid (∀ k, (Value.slice a5' T2.length c5').ownBlock = some k → k < w5.heap.size) := fun k hk => (ho5.lt k hk).2
  have HS5 : Hid (w5.heap.size ≤ w5.heap.size) := Nat.le_refl _
  clear ho5 hb5 HO4 HB4 HN4 HJ2
  obtain ⟨c0, c1, c2, c3, c4, c5, c6, c7, c8, c9⟩ := box10 HN5.out
  go_wp2_with fail
  rw [← HV.out]
  refine (getDescriptor_any _ T2 (A.length : Int) lv HKL.out w5 HO5.out.sb HT2B.out (by have := HAL.out; unfold Ok64; omega) HT2L.out).mono ?_
  rintro e w6 ⟨rfl, hb6⟩
  rw [HN1'.out, HGE.out]
  have HO6 : Hid (SB w6 (.slice a5' T2.length c5') T2) := HO5.out.sb.below hb6
  have HB6 : Hid (Below w.heap.size w w6) := HB5.out.trans (hb6.mono HB5.out.size)
  have HN6 : Hid (w6.heap[w.heap.size]? = some (.cells #[.int .i64 a0, .int .i64 a1, .int .i64 a2, .int .i64 a3, .int .i64 a4, .int .u32 a5, .int .i64 a6, .int .i64 a7, .string a8, .string a9] 25 (0, 0))) := (hb6.block _ (Array.getElem?_eq_some_iff.1 HN5.out).1).trans HN5.out
  have HSZ6 : Hid (w5.heap.size ≤ w6.heap.size) := hb6.size
  clear hb6 HO5 HB5 HN5 c0 c1 c2 c3 c4 c5 c6 c7 c8 c9
  obtain ⟨c0, c1, c2, c3, c4, c5, c6, c7, c8, c9⟩ := box10 HN6.out
  have g5 := HG5.out.1
  rw [HNW.out]
  have HSZ := HSZ6
  have hs2 := HX2.out
  obtain ⟨w8, hw8⟩ : ∃ x, w6.alloc (.cells #[.int .i64 a0, .int .i64 a1, .int .i64 a2, .int .i64 a3, .int .i64 a4, .int .u32 a5, .int .i64 a6, .int .i64 a7, .string a8, .string a9] 25) = x := ⟨_, rfl⟩
  have HB8 : Hid (Below w.heap.size w w8) := by rw [← hw8]; exact HB6.out.alloc HB6.out.size _
  have HO8 : Hid (SB w8 (.slice a5' T2.length c5') T2) := by rw [← hw8]; exact HO6.out.below ((Below.refl _ _).alloc (Nat.le_refl _) _)
  have hn8 : w8.heap[w.heap.size]? = some (.cells #[.int .i64 a0, .int .i64 a1, .int .i64 a2, .int .i64 a3, .int .i64 a4, .int .u32 a5, .int .i64 a6, .int .i64 a7, .string a8, .string a9] 25 (0, 0)) := by rw [← hw8]; exact (Below.heap_alloc _ _ _ (Array.getElem?_eq_some_iff.1 HN6.out).1).trans HN6.out
  have hm8 : w8.heap[w6.heap.size]? = some (.cells #[.int .i64 a0, .int .i64 a1, .int .i64 a2, .int .i64 a3, .int .i64 a4, .int .u32 a5, .int .i64 a6, .int .i64 a7, .string a8, .string a9] 25 (0, 0)) := by rw [← hw8]; exact heap_alloc_new _ _
  have hwn : w.heap.size ≤ w6.heap.size := HB6.out.size
  have hlt : w.heap.size < w6.heap.size := (Array.getElem?_eq_some_iff.1 HN6.out).1
  obtain ⟨w9, hw9⟩ : ∃ x, w8.setCell ⟨w6.heap.size, 5, none⟩ (.int .u32 s2) = x := ⟨_, rfl⟩
  have HB9 : Hid (Below w.heap.size w w9) := by rw [← hw9]; exact HB8.out.setCell (p := ⟨w6.heap.size, 5, none⟩) hwn _
  have HO9 : Hid (SB w9 (.slice a5' T2.length c5') T2) := by
    rw [← hw9]
    refine SB.move HO8.out fun a u ha hob => ?_
    rw [← ha]
    refine World.cell?_of_block (w := w8) (setCell_others _ _ _ _ _ ?_)
    have h1 := HOB.out _ hob
    have h2 := HSZ.out
    omega
  have HM9 : Hid (w9.heap[w6.heap.size]? = some (.cells #[.int .i64 a0, .int .i64 a1, .int .i64 a2, .int .i64 a3, .int .i64 a4, .int .u32 s2, .int .i64 a6, .int .i64 a7, .string a8, .string a9] 25 (0, 0))) := by rw [← hw9, heap_setCell_at _ hm8]; rfl
  have HN9 : Hid (w9.heap[w.heap.size]? = some (.cells #[.int .i64 a0, .int .i64 a1, .int .i64 a2, .int .i64 a3, .int .i64 a4, .int .u32 a5, .int .i64 a6, .int .i64 a7, .string a8, .string a9] 25 (0, 0))) := by rw [← hw9]; exact (setCell_others _ _ _ _ _ (Nat.ne_of_lt hlt)).trans hn8
  have d5 := (box10 hn8).2.2.2.2.2.1
  have m5 := (box10 hm8).2.2.2.2.2.1
  have mf : w8.frozen? ⟨w6.heap.size, 5, none⟩ = false := by simp [World.frozen?, hm8]
  obtain ⟨m0, m1, m2, m3, m4, m5', m6, m7, m8, m9⟩ := box10 HM9.out
  clear hn8 hm8 hwn hlt
  go_wp2_with fail
  rw [← HV2.out]
  refine (getDescriptor_any _ T2 (A.length : Int) lw HK2.out w9 HO9.out HT2B.out (by have := HAL.out; unfold Ok64; omega) HT2L.out).mono ?_
  rintro e w10 ⟨rfl, hb10⟩
  rw [HE2.out, HN2.out]
  have HB10 : Hid (Below w.heap.size w w10) := HB9.out.trans (hb10.mono HB9.out.size)
  have hn10 : w10.heap[w.heap.size]? = some (.cells #[.int .i64 a0, .int .i64 a1, .int .i64 a2, .int .i64 a3, .int .i64 a4, .int .u32 a5, .int .i64 a6, .int .i64 a7, .string a8, .string a9] 25 (0, 0)) := (hb10.block _ (Array.getElem?_eq_some_iff.1 HN9.out).1).trans HN9.out
  have d10 := (box10 hn10).2.2.2.2.2.1
  have g5e := HG5.out.2
  clear hb10 hn10 m0 m1 m2 m3 m4 m5 m5' m6 m7 m8 m9 mf d5 hw8 hw9 c0 c1 c2 c3 c4 c5 c6 c7 c8 c9
  by_cases hE2 : E2 = 0
  · have gE : (E2 != 0) = false := by simpa using hE2
    go_wp2
    go_ret
    exact ⟨by simp, HB10.out⟩
  · have gE : (E2 != 0) = true := by simpa using hE2
    go_wp2
    go_ret
    exact ⟨by simp, HB10.out⟩

set_option maxHeartbeats 8000000 in
theorem told_3 (v0 v3 : Value) (A Z : List Int) (l : Loc) (ok : l.Ok) (w : World) (h0 : SB w v0 A) (h3 : SB w v3 Z) (hA : Byt A) (hZ : Byt Z) (hl : A.length + Z.length ≤ 2097152) (hf : w32 l.packed = true ∧ w32 l.size = true) (hs : l.sum ≠ 134695760) :
    Calls Try.prog 3 #[v0, l.v, .bool false, v3] w fun e w' => e = .returned (.bool true) ∧ Below w.heap.size w w' := by
  obtain ⟨ao, cap, rfl, q1, q2, q3⟩ := h0.open11
  obtain ⟨bo, bap, rfl, r1, r2, r3⟩ := h3.open11
  have HS0 := hide h0
  have HS3 := hide h3
  have HKL := hide ok
  obtain ⟨wb, hwb⟩ : ∃ wb, w.alloc (.cells l.cs 25) = wb := ⟨_, rfl⟩
  have HB : Hid (Below w.heap.size w wb) := by rw [← hwb]; exact (Below.refl _ _).alloc (Nat.le_refl _) _
  have HN : Hid (wb.heap[w.heap.size]? = some (.cells l.cs 25 (0, 0))) := by rw [← hwb]; exact heap_alloc_new w _
  have hfit : fitI (dsI l false) := (fit_ds ok false).2 (by rw [hf.1, hf.2]; rfl)
  have hft := fit_tf ok false hfit
  have HP : Hid (puE (dsI l false) = 0 ∧ puL (dsI l false) = rowI (dsI l false)) := ⟨if_pos hfit, if_pos hfit⟩
  have HPD := hide (putDescriptor_any l ok false wb)
  rw [HP.out.1, HP.out.2] at HPD
  have HGS := hide (gd_self (a := A) (r := Z) ok false hft)
  have HNW : Hid (gdN (A ++ (rowI (dsI l false) ++ Z)) (A.length : Int) l = 12) := by
    rcases HGS.out.2 with h | h
    · exact h
    · exact absurd h hs
  have hx := xor1_u32 ok.sum0 ok.sum1
  obtain ⟨s2, hs2⟩ : ∃ s, bits .xor .u32 l.sum 1 = s := ⟨_, rfl⟩
  rw [hs2] at hx
  have hsb : 0 ≤ s2 ∧ s2 < 4294967296 ∧ s2 ≠ l.sum ∧ (s2 = 134695760 → l.sum = 134695761) := by
    have := ok.sum0
    have := ok.sum1
    split at hx <;> omega
  have HGO := hide (gd_other (a := A) (r := Z) ok false hft s2 hsb.1 hsb.2.1 hsb.2.2.1)
  have HS2 := hide hsb
  have HK2 := hide (ok.sumTo hsb.1 hsb.2.1)
  obtain ⟨R, hR⟩ : ∃ R, R = rowI (dsI l false) := ⟨_, rfl⟩
  have hRl : R.length = 12 := by rw [hR]; exact (ds_len l).2
  have HRB : Hid (Byt R) := by rw [hR]; exact byt_rowI _
  rw [← hR] at HPD HGS HNW HGO
  obtain ⟨T1, hT1⟩ : ∃ T, T = A ++ R := ⟨_, rfl⟩
  obtain ⟨T2, hT2⟩ : ∃ T, T = T1 ++ Z := ⟨_, rfl⟩
  have HTT : Hid (A ++ (R ++ Z) = T2) := by show _ = _; rw [hT2, hT1, List.append_assoc]
  rw [HTT.out] at HGS HNW HGO
  have HT2B : Hid (Byt T2) := by rw [hT2, hT1]; exact byt_append (byt_append hA HRB.out) hZ
  have hT1l : T1.length = A.length + 12 := by rw [hT1, List.length_append, hRl]
  have hT2l : T2.length ≤ 2097200 := by rw [hT2, List.length_append, hT1l]; omega
  have HT2L : Hid (T2.length ≤ 140737488355328) := Nat.le_trans hT2l (by omega)
  have HJ1 : Hid (∀ W x y, SB W (.slice ao A.length cap) A → SB W (.slice x R.length y) R → Calls Try.prog 9 #[.slice ao A.length cap, .slice x R.length y] W fun e w' => ∃ a c, e = .returned (.slice a T1.length c) ∧ OB w' W.heap.size (.slice a T1.length c) T1 ∧ Below W.heap.size W w') := fun W x y ha hb => by
    have := joined_any _ _ A R W ha hb (by omega)
    rw [← hT1] at this
    exact this
  have HJ2 : Hid (∀ W x y, SB W (.slice x T1.length y) T1 → SB W (.slice bo Z.length bap) Z → Calls Try.prog 9 #[.slice x T1.length y, .slice bo Z.length bap] W fun e w' => ∃ a c, e = .returned (.slice a T2.length c) ∧ OB w' W.heap.size (.slice a T2.length c) T2 ∧ Below W.heap.size W w') := fun W x y ha hb => by
    have := joined_any _ _ T1 Z W ha hb (by omega)
    rw [← hT2] at this
    exact this
  have HAL : Hid (A.length ≤ 2097152) := by show _ ≤ _; omega
  have hal : A.length ≤ 2097152 := HAL.out
  obtain ⟨lv, hlv⟩ : ∃ lv, lv = l := ⟨_, rfl⟩
  obtain ⟨lw, hlw⟩ : ∃ lw, lw = ({ l with sum := s2 } : Loc) := ⟨_, rfl⟩
  rw [← hlw] at HGO HK2
  obtain ⟨E2, HE2⟩ : ∃ E, Hid (gdE T2 (A.length : Int) lw = E) := ⟨_, rfl⟩
  rw [HE2.out] at HGO
  obtain ⟨N2, HN2⟩ : ∃ E, Hid (gdN T2 (A.length : Int) lw = E) := ⟨_, rfl⟩
  obtain ⟨N1, hN1⟩ : ∃ E, gdN T2 (A.length : Int) l = E := ⟨_, rfl⟩
  rw [hN1] at HNW
  have HGE : Hid (gdE T2 (A.length : Int) l = 0) := HGS.out.1
  rw [← hlv] at HGE hN1 HKL
  have HN1' := hide hN1
  cases l with
  | mk a0 a1 a2 a3 a4 a5 a6 a7 a8 a9 =>
  simp only [Loc.cs] at HN hwb
  simp only at hf hs hs2 HGO HS2
  have HV : Hid (lv.v = .agg #[.int .i64 a0, .int .i64 a1, .int .i64 a2, .int .i64 a3, .int .i64 a4, .int .u32 a5, .int .i64 a6, .int .i64 a7, .string a8, .string a9]) := by rw [hlv]; rfl
  have HV2 : Hid (lw.v = .agg #[.int .i64 a0, .int .i64 a1, .int .i64 a2, .int .i64 a3, .int .i64 a4, .int .u32 s2, .int .i64 a6, .int .i64 a7, .string a8, .string a9]) := by rw [hlw]; rfl
  rw [← hlv] at HPD
  simp only [Loc.v, Loc.cs]
  obtain ⟨c0, c1, c2, c3, c4, c5, c6, c7, c8, c9⟩ := box10 HN.out
  have HHF := hide hf
  have g5 : (a5 != 134695760) = true := by simpa using hs
  have g5e : (a5 == 134695760) = false := by simpa using hs
  have HG5 := hide (And.intro g5 g5e)
  have HHS := hide hs
  have HX2 := hide hs2
  have HRl := hide hRl
  clear h0 h3 q3 r3 ok hfit hft HP hA hZ hl hf hx hsb hR hRl hT1 hT2 hT1l hT2l hlv hlw hN1 HGS hs hs2 g5 g5e
  go_enter Try.func3, Try.ntmps3
  go_wp2_with fail
  rw [← HV.out]
  refine HPD.out.mono ?_
  rintro e w1 ⟨x1, y1, rfl, ho1, hb1⟩
  have HO1 := hide ho1
  have HN1 : Hid (w1.heap[w.heap.size]? = some (.cells #[.int .i64 a0, .int .i64 a1, .int .i64 a2, .int .i64 a3, .int .i64 a4, .int .u32 a5, .int .i64 a6, .int .i64 a7, .string a8, .string a9] 25 (0, 0))) := (hb1.block _ (Array.getElem?_eq_some_iff.1 HN.out).1).trans HN.out
  have HB1 : Hid (Below w.heap.size w w1) := HB.out.trans (hb1.mono HB.out.size)
  clear ho1 hb1 hwb c0 c1 c2 c3 c4 c5 c6 c7 c8 c9 HN HPD
  obtain ⟨c0, c1, c2, c3, c4, c5, c6, c7, c8, c9⟩ := box10 HN1.out
  go_wp2_with fail
  refine (lis32_any a6 _).mono ?_
  rintro e w2 ⟨rfl, rfl⟩
  rw [HHF.out.1]
  go_wp2_with fail
  refine (lis32_any a7 _).mono ?_
  rintro e w3 ⟨rfl, rfl⟩
  rw [HHF.out.2]
  have hRl := HRl.out
  go_wp2_with fail
  rw [← hRl]
  clear hRl
  refine (HJ1.out _ x1 y1 (SB.below HS0.out HB1.out) (by rw [HRl.out] at HO1 ⊢; exact HO1.out.sb)).mono ?_
  rintro e w4 ⟨j4, k4', rfl, ho4, hb4⟩
  have HO4 := hide ho4
  have HB4 : Hid (Below w.heap.size w w4) := HB1.out.trans (hb4.mono HB1.out.size)
  have HN4 : Hid (w4.heap[w.heap.size]? = some (.cells #[.int .i64 a0, .int .i64 a1, .int .i64 a2, .int .i64 a3, .int .i64 a4, .int .u32 a5, .int .i64 a6, .int .i64 a7, .string a8, .string a9] 25 (0, 0))) := (hb4.block _ (Array.getElem?_eq_some_iff.1 HN1.out).1).trans HN1.out
  clear ho4 hb4 HO1 HB1 HN1 HJ1 c0 c1 c2 c3 c4 c5 c6 c7 c8 c9
  go_wp2_with fail
  refine (HJ2.out _ j4 k4' HO4.out.sb (SB.below HS3.out HB4.out)).mono ?_
  rintro e w5 ⟨a5', c5', rfl, ho5, hb5⟩
  have HO5 := hide ho5
  have HB5 : Hid (Below w.heap.size w w5) := HB4.out.trans (hb5.mono HB4.out.size)
  have HN5 : Hid (w5.heap[w.heap.size]? = some (.cells #[.int .i64 a0, .int .i64 a1, .int .i64 a2, .int .i64 a3, .int .i64 a4, .int .u32 a5, .int .i64 a6, .int .i64 a7, .string a8, .string a9] 25 (0, 0))) := (hb5.block _ (Array.getElem?_eq_some_iff.1 HN4.out).1).trans HN4.out
  have HOB : Hid (∀ k, (Value.slice a5' T2.length c5').ownBlock = some k → k < w5.heap.size) := fun k hk => (ho5.lt k hk).2
  have HS5 : Hid (w5.heap.size ≤ w5.heap.size) := Nat.le_refl _
  clear ho5 hb5 HO4 HB4 HN4 HJ2
  obtain ⟨c0, c1, c2, c3, c4, c5, c6, c7, c8, c9⟩ := box10 HN5.out
  go_wp2_with fail
  rw [← HV.out]
  refine (getDescriptor_any _ T2 (A.length : Int) lv HKL.out w5 HO5.out.sb HT2B.out (by have := HAL.out; unfold Ok64; omega) HT2L.out).mono ?_
  rintro e w6 ⟨rfl, hb6⟩
  rw [HN1'.out, HGE.out]
  have HO6 : Hid (SB w6 (.slice a5' T2.length c5') T2) := HO5.out.sb.below hb6
  have HB6 : Hid (Below w.heap.size w w6) := HB5.out.trans (hb6.mono HB5.out.size)
  have HN6 : Hid (w6.heap[w.heap.size]? = some (.cells #[.int .i64 a0, .int .i64 a1, .int .i64 a2, .int .i64 a3, .int .i64 a4, .int .u32 a5, .int .i64 a6, .int .i64 a7, .string a8, .string a9] 25 (0, 0))) := (hb6.block _ (Array.getElem?_eq_some_iff.1 HN5.out).1).trans HN5.out
  have HSZ6 : Hid (w5.heap.size ≤ w6.heap.size) := hb6.size
  clear hb6 HO5 HB5 HN5 c0 c1 c2 c3 c4 c5 c6 c7 c8 c9
  obtain ⟨c0, c1, c2, c3, c4, c5, c6, c7, c8, c9⟩ := box10 HN6.out
  have g5 := HG5.out.1
  rw [HNW.out]
  have HSZ := HSZ6
  have hs2 := HX2.out
  obtain ⟨w8, hw8⟩ : ∃ x, w6.alloc (.cells #[.int .i64 a0, .int .i64 a1, .int .i64 a2, .int .i64 a3, .int .i64 a4, .int .u32 a5, .int .i64 a6, .int .i64 a7, .string a8, .string a9] 25) = x := ⟨_, rfl⟩
  have HB8 : Hid (Below w.heap.size w w8) := by rw [← hw8]; exact HB6.out.alloc HB6.out.size _
  have HO8 : Hid (SB w8 (.slice a5' T2.length c5') T2) := by rw [← hw8]; exact HO6.out.below ((Below.refl _ _).alloc (Nat.le_refl _) _)
  have hn8 : w8.heap[w.heap.size]? = some (.cells #[.int .i64 a0, .int .i64 a1, .int .i64 a2, .int .i64 a3, .int .i64 a4, .int .u32 a5, .int .i64 a6, .int .i64 a7, .string a8, .string a9] 25 (0, 0)) := by rw [← hw8]; exact (Below.heap_alloc _ _ _ (Array.getElem?_eq_some_iff.1 HN6.out).1).trans HN6.out
  have hm8 : w8.heap[w6.heap.size]? = some (.cells #[.int .i64 a0, .int .i64 a1, .int .i64 a2, .int .i64 a3, .int .i64 a4, .int .u32 a5, .int .i64 a6, .int .i64 a7, .string a8, .string a9] 25 (0, 0)) := by rw [← hw8]; exact heap_alloc_new _ _
  have hwn : w.heap.size ≤ w6.heap.size := HB6.out.size
  have hlt : w.heap.size < w6.heap.size := (Array.getElem?_eq_some_iff.1 HN6.out).1
  obtain ⟨w9, hw9⟩ : ∃ x, w8.setCell ⟨w6.heap.size, 5, none⟩ (.int .u32 s2) = x := ⟨_, rfl⟩
  have HB9 : Hid (Below w.heap.size w w9) := by rw [← hw9]; exact HB8.out.setCell (p := ⟨w6.heap.size, 5, none⟩) hwn _
  have HO9 : Hid (SB w9 (.slice a5' T2.length c5') T2) := by
    rw [← hw9]
    refine SB.move HO8.out fun a u ha hob => ?_
    rw [← ha]
    refine World.cell?_of_block (w := w8) (setCell_others _ _ _ _ _ ?_)
    have h1 := HOB.out _ hob
    have h2 := HSZ.out
    omega
  have HM9 : Hid (w9.heap[w6.heap.size]? = some (.cells #[.int .i64 a0, .int .i64 a1, .int .i64 a2, .int .i64 a3, .int .i64 a4, .int .u32 s2, .int .i64 a6, .int .i64 a7, .string a8, .string a9] 25 (0, 0))) := by rw [← hw9, heap_setCell_at _ hm8]; rfl
  have HN9 : Hid (w9.heap[w.heap.size]? = some (.cells #[.int .i64 a0, .int .i64 a1, .int .i64 a2, .int .i64 a3, .int .i64 a4, .int .u32 a5, .int .i64 a6, .int .i64 a7, .string a8, .string a9] 25 (0, 0))) := by rw [← hw9]; exact (setCell_others _ _ _ _ _ (Nat.ne_of_lt hlt)).trans hn8
  have d5 := (box10 hn8).2.2.2.2.2.1
  have m5 := (box10 hm8).2.2.2.2.2.1
  have mf : w8.frozen? ⟨w6.heap.size, 5, none⟩ = false := by simp [World.frozen?, hm8]
  obtain ⟨m0, m1, m2, m3, m4, m5', m6, m7, m8, m9⟩ := box10 HM9.out
  clear hn8 hm8 hwn hlt
  go_wp2_with fail
  rw [← HV2.out]
  refine (getDescriptor_any _ T2 (A.length : Int) lw HK2.out w9 HO9.out HT2B.out (by have := HAL.out; unfold Ok64; omega) HT2L.out).mono ?_
  rintro e w10 ⟨rfl, hb10⟩
  rw [HE2.out, HN2.out]
  have HB10 : Hid (Below w.heap.size w w10) := HB9.out.trans (hb10.mono HB9.out.size)
  have hn10 : w10.heap[w.heap.size]? = some (.cells #[.int .i64 a0, .int .i64 a1, .int .i64 a2, .int .i64 a3, .int .i64 a4, .int .u32 a5, .int .i64 a6, .int .i64 a7, .string a8, .string a9] 25 (0, 0)) := (hb10.block _ (Array.getElem?_eq_some_iff.1 HN9.out).1).trans HN9.out
  have d10 := (box10 hn10).2.2.2.2.2.1
  have g5e := HG5.out.2
  clear hb10 hn10 m0 m1 m2 m3 m4 m5 m5' m6 m7 m8 m9 mf d5 hw8 hw9 c0 c1 c2 c3 c4 c5 c6 c7 c8 c9
  by_cases hE2 : E2 = 0
  · have gE : (E2 != 0) = false := by simpa using hE2
    have hx : a5 = 134695761 := by
      rcases HGO.out with h | h | h
      · exact absurd hE2 h
      · exact absurd h HHS.out
      · exact HS2.out.2.2.2 h
    have gx : (a5 == 134695761) = true := by simpa using hx
    go_wp2
    go_ret
    exact ⟨by simp, HB10.out⟩
  · have gE : (E2 != 0) = true := by simpa using hE2
    go_wp2
    go_ret
    exact ⟨by simp, HB10.out⟩

end Go.Proofs.Ytjjepgkcgbbmhaa

