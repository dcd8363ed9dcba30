import Derived.Test.YtijmmfimkibgbaaGPcm
namespace Go.Proofs.Ytijmmfimkibgbaa
open Go.RowKit Go.Maps
set_option maxRecDepth 20000
set_option linter.unusedVariables false
set_option linter.unusedSimpArgs false

set_option maxHeartbeats 4000000 in
theorem putCentral_any (l : Cen) (ok : l.Ok) (w : World) :
    Calls Try.prog 6 #[l.v] w fun e w' => ∃ a c, e = .returned (.tuple #[.slice a (puL (ceI l)).length c, .int .i64 (puE (ceI l))]) ∧ OB w' w.heap.size (.slice a (puL (ceI l)).length c) (puL (ceI l)) ∧ Below w.heap.size w w' := by
  have HP := hide (pu_of (ceI l) 196651 (ceI_len l))
  rw [← HP.out.1, ← HP.out.2]
  obtain ⟨wb, hwb⟩ : ∃ wb, w.alloc (.cells l.cs 26) = wb := ⟨_, rfl⟩
  have HB : Hid (Below w.heap.size w wb) := by rw [← hwb]; exact (Below.refl _ _).alloc (Nat.le_refl _) _
  have HN : Hid (wb.heap[w.heap.size]? = some (.cells l.cs 26 (0, 0))) := by rw [← hwb]; exact heap_alloc_new w _
  obtain ⟨lc, a10, a11, a12, a13, a14, a15⟩ := l
  obtain ⟨xl, x10, x11, x12, x13, x14, x15⟩ := ok
  obtain ⟨lv, hlv⟩ : ∃ lv, lv = lc := ⟨_, rfl⟩
  have HKL : Hid (lv.Ok) := by rw [hlv]; exact xl
  have HD : Hid (ceI ⟨lc, a10, a11, a12, a13, a14, a15⟩ = ceI ⟨lv, a10, a11, a12, a13, a14, a15⟩) := by rw [hlv]; rfl
  rw [HD.out]
  have x8 : lc.name.size ≤ 140737488351232 := xl.name
  have x9 : lc.extra.size ≤ 140737488351232 := xl.extra
  cases lc with
  | mk a0 a1 a2 a3 a4 a5 a6 a7 a8 a9 =>
  simp only [Cen.cs] at hwb HN
  have HV : Hid (lv.v = .agg #[.int .i64 a0, .int .i64 a1, .int .i64 a2, .int .i64 a3, .int .i64 a4, .int .u32 a5, .int .i64 a6, .int .i64 a7, .string a8, .string a9]) := by rw [hlv]; rfl
  have HT : Hid (ceI ⟨lv, a10, a11, a12, a13, a14, a15⟩ = .num 33639248 4 :: .num a10 2 :: (lcI lv ++ [.num a15.size 2, .num a11 2, .num a12 2, .num a13 4, .num a14 4, .txt a8, .txt a9, .txt a15])) := by rw [hlv]; rfl
  simp only [Cen.v, Cen.cs]
  simp only at x10 x11 x12 x13 x14 x15
  have HO10 := hide x10
  have HO11 := hide x11
  have HO12 := hide x12
  have HO13 := hide x13
  have HO14 := hide x14
  have HO15 := hide (ok_size x15)
  clear HP hlv HD xl x8 x9 x10 x11 x12 x13 x14 x15
  go_enter Try.func6, Try.ntmps6
  go_wp2_with fail
  refine (newBx w wb 196651 (by omega) (by omega) HN.out HB.out).mono ?_
  rintro e w0 ⟨g, rfl, hx⟩
  have HX := hide hx
  clear hx hwb
  obtain ⟨c0, c1, c2, c3, c4, c5, c6, c7, c8, c9, c10, c11, c12, c13, c14, c15⟩ := box16 HX.out.box
  clear c0 c1 c2 c3 c4 c5 c6 c7 c8 c9 c10 c11 c12 c13 c14 c15
  go_wp2_with fail
  refine (pu32_any HX.out 33639248 (by unfold Ok64; omega)).mono ?_
  rintro e w1 ⟨rfl, hx⟩
  clear HX
  have HX := hide hx
  obtain ⟨c0, c1, c2, c3, c4, c5, c6, c7, c8, c9, c10, c11, c12, c13, c14, c15⟩ := box16 hx.box
  clear c0 c1 c2 c3 c4 c5 c6 c7 c8 c9 c11 c12 c13 c14 c15
  clear hx
  go_wp2_with fail
  refine (pu16_any HX.out a10 HO10.out).mono ?_
  rintro e w2 ⟨rfl, hx⟩
  clear HX c10
  have HX := hide hx
  obtain ⟨c0, c1, c2, c3, c4, c5, c6, c7, c8, c9, c10, c11, c12, c13, c14, c15⟩ := box16 hx.box
  clear c10 c11 c12 c13 c14 c15
  clear hx
  go_wp2_with fail
  rw [← HV.out]
  refine (putCommon_any lv HKL.out HX.out).mono ?_
  rintro e w3 ⟨rfl, hx⟩
  clear HX c0 c1 c2 c3 c4 c5 c6 c7 c8 c9
  have HX := hide hx
  obtain ⟨c0, c1, c2, c3, c4, c5, c6, c7, c8, c9, c10, c11, c12, c13, c14, c15⟩ := box16 hx.box
  clear c0 c1 c2 c3 c4 c5 c6 c7 c8 c9 c10 c11 c12 c13 c14
  clear hx
  go_wp2_with fail
  refine (pu16_any HX.out (a15.size : Int) HO15.out).mono ?_
  rintro e w4 ⟨rfl, hx⟩
  clear HX c15
  have HX := hide hx
  obtain ⟨c0, c1, c2, c3, c4, c5, c6, c7, c8, c9, c10, c11, c12, c13, c14, c15⟩ := box16 hx.box
  clear c0 c1 c2 c3 c4 c5 c6 c7 c8 c9 c10 c12 c13 c14 c15
  clear hx
  go_wp2_with fail
  refine (pu16_any HX.out a11 HO11.out).mono ?_
  rintro e w5 ⟨rfl, hx⟩
  clear HX c11
  have HX := hide hx
  obtain ⟨c0, c1, c2, c3, c4, c5, c6, c7, c8, c9, c10, c11, c12, c13, c14, c15⟩ := box16 hx.box
  clear c0 c1 c2 c3 c4 c5 c6 c7 c8 c9 c10 c11 c13 c14 c15
  clear hx
  go_wp2_with fail
  refine (pu16_any HX.out a12 HO12.out).mono ?_
  rintro e w6 ⟨rfl, hx⟩
  clear HX c12
  have HX := hide hx
  obtain ⟨c0, c1, c2, c3, c4, c5, c6, c7, c8, c9, c10, c11, c12, c13, c14, c15⟩ := box16 hx.box
  clear c0 c1 c2 c3 c4 c5 c6 c7 c8 c9 c10 c11 c12 c14 c15
  clear hx
  go_wp2_with fail
  refine (pu32_any HX.out a13 HO13.out).mono ?_
  rintro e w7 ⟨rfl, hx⟩
  clear HX c13
  have HX := hide hx
  obtain ⟨c0, c1, c2, c3, c4, c5, c6, c7, c8, c9, c10, c11, c12, c13, c14, c15⟩ := box16 hx.box
  clear c0 c1 c2 c3 c4 c5 c6 c7 c8 c9 c10 c11 c12 c13 c15
  clear hx
  go_wp2_with fail
  refine (pu32_any HX.out a14 HO14.out).mono ?_
  rintro e w8 ⟨rfl, hx⟩
  clear HX c14
  have HX := hide hx
  obtain ⟨c0, c1, c2, c3, c4, c5, c6, c7, c8, c9, c10, c11, c12, c13, c14, c15⟩ := box16 hx.box
  clear c0 c1 c2 c3 c4 c5 c6 c7 c9 c10 c11 c12 c13 c14 c15
  clear hx
  go_wp2_with fail
  refine (ptext_any HX.out a8).mono ?_
  rintro e w9 ⟨rfl, hx⟩
  clear HX c8
  have HX := hide hx
  obtain ⟨c0, c1, c2, c3, c4, c5, c6, c7, c8, c9, c10, c11, c12, c13, c14, c15⟩ := box16 hx.box
  clear c0 c1 c2 c3 c4 c5 c6 c7 c8 c10 c11 c12 c13 c14 c15
  clear hx
  go_wp2_with fail
  refine (ptext_any HX.out a9).mono ?_
  rintro e w10 ⟨rfl, hx⟩
  clear HX c9
  have HX := hide hx
  obtain ⟨c0, c1, c2, c3, c4, c5, c6, c7, c8, c9, c10, c11, c12, c13, c14, c15⟩ := box16 hx.box
  clear c0 c1 c2 c3 c4 c5 c6 c7 c8 c9 c10 c11 c12 c13 c14
  clear hx
  go_wp2_with fail
  refine (ptext_any HX.out a15).mono ?_
  rintro e w11 ⟨rfl, hx⟩
  clear HX c15
  have HX := hide hx
  clear hx
  go_wp2_with fail
  refine (ptaken_any HX.out).mono ?_
  rintro e wz ⟨a, c, rfl, ho, hb⟩
  have HO := hide ho
  have HB2 := hide hb
  clear ho hb
  go_wp2
  go_ret2
  rw [HT.out, runI_cons, runI_cons, runI_app]
  exact ⟨a, c, rfl, HO.out, HB2.out⟩
end Go.Proofs.Ytijmmfimkibgbaa

