import Derived.Test.YtijmmfimkibgbaaGRe
namespace Go.Proofs.Ytijmmfimkibgbaa
open Go.RowKit Go.Maps
set_option maxRecDepth 20000
set_option linter.unusedVariables false
set_option linter.unusedSimpArgs false

set_option maxHeartbeats 4000000 in
theorem putEnd_any (l : Enr) (ok : l.Ok) (w : World) :
    Calls Try.prog 7 #[l.v] w fun e w' => ∃ a c, e = .returned (.tuple #[.slice a (puL (enI l)).length c, .int .i64 (puE (enI l))]) ∧ OB w' w.heap.size (.slice a (puL (enI l)).length c) (puL (enI l)) ∧ Below w.heap.size w w' := by
  have HP := hide (pu_of (enI l) 196651 (enI_len l))
  rw [← HP.out.1, ← HP.out.2]
  obtain ⟨wb, hwb⟩ : ∃ wb, w.alloc (.cells l.cs 28) = wb := ⟨_, rfl⟩
  have HB : Hid (Below w.heap.size w wb) := by rw [← hwb]; exact (Below.refl _ _).alloc (Nat.le_refl _) _
  have HN : Hid (wb.heap[w.heap.size]? = some (.cells l.cs 28 (0, 0))) := by rw [← hwb]; exact heap_alloc_new w _
  obtain ⟨x0, x1, x2, x3, x4, x5, x6⟩ := ok
  cases l with
  | mk a0 a1 a2 a3 a4 a5 a6 =>
  simp only [Enr.cs] at hwb HN
  have HT : Hid (enI ⟨a0, a1, a2, a3, a4, a5, a6⟩ = [.num 101010256 4, .num a0 2, .num a1 2, .num a2 2, .num a3 2, .num a4 4, .num a5 4, .num a6.size 2, .txt a6]) := rfl
  simp only [Enr.v, Enr.cs]
  simp only at x0 x1 x2 x3 x4 x5 x6
  have HO0 := hide x0
  have HO1 := hide x1
  have HO2 := hide x2
  have HO3 := hide x3
  have HO4 := hide x4
  have HO5 := hide x5
  have HO6 := hide (ok_size x6)
  clear HP x0 x1 x2 x3 x4 x5 x6
  go_enter Try.func7, Try.ntmps7
  go_wp2_with fail
  refine (newBx w wb 196651 (by omega) (by omega) HN.out HB.out).mono ?_
  rintro e w0 ⟨g, rfl, hx⟩
  have HX := hide hx
  clear hx hwb
  obtain ⟨c0, c1, c2, c3, c4, c5, c6⟩ := box7 HX.out.box
  clear c0 c1 c2 c3 c4 c5 c6
  go_wp2_with fail
  refine (pu32_any HX.out 101010256 (by unfold Ok64; omega)).mono ?_
  rintro e w1 ⟨rfl, hx⟩
  clear HX
  have HX := hide hx
  obtain ⟨c0, c1, c2, c3, c4, c5, c6⟩ := box7 hx.box
  clear c1 c2 c3 c4 c5 c6
  clear hx
  go_wp2_with fail
  refine (pu16_any HX.out a0 HO0.out).mono ?_
  rintro e w2 ⟨rfl, hx⟩
  clear HX c0
  have HX := hide hx
  obtain ⟨c0, c1, c2, c3, c4, c5, c6⟩ := box7 hx.box
  clear c0 c2 c3 c4 c5 c6
  clear hx
  go_wp2_with fail
  refine (pu16_any HX.out a1 HO1.out).mono ?_
  rintro e w3 ⟨rfl, hx⟩
  clear HX c1
  have HX := hide hx
  obtain ⟨c0, c1, c2, c3, c4, c5, c6⟩ := box7 hx.box
  clear c0 c1 c3 c4 c5 c6
  clear hx
  go_wp2_with fail
  refine (pu16_any HX.out a2 HO2.out).mono ?_
  rintro e w4 ⟨rfl, hx⟩
  clear HX c2
  have HX := hide hx
  obtain ⟨c0, c1, c2, c3, c4, c5, c6⟩ := box7 hx.box
  clear c0 c1 c2 c4 c5 c6
  clear hx
  go_wp2_with fail
  refine (pu16_any HX.out a3 HO3.out).mono ?_
  rintro e w5 ⟨rfl, hx⟩
  clear HX c3
  have HX := hide hx
  obtain ⟨c0, c1, c2, c3, c4, c5, c6⟩ := box7 hx.box
  clear c0 c1 c2 c3 c5 c6
  clear hx
  go_wp2_with fail
  refine (pu32_any HX.out a4 HO4.out).mono ?_
  rintro e w6 ⟨rfl, hx⟩
  clear HX c4
  have HX := hide hx
  obtain ⟨c0, c1, c2, c3, c4, c5, c6⟩ := box7 hx.box
  clear c0 c1 c2 c3 c4 c6
  clear hx
  go_wp2_with fail
  refine (pu32_any HX.out a5 HO5.out).mono ?_
  rintro e w7 ⟨rfl, hx⟩
  clear HX c5
  have HX := hide hx
  obtain ⟨c0, c1, c2, c3, c4, c5, c6⟩ := box7 hx.box
  clear c0 c1 c2 c3 c4 c5
  clear hx
  go_wp2_with fail
  refine (pu16_any HX.out (a6.size : Int) HO6.out).mono ?_
  rintro e w8 ⟨rfl, hx⟩
  clear HX c6
  have HX := hide hx
  obtain ⟨c0, c1, c2, c3, c4, c5, c6⟩ := box7 hx.box
  clear c0 c1 c2 c3 c4 c5
  clear hx
  go_wp2_with fail
  refine (ptext_any HX.out a6).mono ?_
  rintro e w9 ⟨rfl, hx⟩
  clear HX c6
  have HX := hide hx
  clear hx
  go_wp2_with fail
  refine (ptaken_any HX.out).mono ?_
  rintro e wz ⟨a, c, rfl, ho, hb⟩
  have HO := hide ho
  have HB2 := hide hb
  clear ho hb
  go_wp2
  go_ret2
  rw [HT.out]
  exact ⟨a, c, rfl, HO.out, HB2.out⟩
end Go.Proofs.Ytijmmfimkibgbaa

