import Derived.Test.YtijmmfimkibgbaaGRe
namespace Go.Proofs.Ytijmmfimkibgbaa
open Go.RowKit Go.Maps
set_option maxRecDepth 20000
set_option linter.unusedVariables false
set_option linter.unusedSimpArgs false

set_option maxHeartbeats 2000000 in
theorem putCommon_any (l : Loc) (ok : l.Ok) {c : Nat} {o : Obj} {w0 w : World} {K0 : Nat → Nat} {g : Nat} {st : BSt} (h : Bx c o w0 K0 g w st) :
    Calls Try.prog 19 #[.pointer (some ⟨g, 0, none⟩), l.v] w fun e w' => e = .returned (.tuple #[]) ∧ Bx c o w0 K0 g w' (runI st (lcI l)) := by
  obtain ⟨K, u, hb, hs⟩ := h.step
  have hl := h.lim
  have HX := hide (Bx.inner hb hl (.cells l.cs 24))
  have HS := hide hs
  have HL := hide hl
  have HKL := hide ok
  obtain ⟨x0, x1, x2, x3, x4, s0, s1, x6, x7, x8, x9⟩ := ok
  obtain ⟨lv, hlv⟩ : ∃ lv, lv = l := ⟨_, rfl⟩
  rw [← hlv] at HKL
  have HR : Hid (runI st (lcI l) = runI st (lcI lv)) := by rw [hlv]; rfl
  have HI : Hid (lcI lv = lcI l) := by rw [hlv]; rfl
  obtain ⟨a0, a1, a2, a3, a4, a5, a6, a7, a8, a9⟩ := l
  have HV : Hid (lv.v = .agg #[.int .i64 a0, .int .i64 a1, .int .i64 a2, .int .i64 a3, .int .i64 a4, .int .u32 a5, .int .i64 a6, .int .i64 a7, .string a8, .string a9]) := by rw [hlv]; rfl
  simp only at x0 x1 x2 x3 x4 x8 x9
  simp only [Loc.cs] at HX
  simp only [Loc.v, Loc.cs]
  have HO0 := hide x0
  have HO1 := hide x1
  have HO2 := hide x2
  have HO3 := hide x3
  have HO4 := hide x4
  have HO8 := hide (ok_size x8)
  have HO9 := hide (ok_size x9)
  have HSZ : Hid (∀ s : BSt, runI s [.num lv.sum 4, .num lv.packed 4, .num lv.size 4] = runI s [.num a5 4, .num a6 4, .num a7 4]) := by rw [hlv]; exact fun s => rfl
  obtain ⟨wb, hwb⟩ : ∃ wb, w.alloc (.cells #[.int .i64 a0, .int .i64 a1, .int .i64 a2, .int .i64 a3, .int .i64 a4, .int .u32 a5, .int .i64 a6, .int .i64 a7, .string a8, .string a9] 24) = wb := ⟨_, rfl⟩
  rw [hwb] at HX
  clear h hb hs hl x0 x1 x2 x3 x4 x6 x7 x8 x9 s0 s1 hlv
  go_enter Try.func19, Try.ntmps19
  obtain ⟨c0, c1, c2, c3, c4, c5, c6, c7, c8, c9⟩ := box10 HX.out.box
  clear c1 c2 c3 c4 c5 c6 c7 c8 c9
  go_wp2_with fail
  refine (pu16_any HX.out a0 HO0.out).mono ?_
  rintro e w1 ⟨rfl, hx⟩
  clear HX c0
  have HX := hide hx
  obtain ⟨c0, c1, c2, c3, c4, c5, c6, c7, c8, c9⟩ := box10 hx.box
  clear c0 c2 c3 c4 c5 c6 c7 c8 c9
  clear hx
  go_wp2_with fail
  refine (pu16_any HX.out a1 HO1.out).mono ?_
  rintro e w2 ⟨rfl, hx⟩
  clear HX c1
  have HX := hide hx
  obtain ⟨c0, c1, c2, c3, c4, c5, c6, c7, c8, c9⟩ := box10 hx.box
  clear c0 c1 c3 c4 c5 c6 c7 c8 c9
  clear hx
  go_wp2_with fail
  refine (pu16_any HX.out a2 HO2.out).mono ?_
  rintro e w3 ⟨rfl, hx⟩
  clear HX c2
  have HX := hide hx
  obtain ⟨c0, c1, c2, c3, c4, c5, c6, c7, c8, c9⟩ := box10 hx.box
  clear c0 c1 c2 c4 c5 c6 c7 c8 c9
  clear hx
  go_wp2_with fail
  refine (pu16_any HX.out a3 HO3.out).mono ?_
  rintro e w4 ⟨rfl, hx⟩
  clear HX c3
  have HX := hide hx
  obtain ⟨c0, c1, c2, c3, c4, c5, c6, c7, c8, c9⟩ := box10 hx.box
  clear c0 c1 c2 c3 c5 c6 c7 c8 c9
  clear hx
  go_wp2_with fail
  refine (pu16_any HX.out a4 HO4.out).mono ?_
  rintro e w5 ⟨rfl, hx⟩
  clear HX c4
  have HX := hide hx
  obtain ⟨c0, c1, c2, c3, c4, c5, c6, c7, c8, c9⟩ := box10 hx.box
  clear hx
  go_wp2_with fail
  rw [← HV.out]
  refine (putSizes_any lv HKL.out HX.out).mono ?_
  rintro e w6 ⟨rfl, hx⟩
  clear HX c0 c1 c2 c3 c4 c5 c6 c7 c8 c9
  have HX := hide hx
  obtain ⟨c0, c1, c2, c3, c4, c5, c6, c7, c8, c9⟩ := box10 hx.box
  clear c0 c1 c2 c3 c4 c5 c6 c7 c9
  clear hx
  go_wp2_with fail
  refine (pu16_any HX.out (a8.size : Int) HO8.out).mono ?_
  rintro e w7 ⟨rfl, hx⟩
  clear HX c8
  have HX := hide hx
  obtain ⟨c0, c1, c2, c3, c4, c5, c6, c7, c8, c9⟩ := box10 hx.box
  clear c0 c1 c2 c3 c4 c5 c6 c7 c8
  clear hx
  go_wp2_with fail
  refine (pu16_any HX.out (a9.size : Int) HO9.out).mono ?_
  rintro e w8 ⟨rfl, hx⟩
  clear HX c9
  have HX := hide hx
  clear hx
  go_wp2
  (try simp only [Exit.inBlock, Exit.then]); refine bodyPost_end (results_none rfl _ _ _) rfl ?_
  rw [HSZ.out] at HX
  exact ⟨rfl, HS.out _ _ HX.out.fr HX.out.lim⟩

set_option maxHeartbeats 4000000 in
theorem putLocal_any (l : Loc) (ok : l.Ok) (w : World) :
    Calls Try.prog 30 #[l.v] w fun e w' => ∃ a c, e = .returned (.tuple #[.slice a (puL (loI l)).length c, .int .i64 (puE (loI l))]) ∧ OB w' w.heap.size (.slice a (puL (loI l)).length c) (puL (loI l)) ∧ Below w.heap.size w w' := by
  have HP := hide (pu_of (loI l) 196651 (loI_len l))
  rw [← HP.out.1, ← HP.out.2]
  obtain ⟨wb, hwb⟩ : ∃ wb, w.alloc (.cells l.cs 24) = wb := ⟨_, rfl⟩
  have HB : Hid (Below w.heap.size w wb) := by rw [← hwb]; exact (Below.refl _ _).alloc (Nat.le_refl _) _
  have HN : Hid (wb.heap[w.heap.size]? = some (.cells l.cs 24 (0, 0))) := by rw [← hwb]; exact heap_alloc_new w _
  obtain ⟨lv, hlv⟩ : ∃ lv, lv = l := ⟨_, rfl⟩
  have HKL : Hid (lv.Ok) := by rw [hlv]; exact ok
  have HD : Hid (loI l = loI lv) := by rw [hlv]; rfl
  rw [HD.out]
  cases l with
  | mk a0 a1 a2 a3 a4 a5 a6 a7 a8 a9 =>
  simp only [Loc.cs] at hwb HN
  have HV : Hid (lv.v = .agg #[.int .i64 a0, .int .i64 a1, .int .i64 a2, .int .i64 a3, .int .i64 a4, .int .u32 a5, .int .i64 a6, .int .i64 a7, .string a8, .string a9]) := by rw [hlv]; rfl
  have HT : Hid (loI lv = .num 67324752 4 :: (lcI lv ++ [.txt a8, .txt a9])) := by rw [hlv]; rfl
  simp only [Loc.v, Loc.cs]
  clear HP ok hlv HD
  go_enter Try.func30, Try.ntmps30
  go_wp2_with fail
  refine (newBx w wb 196651 (by omega) (by omega) HN.out HB.out).mono ?_
  rintro e w0 ⟨g, rfl, hx⟩
  have HX := hide hx
  clear hx hwb
  obtain ⟨c0, c1, c2, c3, c4, c5, c6, c7, c8, c9⟩ := box10 HX.out.box
  clear c0 c1 c2 c3 c4 c5 c6 c7 c8 c9
  go_wp2_with fail
  refine (pu32_any HX.out 67324752 (by unfold Ok64; omega)).mono ?_
  rintro e w1 ⟨rfl, hx⟩
  clear HX
  have HX := hide hx
  obtain ⟨c0, c1, c2, c3, c4, c5, c6, c7, c8, c9⟩ := box10 hx.box
  clear hx
  go_wp2_with fail
  rw [← HV.out]
  refine (putCommon_any lv HKL.out HX.out).mono ?_
  rintro e w2 ⟨rfl, hx⟩
  clear HX c0 c1 c2 c3 c4 c5 c6 c7 c8 c9
  have HX := hide hx
  obtain ⟨c0, c1, c2, c3, c4, c5, c6, c7, c8, c9⟩ := box10 hx.box
  clear c0 c1 c2 c3 c4 c5 c6 c7 c9
  clear hx
  go_wp2_with fail
  refine (ptext_any HX.out a8).mono ?_
  rintro e w3 ⟨rfl, hx⟩
  clear HX c8
  have HX := hide hx
  obtain ⟨c0, c1, c2, c3, c4, c5, c6, c7, c8, c9⟩ := box10 hx.box
  clear c0 c1 c2 c3 c4 c5 c6 c7 c8
  clear hx
  go_wp2_with fail
  refine (ptext_any HX.out a9).mono ?_
  rintro e w4 ⟨rfl, hx⟩
  clear HX c9
  have HX := hide hx
  clear hx
  go_wp2_with fail
  refine (ptaken_any HX.out).mono ?_
  rintro e wz ⟨a, c, rfl, ho, hb⟩
  have HO := hide ho
  have HB2 := hide hb
  clear ho hb
  go_wp2
  go_ret2
  rw [HT.out, runI_cons, runI_app]
  exact ⟨a, c, rfl, HO.out, HB2.out⟩
end Go.Proofs.Ytijmmfimkibgbaa

