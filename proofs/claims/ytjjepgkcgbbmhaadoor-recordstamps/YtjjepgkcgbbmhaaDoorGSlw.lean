import Derived.Test.YtjjepgkcgbbmhaaDoorGUps
namespace Go.Proofs.YtjjepgkcgbbmhaaDoor
open Go.RowKit
set_option maxRecDepth 20000
set_option linter.unusedVariables false
set_option linter.unusedSimpArgs false

theorem num_any (n : Int) (w : World) : Calls Tryd.prog 10 #[.int .i64 n] w fun e w' => e = .returned (.int .i64 n) ∧ w' = w := by
  go_enter Tryd.func10, Tryd.ntmps10
  go_wp2
  go_ret
  exact ⟨rfl, rfl⟩

set_option maxHeartbeats 4000000 in
theorem stamps_walk (t : Stp) (x y : Int) (w : World) (T : Mtab w) (hx0 : -9223372036854775808 ≤ x) (hx1 : x ≤ 9223372036854775807) (hy0 : -9223372036854775808 ≤ y) (hy1 : y ≤ 9223372036854775807) :
    Calls Tryd.prog 4 #[t.v, .int .i64 x, .int .i64 y] w fun e w' => e = .returned (.bool true) ∧ Below w.heap.size w w' := by
  obtain ⟨wb, hwb⟩ : ∃ wb, w.alloc (.cells t.cs 23) = wb := ⟨_, rfl⟩
  have HB : Hid (Below w.heap.size w wb) := by rw [← hwb]; exact (Below.refl _ _).alloc (Nat.le_refl _) _
  have HN : Hid (wb.heap[w.heap.size]? = some (.cells t.cs 23 (0, 0))) := by rw [← hwb]; exact heap_alloc_new w _
  have HT := hide T
  have HX : Hid ((-9223372036854775808 ≤ x ∧ x ≤ 9223372036854775807) ∧ (-9223372036854775808 ≤ y ∧ y ≤ 9223372036854775807)) := ⟨⟨hx0, hx1⟩, hy0, hy1⟩
  obtain ⟨tv, htv⟩ : ∃ tv, tv = t := ⟨_, rfl⟩
  obtain ⟨a0, a1, a2, a3, a4, a5⟩ := t
  simp only [Stp.cs] at HN hwb
  have HV : Hid (tv.v = .agg #[.int .i64 a0, .int .i64 a1, .int .i64 a2, .int .i64 a3, .int .i64 a4, .int .i64 a5]) := by rw [htv]; rfl
  simp only [Stp.v, Stp.cs]
  obtain ⟨D, HD⟩ : ∃ D, Hid (pkD tv = D) := ⟨_, rfl⟩
  obtain ⟨C, HC⟩ : ∃ D, Hid (pkC tv = D) := ⟨_, rfl⟩
  obtain ⟨E, HE⟩ : ∃ D, Hid (pkE tv = D) := ⟨_, rfl⟩
  obtain ⟨G, HG⟩ : ∃ D, Hid (uE x y = D) := ⟨_, rfl⟩
  obtain ⟨U, hU⟩ : ∃ U, uA x y = U := ⟨_, rfl⟩
  obtain ⟨e0, e1, e2, e3, e4, e5⟩ := U
  have HU : Hid ((uA x y).v = .agg #[.int .i64 e0, .int .i64 e1, .int .i64 e2, .int .i64 e3, .int .i64 e4, .int .i64 e5]) := by show _ = _; rw [hU]; rfl
  obtain ⟨c0, c1, c2, c3, c4, c5⟩ := box6 HN.out
  clear T htv hU hx0 hx1 hy0 hy1
  go_enter Tryd.func4, Tryd.ntmps4
  go_wp2_with fail
  rw [← HV.out]
  refine (pack_any tv wb (HT.out.low HB.out)).mono ?_
  rintro e w1 ⟨rfl, hb1⟩
  rw [HD.out, HC.out, HE.out]
  have HB1 : Hid (Below w.heap.size w w1) := HB.out.trans (hb1.mono HB.out.size)
  have HN1 : Hid (w1.heap[w.heap.size]? = some (.cells #[.int .i64 a0, .int .i64 a1, .int .i64 a2, .int .i64 a3, .int .i64 a4, .int .i64 a5] 23 (0, 0))) := (hb1.block _ (Array.getElem?_eq_some_iff.1 HN.out).1).trans HN.out
  clear c0 c1 c2 c3 c4 c5 hb1 hwb
  obtain ⟨c0, c1, c2, c3, c4, c5⟩ := box6 HN1.out
  go_wp2_with fail
  rw [← HV.out]
  refine (vpack_any tv w1).mono ?_
  rintro e w2 ⟨rfl, hb2⟩
  rw [HD.out, HC.out, HE.out]
  have HB2 : Hid (Below w.heap.size w w2) := HB1.out.trans (hb2.mono HB1.out.size)
  clear c0 c1 c2 c3 c4 c5 hb2 HB1 HN1 HN
  go_wp2_with fail
  refine (num_any E _).mono ?_
  rintro e w3 ⟨rfl, rfl⟩
  go_wp2_with fail
  refine (unpack_any x y w3 (HT.out.low HB2.out) HX.out.1.1 HX.out.1.2 HX.out.2.1 HX.out.2.2).mono ?_
  rintro e w4 ⟨rfl, hb4⟩
  rw [HU.out, HG.out]
  have HB4 : Hid (Below w.heap.size w w4) := HB2.out.trans (hb4.mono HB2.out.size)
  obtain ⟨w5, hw5⟩ : ∃ x, w4.alloc (.cells #[.int .i64 e0, .int .i64 e1, .int .i64 e2, .int .i64 e3, .int .i64 e4, .int .i64 e5] 23) = x := ⟨_, rfl⟩
  have HB5 : Hid (Below w.heap.size w w5) := by rw [← hw5]; exact HB4.out.alloc HB4.out.size _
  have HM5 : Hid (w5.heap[w4.heap.size]? = some (.cells #[.int .i64 e0, .int .i64 e1, .int .i64 e2, .int .i64 e3, .int .i64 e4, .int .i64 e5] 23 (0, 0))) := by rw [← hw5]; exact heap_alloc_new _ _
  clear hb4 HB2
  go_wp2_with fail
  clear hw5
  refine (vunpack_any x y w5 HX.out.1.1 HX.out.1.2 HX.out.2.1 HX.out.2.2).mono ?_
  rintro e w6 ⟨rfl, hb6⟩
  rw [HU.out, HG.out]
  have HB6 : Hid (Below w.heap.size w w6) := HB5.out.trans (hb6.mono HB5.out.size)
  have HM6 : Hid (w6.heap[w4.heap.size]? = some (.cells #[.int .i64 e0, .int .i64 e1, .int .i64 e2, .int .i64 e3, .int .i64 e4, .int .i64 e5] 23 (0, 0))) := (hb6.block _ (Array.getElem?_eq_some_iff.1 HM5.out).1).trans HM5.out
  obtain ⟨w7, hw7⟩ : ∃ x, w6.alloc (.cells #[.int .i64 e0, .int .i64 e1, .int .i64 e2, .int .i64 e3, .int .i64 e4, .int .i64 e5] 23) = x := ⟨_, rfl⟩
  have HB7 : Hid (Below w.heap.size w w7) := by rw [← hw7]; exact HB6.out.alloc HB6.out.size _
  have HM7 : Hid (w7.heap[w4.heap.size]? = some (.cells #[.int .i64 e0, .int .i64 e1, .int .i64 e2, .int .i64 e3, .int .i64 e4, .int .i64 e5] 23 (0, 0))) := by rw [← hw7]; exact (Below.heap_alloc _ _ _ (Array.getElem?_eq_some_iff.1 HM6.out).1).trans HM6.out
  have HQ7 : Hid (w7.heap[w6.heap.size]? = some (.cells #[.int .i64 e0, .int .i64 e1, .int .i64 e2, .int .i64 e3, .int .i64 e4, .int .i64 e5] 23 (0, 0))) := by rw [← hw7]; exact heap_alloc_new _ _
  obtain ⟨c0, c1, c2, c3, c4, c5⟩ := box6 HM7.out
  obtain ⟨r0, r1, r2, r3, r4, r5⟩ := box6 HQ7.out
  clear hb6
  go_wp2_with fail
  refine (num_any G _).mono ?_
  rintro e w8 ⟨rfl, rfl⟩
  clear c0 c1 c2 c3 c4 c5 r0 r1 r2 r3 r4 r5 hw7
  go_wp2
  go_ret
  exact ⟨by simp, HB7.out⟩
end Go.Proofs.YtjjepgkcgbbmhaaDoor

