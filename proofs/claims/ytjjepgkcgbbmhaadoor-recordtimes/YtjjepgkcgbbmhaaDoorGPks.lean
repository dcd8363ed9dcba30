import Derived.Test.YtjjepgkcgbbmhaaDoorGStp
namespace Go.Proofs.YtjjepgkcgbbmhaaDoor
open Go.RowKit
set_option maxRecDepth 20000
set_option linter.unusedVariables false
set_option linter.unusedSimpArgs false

/-- The same in numbers. -/
theorem may_num (t : Stp) : May t ↔ (1980 ≤ t.y ∧ t.y ≤ 2107 ∧ 1 ≤ t.mo ∧ t.mo ≤ 12 ∧ 1 ≤ t.d ∧ t.d ≤ dys t.y t.mo ∧ 0 ≤ t.h ∧ t.h ≤ 23 ∧ 0 ≤ t.mi ∧ t.mi ≤ 59 ∧ 0 ≤ t.s ∧ t.s ≤ 59) := by
  rw [may_iff]
  unfold wB
  simp only [decide_eq_true_eq]
  constructor
  · rintro ⟨⟨a, b⟩, ⟨c, d⟩, ⟨e, f⟩, ⟨g, h⟩, ⟨i, j⟩, ⟨k, l⟩⟩; exact ⟨a, b, c, d, e, f, g, h, i, j, k, l⟩
  · rintro ⟨a, b, c, d, e, f, g, h, i, j, k, l⟩; exact ⟨⟨a, b⟩, ⟨c, d⟩, ⟨e, f⟩, ⟨g, h⟩, ⟨i, j⟩, ⟨k, l⟩⟩

set_option maxHeartbeats 4000000 in
theorem vmay_any (t : Stp) (w : World) : Calls Tryd.prog 13 #[t.v] w fun e w' => e = .returned (.bool (decide (May t))) ∧ Below w.heap.size w w' := by
  obtain ⟨R, hR⟩ : ∃ R, R = decide (May t) := ⟨_, rfl⟩
  rw [← hR]
  have HR : Hid (R = true ↔ (1980 ≤ t.y ∧ t.y ≤ 2107 ∧ 1 ≤ t.mo ∧ t.mo ≤ 12 ∧ 1 ≤ t.d ∧ t.d ≤ dys t.y t.mo ∧ 0 ≤ t.h ∧ t.h ≤ 23 ∧ 0 ≤ t.mi ∧ t.mi ≤ 59 ∧ 0 ≤ t.s ∧ t.s ≤ 59)) := by rw [hR, decide_eq_true_iff]; exact may_num t
  clear hR
  obtain ⟨wb, hwb⟩ : ∃ wb, w.alloc (.cells t.cs 23) = wb := ⟨_, rfl⟩
  have HB : Hid (Below w.heap.size w wb) := by rw [← hwb]; exact (Below.refl _ _).alloc (Nat.le_refl _) _
  have hN : wb.heap[w.heap.size]? = some (.cells t.cs 23 (0, 0)) := by rw [← hwb]; exact heap_alloc_new w _
  obtain ⟨a0, a1, a2, a3, a4, a5⟩ := t
  simp only [Stp.cs] at hN hwb
  simp only at HR
  simp only [Stp.v, Stp.cs]
  obtain ⟨c0, c1, c2, c3, c4, c5⟩ := box6 hN
  clear hN
  by_cases p0 : 1980 ≤ a0
  case neg =>
    have n0 : a0 < 1980 := by omega
    have HE : Hid (R = false) := by
      show _ = _
      rw [← Bool.not_eq_true, HR.out]
      omega
    clear HR
    go_enter Tryd.func13, Tryd.ntmps13
    go_wp2
    go_ret
    rw [HE.out]
    exact ⟨rfl, HB.out⟩
  case pos =>
  have m0 : ¬ a0 < 1980 := by omega
  by_cases p1 : a0 ≤ 2107
  case neg =>
    have n1 : 2107 < a0 := by omega
    have HE : Hid (R = false) := by
      show _ = _
      rw [← Bool.not_eq_true, HR.out]
      omega
    clear HR
    go_enter Tryd.func13, Tryd.ntmps13
    go_wp2
    go_ret
    rw [HE.out]
    exact ⟨rfl, HB.out⟩
  case pos =>
  have m1 : ¬ 2107 < a0 := by omega
  by_cases p2 : 1 ≤ a1
  case neg =>
    have n2 : a1 < 1 := by omega
    have HE : Hid (R = false) := by
      show _ = _
      rw [← Bool.not_eq_true, HR.out]
      omega
    clear HR
    go_enter Tryd.func13, Tryd.ntmps13
    go_wp2
    go_ret
    rw [HE.out]
    exact ⟨rfl, HB.out⟩
  case pos =>
  have m2 : ¬ a1 < 1 := by omega
  by_cases p3 : a1 ≤ 12
  case neg =>
    have n3 : 12 < a1 := by omega
    have HE : Hid (R = false) := by
      show _ = _
      rw [← Bool.not_eq_true, HR.out]
      omega
    clear HR
    go_enter Tryd.func13, Tryd.ntmps13
    go_wp2
    go_ret
    rw [HE.out]
    exact ⟨rfl, HB.out⟩
  case pos =>
  have m3 : ¬ 12 < a1 := by omega
  by_cases p4 : 1 ≤ a2
  case neg =>
    have n4 : a2 < 1 := by omega
    have HE : Hid (R = false) := by
      show _ = _
      rw [← Bool.not_eq_true, HR.out]
      omega
    clear HR
    go_enter Tryd.func13, Tryd.ntmps13
    go_wp2
    go_ret
    rw [HE.out]
    exact ⟨rfl, HB.out⟩
  case pos =>
  have m4 : ¬ a2 < 1 := by omega
  have HDY := hide (vdays_any a0 a1 wb (by omega) (by omega) p2 p3)
  obtain ⟨D, hD⟩ : ∃ D, D = dys a0 a1 := ⟨_, rfl⟩
  rw [← hD] at HDY HR
  clear hD
  by_cases p5 : a2 ≤ D
  case neg =>
    have HE : Hid (R = false) := by
      show _ = _
      rw [← Bool.not_eq_true, HR.out]
      omega
    clear HR
    go_enter Tryd.func13, Tryd.ntmps13
    go_wp2_with fail
    refine HDY.out.mono ?_
    rintro e w1 ⟨rfl, rfl⟩
    clear p0 p1 p2 p3 p4 m0 m1 m2 m3 m4
    go_wp2
    go_ret
    rw [HE.out]
    exact ⟨by simp [p5], HB.out⟩
  case pos =>
  by_cases p6 : 0 ≤ a3
  case neg =>
    have HE : Hid (R = false) := by
      show _ = _
      rw [← Bool.not_eq_true, HR.out]
      omega
    clear HR
    go_enter Tryd.func13, Tryd.ntmps13
    go_wp2_with fail
    refine HDY.out.mono ?_
    rintro e w1 ⟨rfl, rfl⟩
    clear p0 p1 p2 p3 p4 m0 m1 m2 m3 m4
    go_wp2
    go_ret
    rw [HE.out]
    exact ⟨by simp [p6], HB.out⟩
  case pos =>
  by_cases p7 : a3 ≤ 23
  case neg =>
    have HE : Hid (R = false) := by
      show _ = _
      rw [← Bool.not_eq_true, HR.out]
      omega
    clear HR
    go_enter Tryd.func13, Tryd.ntmps13
    go_wp2_with fail
    refine HDY.out.mono ?_
    rintro e w1 ⟨rfl, rfl⟩
    clear p0 p1 p2 p3 p4 m0 m1 m2 m3 m4
    go_wp2
    go_ret
    rw [HE.out]
    exact ⟨by simp [p7], HB.out⟩
  case pos =>
  by_cases p8 : 0 ≤ a4
  case neg =>
    have HE : Hid (R = false) := by
      show _ = _
      rw [← Bool.not_eq_true, HR.out]
      omega
    clear HR
    go_enter Tryd.func13, Tryd.ntmps13
    go_wp2_with fail
    refine HDY.out.mono ?_
    rintro e w1 ⟨rfl, rfl⟩
    clear p0 p1 p2 p3 p4 m0 m1 m2 m3 m4
    go_wp2
    go_ret
    rw [HE.out]
    exact ⟨by simp [p8], HB.out⟩
  case pos =>
  by_cases p9 : a4 ≤ 59
  case neg =>
    have HE : Hid (R = false) := by
      show _ = _
      rw [← Bool.not_eq_true, HR.out]
      omega
    clear HR
    go_enter Tryd.func13, Tryd.ntmps13
    go_wp2_with fail
    refine HDY.out.mono ?_
    rintro e w1 ⟨rfl, rfl⟩
    clear p0 p1 p2 p3 p4 m0 m1 m2 m3 m4
    go_wp2
    go_ret
    rw [HE.out]
    exact ⟨by simp [p9], HB.out⟩
  case pos =>
  by_cases p10 : 0 ≤ a5
  case neg =>
    have HE : Hid (R = false) := by
      show _ = _
      rw [← Bool.not_eq_true, HR.out]
      omega
    clear HR
    go_enter Tryd.func13, Tryd.ntmps13
    go_wp2_with fail
    refine HDY.out.mono ?_
    rintro e w1 ⟨rfl, rfl⟩
    clear p0 p1 p2 p3 p4 m0 m1 m2 m3 m4
    go_wp2
    go_ret
    rw [HE.out]
    exact ⟨by simp [p10], HB.out⟩
  case pos =>
  by_cases p11 : a5 ≤ 59
  case neg =>
    have HE : Hid (R = false) := by
      show _ = _
      rw [← Bool.not_eq_true, HR.out]
      omega
    clear HR
    go_enter Tryd.func13, Tryd.ntmps13
    go_wp2_with fail
    refine HDY.out.mono ?_
    rintro e w1 ⟨rfl, rfl⟩
    clear p0 p1 p2 p3 p4 m0 m1 m2 m3 m4
    go_wp2
    go_ret
    rw [HE.out]
    exact ⟨by simp [p11], HB.out⟩
  case pos =>
  have HE : Hid (R = true) := HR.out.2 ⟨p0, p1, p2, p3, p4, p5, p6, p7, p8, p9, p10, p11⟩
  clear HR
  go_enter Tryd.func13, Tryd.ntmps13
  go_wp2_with fail
  refine HDY.out.mono ?_
  rintro e w1 ⟨rfl, rfl⟩
  clear p0 p1 p2 p3 p4 m0 m1 m2 m3 m4
  go_wp2
  go_ret
  rw [HE.out]
  exact ⟨by simp [p11], HB.out⟩

/-- P12.2, in numbers. -/
def pkE (t : Stp) : Int := if May t then 0 else 121
def pkD (t : Stp) : Int := if May t then (t.y - 1980) * 512 + t.mo * 32 + t.d else 0
def pkC (t : Stp) : Int := if May t then t.h * 2048 + t.mi * 32 + t.s / 2 else 0

theorem dys_le {y m : Int} (h1 : 1 ≤ m) (h2 : m ≤ 12) : dys y m ≤ 31 := by
  have hm : m = 1 ∨ m = 2 ∨ m = 3 ∨ m = 4 ∨ m = 5 ∨ m = 6 ∨ m = 7 ∨ m = 8 ∨ m = 9 ∨ m = 10 ∨ m = 11 ∨ m = 12 := by omega
  unfold dys
  split
  · omega
  · rcases hm with rfl | rfl | rfl | rfl | rfl | rfl | rfl | rfl | rfl | rfl | rfl | rfl <;> decide

set_option maxHeartbeats 4000000 in
theorem pack_any (t : Stp) (w : World) (T : Mtab w) : Calls Tryd.prog 5 #[t.v] w fun e w' => e = .returned (.tuple #[.int .i64 (pkD t), .int .i64 (pkC t), .int .i64 (pkE t)]) ∧ Below w.heap.size w w' := by
  obtain ⟨wb, hwb⟩ : ∃ wb, w.alloc (.cells t.cs 23) = wb := ⟨_, rfl⟩
  have HB : Hid (Below w.heap.size w wb) := by rw [← hwb]; exact (Below.refl _ _).alloc (Nat.le_refl _) _
  have HN : Hid (wb.heap[w.heap.size]? = some (.cells t.cs 23 (0, 0))) := by rw [← hwb]; exact heap_alloc_new w _
  have HT : Hid (Mtab wb) := T.low HB.out
  obtain ⟨tv, htv⟩ : ∃ tv, tv = t := ⟨_, rfl⟩
  have HM := hide (mayBe_any tv wb HT.out)
  have HP : Hid (pkD t = pkD tv ∧ pkC t = pkC tv ∧ pkE t = pkE tv) := by rw [htv]; exact ⟨rfl, rfl, rfl⟩
  rw [HP.out.1, HP.out.2.1, HP.out.2.2]
  obtain ⟨a0, a1, a2, a3, a4, a5⟩ := t
  simp only [Stp.cs] at HN hwb
  have HV : Hid (tv.v = .agg #[.int .i64 a0, .int .i64 a1, .int .i64 a2, .int .i64 a3, .int .i64 a4, .int .i64 a5]) := by rw [htv]; rfl
  have HNU := hide (may_num tv)
  rw [htv] at HNU
  simp only at HNU
  have HPP : Hid (May tv → pkD tv = (a0 - 1980) * 512 + a1 * 32 + a2 ∧ pkC tv = a3 * 2048 + a4 * 32 + a5 / 2) := fun h => by
    unfold pkD pkC
    rw [if_pos h, if_pos h, htv]
    exact ⟨rfl, rfl⟩
  rw [← htv] at HNU
  simp only [Stp.v, Stp.cs]
  obtain ⟨c0, c1, c2, c3, c4, c5⟩ := box6 HN.out
  clear htv HP
  by_cases hm : May tv
  · have HE : Hid (pkE tv = 0) := if_pos hm
    have hd : decide (May tv) = true := decide_eq_true hm
    obtain ⟨g1, g2, g3, g4, g5, g6, g7, g8, g9, g10, g11, g12⟩ := HNU.out.1 hm
    have g6' := dys_le (y := a0) g3 g4
    have g13 : a2 ≤ 31 := by omega
    obtain ⟨hq1, hq2⟩ := HPP.out hm
    rw [hd] at HM
    rw [hq1, hq2]
    clear hd hm hq1 hq2 g6 g6' HNU HPP
    go_enter Tryd.func5, Tryd.ntmps5
    go_wp2_with fail
    rw [← HV.out]
    refine HM.out.mono ?_
    rintro e w1 ⟨rfl, hb1⟩
    have hN1 : w1.heap[w.heap.size]? = some (.cells #[.int .i64 a0, .int .i64 a1, .int .i64 a2, .int .i64 a3, .int .i64 a4, .int .i64 a5] 23 (0, 0)) := (hb1.block _ (Array.getElem?_eq_some_iff.1 HN.out).1).trans HN.out
    have HB1 : Hid (Below w.heap.size w w1) := HB.out.trans (hb1.mono HB.out.size)
    clear c0 c1 c2 c3 c4 c5 hb1 hwb
    obtain ⟨c0, c1, c2, c3, c4, c5⟩ := box6 hN1
    clear hN1
    go_wp2
    go_ret3
    rw [HE.out]
    exact ⟨rfl, HB1.out⟩
  · have HE : Hid (pkE tv = 121 ∧ pkD tv = 0 ∧ pkC tv = 0) := ⟨if_neg hm, if_neg hm, if_neg hm⟩
    have hd : decide (May tv) = false := decide_eq_false hm
    rw [hd] at HM
    clear hd hm HNU HPP
    go_enter Tryd.func5, Tryd.ntmps5
    go_wp2_with fail
    rw [← HV.out]
    refine HM.out.mono ?_
    rintro e w1 ⟨rfl, hb1⟩
    have HB1 : Hid (Below w.heap.size w w1) := HB.out.trans (hb1.mono HB.out.size)
    clear c0 c1 c2 c3 c4 c5 hb1 hwb
    go_wp2
    go_ret3
    rw [HE.out.1, HE.out.2.1, HE.out.2.2]
    exact ⟨rfl, HB1.out⟩

set_option maxHeartbeats 4000000 in
theorem vpack_any (t : Stp) (w : World) : Calls Tryd.prog 9 #[t.v] w fun e w' => e = .returned (.tuple #[.int .i64 (pkD t), .int .i64 (pkC t), .int .i64 (pkE t)]) ∧ Below w.heap.size w w' := by
  obtain ⟨wb, hwb⟩ : ∃ wb, w.alloc (.cells t.cs 23) = wb := ⟨_, rfl⟩
  have HB : Hid (Below w.heap.size w wb) := by rw [← hwb]; exact (Below.refl _ _).alloc (Nat.le_refl _) _
  have HN : Hid (wb.heap[w.heap.size]? = some (.cells t.cs 23 (0, 0))) := by rw [← hwb]; exact heap_alloc_new w _
  obtain ⟨tv, htv⟩ : ∃ tv, tv = t := ⟨_, rfl⟩
  have HM := hide (vmay_any tv wb)
  have HP : Hid (pkD t = pkD tv ∧ pkC t = pkC tv ∧ pkE t = pkE tv) := by rw [htv]; exact ⟨rfl, rfl, rfl⟩
  rw [HP.out.1, HP.out.2.1, HP.out.2.2]
  obtain ⟨a0, a1, a2, a3, a4, a5⟩ := t
  simp only [Stp.cs] at HN hwb
  have HV : Hid (tv.v = .agg #[.int .i64 a0, .int .i64 a1, .int .i64 a2, .int .i64 a3, .int .i64 a4, .int .i64 a5]) := by rw [htv]; rfl
  have HNU := hide (may_num tv)
  rw [htv] at HNU
  simp only at HNU
  have HPP : Hid (May tv → pkD tv = (a0 - 1980) * 512 + a1 * 32 + a2 ∧ pkC tv = a3 * 2048 + a4 * 32 + a5 / 2) := fun h => by
    unfold pkD pkC
    rw [if_pos h, if_pos h, htv]
    exact ⟨rfl, rfl⟩
  rw [← htv] at HNU
  simp only [Stp.v, Stp.cs]
  obtain ⟨c0, c1, c2, c3, c4, c5⟩ := box6 HN.out
  clear htv HP
  by_cases hm : May tv
  · have HE : Hid (pkE tv = 0) := if_pos hm
    have hd : decide (May tv) = true := decide_eq_true hm
    obtain ⟨g1, g2, g3, g4, g5, g6, g7, g8, g9, g10, g11, g12⟩ := HNU.out.1 hm
    have g6' := dys_le (y := a0) g3 g4
    have g13 : a2 ≤ 31 := by omega
    obtain ⟨hq1, hq2⟩ := HPP.out hm
    rw [hd] at HM
    rw [hq1, hq2]
    clear hd hm hq1 hq2 g6 g6' HNU HPP
    go_enter Tryd.func9, Tryd.ntmps9
    go_wp2_with fail
    rw [← HV.out]
    refine HM.out.mono ?_
    rintro e w1 ⟨rfl, hb1⟩
    have hN1 : w1.heap[w.heap.size]? = some (.cells #[.int .i64 a0, .int .i64 a1, .int .i64 a2, .int .i64 a3, .int .i64 a4, .int .i64 a5] 23 (0, 0)) := (hb1.block _ (Array.getElem?_eq_some_iff.1 HN.out).1).trans HN.out
    have HB1 : Hid (Below w.heap.size w w1) := HB.out.trans (hb1.mono HB.out.size)
    clear c0 c1 c2 c3 c4 c5 hb1 hwb
    obtain ⟨c0, c1, c2, c3, c4, c5⟩ := box6 hN1
    clear hN1
    go_wp2
    go_quiet (fail)
    go_wp2
    go_ret3
    rw [HE.out]
    exact ⟨rfl, below_drewN HB1.out _⟩
  · have HE : Hid (pkE tv = 121 ∧ pkD tv = 0 ∧ pkC tv = 0) := ⟨if_neg hm, if_neg hm, if_neg hm⟩
    have hd : decide (May tv) = false := decide_eq_false hm
    rw [hd] at HM
    clear hd hm HNU HPP
    go_enter Tryd.func9, Tryd.ntmps9
    go_wp2_with fail
    rw [← HV.out]
    refine HM.out.mono ?_
    rintro e w1 ⟨rfl, hb1⟩
    have HB1 : Hid (Below w.heap.size w w1) := HB.out.trans (hb1.mono HB.out.size)
    clear c0 c1 c2 c3 c4 c5 hb1 hwb
    go_wp2
    go_ret3
    rw [HE.out.1, HE.out.2.1, HE.out.2.2]
    exact ⟨rfl, HB1.out⟩

end Go.Proofs.YtjjepgkcgbbmhaaDoor

