import Derived.Test.YtjjepgkcgbbmhaaDoorGPks
namespace Go.Proofs.YtjjepgkcgbbmhaaDoor
open Go.RowKit
set_option maxRecDepth 20000
set_option linter.unusedVariables false
set_option linter.unusedSimpArgs false

theorem heap_setCell_at {w : World} {g k : Nat} {cur : Array Value} {t : TypeId} (u : Value) (h : w.heap[g]? = some (.cells cur t (0, 0))) : (w.setCell ⟨g, k, none⟩ u).heap[g]? = some (.cells (cur.setIfInBounds k u) t (0, 0)) := by
  simp [World.setCell, Array.getElem?_modify, h]

theorem box_free {w : World} {c : Nat} {cs : Array Value} {t : TypeId} (h : w.heap[c]? = some (.cells cs t (0, 0))) : ∀ i, w.frozen? ⟨c, i, none⟩ = false := fun i => by simp [World.frozen?, h]

theorem set6 {w : World} {c : Nat} {a0 a1 a2 a3 a4 a5 : Value} {t : TypeId} (h : w.heap[c]? = some (.cells #[a0, a1, a2, a3, a4, a5] t (0, 0))) :
    (∀ u, (w.setCell ⟨c, 0, none⟩ u).heap[c]? = some (.cells #[u, a1, a2, a3, a4, a5] t (0, 0))) ∧ (∀ u, (w.setCell ⟨c, 1, none⟩ u).heap[c]? = some (.cells #[a0, u, a2, a3, a4, a5] t (0, 0))) ∧ (∀ u, (w.setCell ⟨c, 2, none⟩ u).heap[c]? = some (.cells #[a0, a1, u, a3, a4, a5] t (0, 0))) ∧ (∀ u, (w.setCell ⟨c, 3, none⟩ u).heap[c]? = some (.cells #[a0, a1, a2, u, a4, a5] t (0, 0))) ∧ (∀ u, (w.setCell ⟨c, 4, none⟩ u).heap[c]? = some (.cells #[a0, a1, a2, a3, u, a5] t (0, 0))) ∧ (∀ u, (w.setCell ⟨c, 5, none⟩ u).heap[c]? = some (.cells #[a0, a1, a2, a3, a4, u] t (0, 0))) := by
  refine ⟨?_, ?_, ?_, ?_, ?_, ?_⟩ <;> intro u <;> rw [heap_setCell_at u h] <;> rfl

theorem put6 {w : World} {c : Nat} {a0 a1 a2 a3 a4 a5 x0 x1 x2 x3 x4 x5 : Value} {t : TypeId} (h : w.heap[c]? = some (.cells #[a0, a1, a2, a3, a4, a5] t (0, 0))) :
    ((((((w.setCell ⟨c, 0, none⟩ x0).setCell ⟨c, 1, none⟩ x1).setCell ⟨c, 2, none⟩ x2).setCell ⟨c, 3, none⟩ x3).setCell ⟨c, 4, none⟩ x4).setCell ⟨c, 5, none⟩ x5).heap[c]? = some (.cells #[x0, x1, x2, x3, x4, x5] t (0, 0)) := by
  have h0 := (set6 h).1 x0
  have h1 := (set6 h0).2.1 x1
  have h2 := (set6 h1).2.2.1 x2
  have h3 := (set6 h2).2.2.2.1 x3
  have h4 := (set6 h3).2.2.2.2.1 x4
  have h5 := (set6 h4).2.2.2.2.2 x5
  exact h5

theorem put6_below {w w0 : World} {c B : Nat} {x0 x1 x2 x3 x4 x5 : Value} (h : Below B w0 w) (hB : B ≤ c) : Below B w0 ((((((w.setCell ⟨c, 0, none⟩ x0).setCell ⟨c, 1, none⟩ x1).setCell ⟨c, 2, none⟩ x2).setCell ⟨c, 3, none⟩ x3).setCell ⟨c, 4, none⟩ x4).setCell ⟨c, 5, none⟩ x5) :=
  ((((((h.setCell (p := ⟨c, 0, none⟩) hB _).setCell (p := ⟨c, 1, none⟩) hB _).setCell (p := ⟨c, 2, none⟩) hB _).setCell (p := ⟨c, 3, none⟩) hB _).setCell (p := ⟨c, 4, none⟩) hB _).setCell (p := ⟨c, 5, none⟩) hB _)

/-- P12.3, in numbers. -/
def uS (x y : Int) : Stp := ⟨1980 + x / 512, x / 32 % 16, x % 32, y / 2048, y / 32 % 64, 2 * (y % 32)⟩
def Stp.zero : Stp := ⟨0, 0, 0, 0, 0, 0⟩
def uE (x y : Int) : Int := if x < 0 ∨ 65535 < x ∨ y < 0 ∨ 65535 < y then 1 else if May (uS x y) then 0 else 121
def uA (x y : Int) : Stp := if uE x y = 0 then uS x y else Stp.zero

theorem u_bad {x y : Int} (h : uE x y ≠ 0) : uA x y = Stp.zero := if_neg h
theorem u_good {x y : Int} (h : uE x y = 0) : uA x y = uS x y := if_pos h

set_option maxHeartbeats 4000000 in
theorem unpack_any (x y : Int) (w : World) (T : Mtab w) (hx0 : -9223372036854775808 ≤ x) (hx1 : x ≤ 9223372036854775807) (hy0 : -9223372036854775808 ≤ y) (hy1 : y ≤ 9223372036854775807) : Calls Tryd.prog 6 #[.int .i64 x, .int .i64 y] w fun e w' => e = .returned (.tuple #[(uA x y).v, .int .i64 (uE x y)]) ∧ Below w.heap.size w w' := by
  obtain ⟨wb, hwb⟩ : ∃ wb, w.alloc (.cells #[.int .i64 0, .int .i64 0, .int .i64 0, .int .i64 0, .int .i64 0, .int .i64 0] 23) = wb := ⟨_, rfl⟩
  have HB : Hid (Below w.heap.size w wb) := by rw [← hwb]; exact (Below.refl _ _).alloc (Nat.le_refl _) _
  have HRB : Hid (wb.heap[w.heap.size]? = some (.cells #[.int .i64 0, .int .i64 0, .int .i64 0, .int .i64 0, .int .i64 0, .int .i64 0] 23 (0, 0))) := by rw [← hwb]; exact heap_alloc_new w _
  by_cases p0 : 0 ≤ x
  case neg =>
    have n0 : x < 0 := by omega
    have HE : Hid (uE x y = 1) := by show _ = _; unfold uE; rw [if_pos (by omega)]
    have HA := hide (u_bad (x := x) (y := y) (by rw [HE.out]; omega))
    have HP := hide (put6 (x0 := .int .i64 0) (x1 := .int .i64 0) (x2 := .int .i64 0) (x3 := .int .i64 0) (x4 := .int .i64 0) (x5 := .int .i64 0) HRB.out)
    have HPB := hide (put6_below (x0 := .int .i64 0) (x1 := .int .i64 0) (x2 := .int .i64 0) (x3 := .int .i64 0) (x4 := .int .i64 0) (x5 := .int .i64 0) HB.out (Nat.le_refl _))
    obtain ⟨c0, c1, c2, c3, c4, c5⟩ := box6 HRB.out
    have hfz := box_free HRB.out
    go_enter Tryd.func6, Tryd.ntmps6
    go_wp2
    obtain ⟨z0, z1, z2, z3, z4, z5⟩ := box6 HP.out
    refine bodyPost_ret (v := .tuple #[.agg #[.int .i64 0, .int .i64 0, .int .i64 0, .int .i64 0, .int .i64 0, .int .i64 0], .int .i64 1]) (by simp [results, Tryd.results6, go_sem, z0, z1, z2, z3, z4, z5]) rfl ?_
    rw [HA.out, HE.out]
    exact ⟨rfl, HPB.out⟩
  case pos =>
  have m0 : ¬ x < 0 := by omega
  by_cases p1 : x ≤ 65535
  case neg =>
    have n1 : 65535 < x := by omega
    have HE : Hid (uE x y = 1) := by show _ = _; unfold uE; rw [if_pos (by omega)]
    have HA := hide (u_bad (x := x) (y := y) (by rw [HE.out]; omega))
    have HP := hide (put6 (x0 := .int .i64 0) (x1 := .int .i64 0) (x2 := .int .i64 0) (x3 := .int .i64 0) (x4 := .int .i64 0) (x5 := .int .i64 0) HRB.out)
    have HPB := hide (put6_below (x0 := .int .i64 0) (x1 := .int .i64 0) (x2 := .int .i64 0) (x3 := .int .i64 0) (x4 := .int .i64 0) (x5 := .int .i64 0) HB.out (Nat.le_refl _))
    obtain ⟨c0, c1, c2, c3, c4, c5⟩ := box6 HRB.out
    have hfz := box_free HRB.out
    go_enter Tryd.func6, Tryd.ntmps6
    go_wp2
    obtain ⟨z0, z1, z2, z3, z4, z5⟩ := box6 HP.out
    refine bodyPost_ret (v := .tuple #[.agg #[.int .i64 0, .int .i64 0, .int .i64 0, .int .i64 0, .int .i64 0, .int .i64 0], .int .i64 1]) (by simp [results, Tryd.results6, go_sem, z0, z1, z2, z3, z4, z5]) rfl ?_
    rw [HA.out, HE.out]
    exact ⟨rfl, HPB.out⟩
  case pos =>
  have m1 : ¬ 65535 < x := by omega
  by_cases p2 : 0 ≤ y
  case neg =>
    have n2 : y < 0 := by omega
    have HE : Hid (uE x y = 1) := by show _ = _; unfold uE; rw [if_pos (by omega)]
    have HA := hide (u_bad (x := x) (y := y) (by rw [HE.out]; omega))
    have HP := hide (put6 (x0 := .int .i64 0) (x1 := .int .i64 0) (x2 := .int .i64 0) (x3 := .int .i64 0) (x4 := .int .i64 0) (x5 := .int .i64 0) HRB.out)
    have HPB := hide (put6_below (x0 := .int .i64 0) (x1 := .int .i64 0) (x2 := .int .i64 0) (x3 := .int .i64 0) (x4 := .int .i64 0) (x5 := .int .i64 0) HB.out (Nat.le_refl _))
    obtain ⟨c0, c1, c2, c3, c4, c5⟩ := box6 HRB.out
    have hfz := box_free HRB.out
    go_enter Tryd.func6, Tryd.ntmps6
    go_wp2
    obtain ⟨z0, z1, z2, z3, z4, z5⟩ := box6 HP.out
    refine bodyPost_ret (v := .tuple #[.agg #[.int .i64 0, .int .i64 0, .int .i64 0, .int .i64 0, .int .i64 0, .int .i64 0], .int .i64 1]) (by simp [results, Tryd.results6, go_sem, z0, z1, z2, z3, z4, z5]) rfl ?_
    rw [HA.out, HE.out]
    exact ⟨rfl, HPB.out⟩
  case pos =>
  have m2 : ¬ y < 0 := by omega
  by_cases p3 : y ≤ 65535
  case neg =>
    have n3 : 65535 < y := by omega
    have HE : Hid (uE x y = 1) := by show _ = _; unfold uE; rw [if_pos (by omega)]
    have HA := hide (u_bad (x := x) (y := y) (by rw [HE.out]; omega))
    have HP := hide (put6 (x0 := .int .i64 0) (x1 := .int .i64 0) (x2 := .int .i64 0) (x3 := .int .i64 0) (x4 := .int .i64 0) (x5 := .int .i64 0) HRB.out)
    have HPB := hide (put6_below (x0 := .int .i64 0) (x1 := .int .i64 0) (x2 := .int .i64 0) (x3 := .int .i64 0) (x4 := .int .i64 0) (x5 := .int .i64 0) HB.out (Nat.le_refl _))
    obtain ⟨c0, c1, c2, c3, c4, c5⟩ := box6 HRB.out
    have hfz := box_free HRB.out
    go_enter Tryd.func6, Tryd.ntmps6
    go_wp2
    obtain ⟨z0, z1, z2, z3, z4, z5⟩ := box6 HP.out
    refine bodyPost_ret (v := .tuple #[.agg #[.int .i64 0, .int .i64 0, .int .i64 0, .int .i64 0, .int .i64 0, .int .i64 0], .int .i64 1]) (by simp [results, Tryd.results6, go_sem, z0, z1, z2, z3, z4, z5]) rfl ?_
    rw [HA.out, HE.out]
    exact ⟨rfl, HPB.out⟩
  case pos =>
  have m3 : ¬ 65535 < y := by omega
  have HNE : Hid (uE x y = if May (uS x y) then 0 else 121) := by
    show _ = _
    have hx : ¬ (x < 0 ∨ 65535 < x ∨ y < 0 ∨ 65535 < y) := by omega
    unfold uE
    rw [if_neg hx]
  obtain ⟨f0, hf0⟩ : ∃ f, f = 1980 + x / 512 := ⟨_, rfl⟩
  obtain ⟨f1, hf1⟩ : ∃ f, f = x / 32 % 16 := ⟨_, rfl⟩
  obtain ⟨f2, hf2⟩ : ∃ f, f = x % 32 := ⟨_, rfl⟩
  obtain ⟨f3, hf3⟩ : ∃ f, f = y / 2048 := ⟨_, rfl⟩
  obtain ⟨f4, hf4⟩ : ∃ f, f = y / 32 % 64 := ⟨_, rfl⟩
  obtain ⟨f5, hf5⟩ : ∃ f, f = 2 * (y % 32) := ⟨_, rfl⟩
  have HUV : Hid ((uS x y).v = .agg #[.int .i64 f0, .int .i64 f1, .int .i64 f2, .int .i64 f3, .int .i64 f4, .int .i64 f5]) := by show _ = _; rw [hf0, hf1, hf2, hf3, hf4, hf5]; rfl
  have b0 : 1980 + x / 512 = f0 := hf0.symm
  have b1 : x / 32 % 16 = f1 := hf1.symm
  have b2 : x % 32 = f2 := hf2.symm
  have b3 : y / 2048 = f3 := hf3.symm
  have b4 : y / 32 % 64 = f4 := hf4.symm
  have b5 : 2 * (y % 32) = f5 := hf5.symm
  have b6 : y % 32 * 2 = f5 := by omega
  obtain ⟨w3, hw3⟩ : ∃ w3, wb.alloc (.cells #[.int .i64 f0, .int .i64 f1, .int .i64 f2, .int .i64 f3, .int .i64 f4, .int .i64 f5] 23) = w3 := ⟨_, rfl⟩
  have HB3 : Hid (Below w.heap.size w w3) := by rw [← hw3]; exact HB.out.alloc HB.out.size _
  have HR3 : Hid (w3.heap[w.heap.size]? = some (.cells #[.int .i64 0, .int .i64 0, .int .i64 0, .int .i64 0, .int .i64 0, .int .i64 0] 23 (0, 0))) := by rw [← hw3]; exact (Below.heap_alloc _ _ _ (Array.getElem?_eq_some_iff.1 HRB.out).1).trans HRB.out
  have HX3 : Hid (w3.heap[wb.heap.size]? = some (.cells #[.int .i64 f0, .int .i64 f1, .int .i64 f2, .int .i64 f3, .int .i64 f4, .int .i64 f5] 23 (0, 0))) := by rw [← hw3]; exact heap_alloc_new _ _
  have HT : Hid (Mtab w3) := T.low HB3.out
  have HM := hide (mayBe_any (uS x y) w3 HT.out)
  have HB2 := hide hwb
  have HH3 := hide hw3
  obtain ⟨c0, c1, c2, c3, c4, c5⟩ := box6 HX3.out
  by_cases hm : May (uS x y)
  · have HE : Hid (uE x y = 0) := by show _ = _; rw [HNE.out, if_pos hm]
    have HA := hide (u_good HE.out)
    have hd : decide (May (uS x y)) = true := decide_eq_true hm
    rw [hd] at HM
    clear hf0 hf1 hf2 hf3 hf4 hf5 hd hm HNE
    go_enter Tryd.func6, Tryd.ntmps6
    go_wp2_with fail
    rw [← HUV.out]
    refine HM.out.mono ?_
    rintro e w4 ⟨rfl, hb4⟩
    have HB4 : Hid (Below w.heap.size w w4) := HB3.out.trans (hb4.mono HB3.out.size)
    have HR4 : Hid (w4.heap[w.heap.size]? = some (.cells #[.int .i64 0, .int .i64 0, .int .i64 0, .int .i64 0, .int .i64 0, .int .i64 0] 23 (0, 0))) := (hb4.block _ (Array.getElem?_eq_some_iff.1 HR3.out).1).trans HR3.out
    have HX4 : Hid (w4.heap[wb.heap.size]? = some (.cells #[.int .i64 f0, .int .i64 f1, .int .i64 f2, .int .i64 f3, .int .i64 f4, .int .i64 f5] 23 (0, 0))) := (hb4.block _ (Array.getElem?_eq_some_iff.1 HX3.out).1).trans HX3.out
    clear c0 c1 c2 c3 c4 c5 hb4 hwb hw3
    obtain ⟨c0, c1, c2, c3, c4, c5⟩ := box6 HX4.out
    obtain ⟨r0, r1, r2, r3, r4, r5⟩ := box6 HR4.out
    have hfb := box_free HR4.out
    have HP := hide (put6 (x0 := .int .i64 f0) (x1 := .int .i64 f1) (x2 := .int .i64 f2) (x3 := .int .i64 f3) (x4 := .int .i64 f4) (x5 := .int .i64 f5) HR4.out)
    have HPB := hide (put6_below (x0 := .int .i64 f0) (x1 := .int .i64 f1) (x2 := .int .i64 f2) (x3 := .int .i64 f3) (x4 := .int .i64 f4) (x5 := .int .i64 f5) HB4.out (Nat.le_refl _))
    go_wp2
    obtain ⟨z0, z1, z2, z3, z4, z5⟩ := box6 HP.out
    refine bodyPost_ret (v := .tuple #[.agg #[.int .i64 f0, .int .i64 f1, .int .i64 f2, .int .i64 f3, .int .i64 f4, .int .i64 f5], .int .i64 0]) (by simp [results, Tryd.results6, go_sem, z0, z1, z2, z3, z4, z5]) rfl ?_
    rw [HA.out, HE.out, HUV.out]
    exact ⟨rfl, HPB.out⟩
  · have HE : Hid (uE x y = 121) := by show _ = _; rw [HNE.out, if_neg hm]
    have HA := hide (u_bad (x := x) (y := y) (by rw [HE.out]; omega))
    have hd : decide (May (uS x y)) = false := decide_eq_false hm
    rw [hd] at HM
    clear hf0 hf1 hf2 hf3 hf4 hf5 hd hm HNE
    go_enter Tryd.func6, Tryd.ntmps6
    go_wp2_with fail
    rw [← HUV.out]
    refine HM.out.mono ?_
    rintro e w4 ⟨rfl, hb4⟩
    have HB4 : Hid (Below w.heap.size w w4) := HB3.out.trans (hb4.mono HB3.out.size)
    have HR4 : Hid (w4.heap[w.heap.size]? = some (.cells #[.int .i64 0, .int .i64 0, .int .i64 0, .int .i64 0, .int .i64 0, .int .i64 0] 23 (0, 0))) := (hb4.block _ (Array.getElem?_eq_some_iff.1 HR3.out).1).trans HR3.out
    clear c0 c1 c2 c3 c4 c5 hb4 hwb hw3
    obtain ⟨r0, r1, r2, r3, r4, r5⟩ := box6 HR4.out
    have hfb := box_free HR4.out
    have HP := hide (put6 (x0 := .int .i64 0) (x1 := .int .i64 0) (x2 := .int .i64 0) (x3 := .int .i64 0) (x4 := .int .i64 0) (x5 := .int .i64 0) HR4.out)
    have HPB := hide (put6_below (x0 := .int .i64 0) (x1 := .int .i64 0) (x2 := .int .i64 0) (x3 := .int .i64 0) (x4 := .int .i64 0) (x5 := .int .i64 0) HB4.out (Nat.le_refl _))
    go_wp2
    obtain ⟨z0, z1, z2, z3, z4, z5⟩ := box6 HP.out
    refine bodyPost_ret (v := .tuple #[.agg #[.int .i64 0, .int .i64 0, .int .i64 0, .int .i64 0, .int .i64 0, .int .i64 0], .int .i64 121]) (by simp [results, Tryd.results6, go_sem, z0, z1, z2, z3, z4, z5]) rfl ?_
    rw [HA.out, HE.out]
    exact ⟨rfl, HPB.out⟩

set_option maxHeartbeats 4000000 in
theorem vunpack_any (x y : Int) (w : World) (hx0 : -9223372036854775808 ≤ x) (hx1 : x ≤ 9223372036854775807) (hy0 : -9223372036854775808 ≤ y) (hy1 : y ≤ 9223372036854775807) : Calls Tryd.prog 11 #[.int .i64 x, .int .i64 y] w fun e w' => e = .returned (.tuple #[(uA x y).v, .int .i64 (uE x y)]) ∧ Below w.heap.size w w' := by
  obtain ⟨wb, hwb⟩ : ∃ wb, w.alloc (.cells #[.int .i64 0, .int .i64 0, .int .i64 0, .int .i64 0, .int .i64 0, .int .i64 0] 23) = wb := ⟨_, rfl⟩
  have HB : Hid (Below w.heap.size w wb) := by rw [← hwb]; exact (Below.refl _ _).alloc (Nat.le_refl _) _
  have HRB : Hid (wb.heap[w.heap.size]? = some (.cells #[.int .i64 0, .int .i64 0, .int .i64 0, .int .i64 0, .int .i64 0, .int .i64 0] 23 (0, 0))) := by rw [← hwb]; exact heap_alloc_new w _
  by_cases p0 : 0 ≤ x
  case neg =>
    have n0 : x < 0 := by omega
    have HE : Hid (uE x y = 1) := by show _ = _; unfold uE; rw [if_pos (by omega)]
    have HA := hide (u_bad (x := x) (y := y) (by rw [HE.out]; omega))
    have HP := hide (put6 (x0 := .int .i64 0) (x1 := .int .i64 0) (x2 := .int .i64 0) (x3 := .int .i64 0) (x4 := .int .i64 0) (x5 := .int .i64 0) HRB.out)
    have HPB := hide (put6_below (x0 := .int .i64 0) (x1 := .int .i64 0) (x2 := .int .i64 0) (x3 := .int .i64 0) (x4 := .int .i64 0) (x5 := .int .i64 0) HB.out (Nat.le_refl _))
    obtain ⟨c0, c1, c2, c3, c4, c5⟩ := box6 HRB.out
    have hfz := box_free HRB.out
    go_enter Tryd.func11, Tryd.ntmps11
    go_wp2
    obtain ⟨z0, z1, z2, z3, z4, z5⟩ := box6 HP.out
    refine bodyPost_ret (v := .tuple #[.agg #[.int .i64 0, .int .i64 0, .int .i64 0, .int .i64 0, .int .i64 0, .int .i64 0], .int .i64 1]) (by simp [results, Tryd.results11, go_sem, z0, z1, z2, z3, z4, z5]) rfl ?_
    rw [HA.out, HE.out]
    exact ⟨rfl, HPB.out⟩
  case pos =>
  have m0 : ¬ x < 0 := by omega
  by_cases p1 : x ≤ 65535
  case neg =>
    have n1 : 65535 < x := by omega
    have HE : Hid (uE x y = 1) := by show _ = _; unfold uE; rw [if_pos (by omega)]
    have HA := hide (u_bad (x := x) (y := y) (by rw [HE.out]; omega))
    have HP := hide (put6 (x0 := .int .i64 0) (x1 := .int .i64 0) (x2 := .int .i64 0) (x3 := .int .i64 0) (x4 := .int .i64 0) (x5 := .int .i64 0) HRB.out)
    have HPB := hide (put6_below (x0 := .int .i64 0) (x1 := .int .i64 0) (x2 := .int .i64 0) (x3 := .int .i64 0) (x4 := .int .i64 0) (x5 := .int .i64 0) HB.out (Nat.le_refl _))
    obtain ⟨c0, c1, c2, c3, c4, c5⟩ := box6 HRB.out
    have hfz := box_free HRB.out
    go_enter Tryd.func11, Tryd.ntmps11
    go_wp2
    obtain ⟨z0, z1, z2, z3, z4, z5⟩ := box6 HP.out
    refine bodyPost_ret (v := .tuple #[.agg #[.int .i64 0, .int .i64 0, .int .i64 0, .int .i64 0, .int .i64 0, .int .i64 0], .int .i64 1]) (by simp [results, Tryd.results11, go_sem, z0, z1, z2, z3, z4, z5]) rfl ?_
    rw [HA.out, HE.out]
    exact ⟨rfl, HPB.out⟩
  case pos =>
  have m1 : ¬ 65535 < x := by omega
  by_cases p2 : 0 ≤ y
  case neg =>
    have n2 : y < 0 := by omega
    have HE : Hid (uE x y = 1) := by show _ = _; unfold uE; rw [if_pos (by omega)]
    have HA := hide (u_bad (x := x) (y := y) (by rw [HE.out]; omega))
    have HP := hide (put6 (x0 := .int .i64 0) (x1 := .int .i64 0) (x2 := .int .i64 0) (x3 := .int .i64 0) (x4 := .int .i64 0) (x5 := .int .i64 0) HRB.out)
    have HPB := hide (put6_below (x0 := .int .i64 0) (x1 := .int .i64 0) (x2 := .int .i64 0) (x3 := .int .i64 0) (x4 := .int .i64 0) (x5 := .int .i64 0) HB.out (Nat.le_refl _))
    obtain ⟨c0, c1, c2, c3, c4, c5⟩ := box6 HRB.out
    have hfz := box_free HRB.out
    go_enter Tryd.func11, Tryd.ntmps11
    go_wp2
    obtain ⟨z0, z1, z2, z3, z4, z5⟩ := box6 HP.out
    refine bodyPost_ret (v := .tuple #[.agg #[.int .i64 0, .int .i64 0, .int .i64 0, .int .i64 0, .int .i64 0, .int .i64 0], .int .i64 1]) (by simp [results, Tryd.results11, go_sem, z0, z1, z2, z3, z4, z5]) rfl ?_
    rw [HA.out, HE.out]
    exact ⟨rfl, HPB.out⟩
  case pos =>
  have m2 : ¬ y < 0 := by omega
  by_cases p3 : y ≤ 65535
  case neg =>
    have n3 : 65535 < y := by omega
    have HE : Hid (uE x y = 1) := by show _ = _; unfold uE; rw [if_pos (by omega)]
    have HA := hide (u_bad (x := x) (y := y) (by rw [HE.out]; omega))
    have HP := hide (put6 (x0 := .int .i64 0) (x1 := .int .i64 0) (x2 := .int .i64 0) (x3 := .int .i64 0) (x4 := .int .i64 0) (x5 := .int .i64 0) HRB.out)
    have HPB := hide (put6_below (x0 := .int .i64 0) (x1 := .int .i64 0) (x2 := .int .i64 0) (x3 := .int .i64 0) (x4 := .int .i64 0) (x5 := .int .i64 0) HB.out (Nat.le_refl _))
    obtain ⟨c0, c1, c2, c3, c4, c5⟩ := box6 HRB.out
    have hfz := box_free HRB.out
    go_enter Tryd.func11, Tryd.ntmps11
    go_wp2
    obtain ⟨z0, z1, z2, z3, z4, z5⟩ := box6 HP.out
    refine bodyPost_ret (v := .tuple #[.agg #[.int .i64 0, .int .i64 0, .int .i64 0, .int .i64 0, .int .i64 0, .int .i64 0], .int .i64 1]) (by simp [results, Tryd.results11, go_sem, z0, z1, z2, z3, z4, z5]) rfl ?_
    rw [HA.out, HE.out]
    exact ⟨rfl, HPB.out⟩
  case pos =>
  have m3 : ¬ 65535 < y := by omega
  have HNE : Hid (uE x y = if May (uS x y) then 0 else 121) := by
    show _ = _
    have hx : ¬ (x < 0 ∨ 65535 < x ∨ y < 0 ∨ 65535 < y) := by omega
    unfold uE
    rw [if_neg hx]
  obtain ⟨f0, hf0⟩ : ∃ f, f = 1980 + x / 512 := ⟨_, rfl⟩
  obtain ⟨f1, hf1⟩ : ∃ f, f = x / 32 % 16 := ⟨_, rfl⟩
  obtain ⟨f2, hf2⟩ : ∃ f, f = x % 32 := ⟨_, rfl⟩
  obtain ⟨f3, hf3⟩ : ∃ f, f = y / 2048 := ⟨_, rfl⟩
  obtain ⟨f4, hf4⟩ : ∃ f, f = y / 32 % 64 := ⟨_, rfl⟩
  obtain ⟨f5, hf5⟩ : ∃ f, f = 2 * (y % 32) := ⟨_, rfl⟩
  have HUV : Hid ((uS x y).v = .agg #[.int .i64 f0, .int .i64 f1, .int .i64 f2, .int .i64 f3, .int .i64 f4, .int .i64 f5]) := by show _ = _; rw [hf0, hf1, hf2, hf3, hf4, hf5]; rfl
  have b0 : 1980 + x / 512 = f0 := hf0.symm
  have b1 : x / 32 % 16 = f1 := hf1.symm
  have b2 : x % 32 = f2 := hf2.symm
  have b3 : y / 2048 = f3 := hf3.symm
  have b4 : y / 32 % 64 = f4 := hf4.symm
  have b5 : 2 * (y % 32) = f5 := hf5.symm
  have b6 : y % 32 * 2 = f5 := by omega
  obtain ⟨w3, hw3⟩ : ∃ w3, wb.alloc (.cells #[.int .i64 f0, .int .i64 f1, .int .i64 f2, .int .i64 f3, .int .i64 f4, .int .i64 f5] 23) = w3 := ⟨_, rfl⟩
  have HB3 : Hid (Below w.heap.size w w3) := by rw [← hw3]; exact HB.out.alloc HB.out.size _
  have HR3 : Hid (w3.heap[w.heap.size]? = some (.cells #[.int .i64 0, .int .i64 0, .int .i64 0, .int .i64 0, .int .i64 0, .int .i64 0] 23 (0, 0))) := by rw [← hw3]; exact (Below.heap_alloc _ _ _ (Array.getElem?_eq_some_iff.1 HRB.out).1).trans HRB.out
  have HX3 : Hid (w3.heap[wb.heap.size]? = some (.cells #[.int .i64 f0, .int .i64 f1, .int .i64 f2, .int .i64 f3, .int .i64 f4, .int .i64 f5] 23 (0, 0))) := by rw [← hw3]; exact heap_alloc_new _ _
  have HM := hide (vmay_any (uS x y) w3)
  have HB2 := hide hwb
  have HH3 := hide hw3
  obtain ⟨c0, c1, c2, c3, c4, c5⟩ := box6 HX3.out
  by_cases hm : May (uS x y)
  · have HE : Hid (uE x y = 0) := by show _ = _; rw [HNE.out, if_pos hm]
    have HA := hide (u_good HE.out)
    have hd : decide (May (uS x y)) = true := decide_eq_true hm
    rw [hd] at HM
    clear hf0 hf1 hf2 hf3 hf4 hf5 hd hm HNE
    go_enter Tryd.func11, Tryd.ntmps11
    go_wp2_with fail
    rw [← HUV.out]
    refine HM.out.mono ?_
    rintro e w4 ⟨rfl, hb4⟩
    have HB4 : Hid (Below w.heap.size w w4) := HB3.out.trans (hb4.mono HB3.out.size)
    have HR4 : Hid (w4.heap[w.heap.size]? = some (.cells #[.int .i64 0, .int .i64 0, .int .i64 0, .int .i64 0, .int .i64 0, .int .i64 0] 23 (0, 0))) := (hb4.block _ (Array.getElem?_eq_some_iff.1 HR3.out).1).trans HR3.out
    have HX4 : Hid (w4.heap[wb.heap.size]? = some (.cells #[.int .i64 f0, .int .i64 f1, .int .i64 f2, .int .i64 f3, .int .i64 f4, .int .i64 f5] 23 (0, 0))) := (hb4.block _ (Array.getElem?_eq_some_iff.1 HX3.out).1).trans HX3.out
    clear c0 c1 c2 c3 c4 c5 hb4 hwb hw3
    obtain ⟨c0, c1, c2, c3, c4, c5⟩ := box6 HX4.out
    obtain ⟨r0, r1, r2, r3, r4, r5⟩ := box6 HR4.out
    have hfb := box_free HR4.out
    have HP := hide (put6 (x0 := .int .i64 f0) (x1 := .int .i64 f1) (x2 := .int .i64 f2) (x3 := .int .i64 f3) (x4 := .int .i64 f4) (x5 := .int .i64 f5) HR4.out)
    have HPB := hide (put6_below (x0 := .int .i64 f0) (x1 := .int .i64 f1) (x2 := .int .i64 f2) (x3 := .int .i64 f3) (x4 := .int .i64 f4) (x5 := .int .i64 f5) HB4.out (Nat.le_refl _))
    go_wp2
    obtain ⟨z0, z1, z2, z3, z4, z5⟩ := box6 HP.out
    refine bodyPost_ret (v := .tuple #[.agg #[.int .i64 f0, .int .i64 f1, .int .i64 f2, .int .i64 f3, .int .i64 f4, .int .i64 f5], .int .i64 0]) (by simp [results, Tryd.results11, go_sem, z0, z1, z2, z3, z4, z5]) rfl ?_
    rw [HA.out, HE.out, HUV.out]
    exact ⟨rfl, HPB.out⟩
  · have HE : Hid (uE x y = 121) := by show _ = _; rw [HNE.out, if_neg hm]
    have HA := hide (u_bad (x := x) (y := y) (by rw [HE.out]; omega))
    have hd : decide (May (uS x y)) = false := decide_eq_false hm
    rw [hd] at HM
    clear hf0 hf1 hf2 hf3 hf4 hf5 hd hm HNE
    go_enter Tryd.func11, Tryd.ntmps11
    go_wp2_with fail
    rw [← HUV.out]
    refine HM.out.mono ?_
    rintro e w4 ⟨rfl, hb4⟩
    have HB4 : Hid (Below w.heap.size w w4) := HB3.out.trans (hb4.mono HB3.out.size)
    have HR4 : Hid (w4.heap[w.heap.size]? = some (.cells #[.int .i64 0, .int .i64 0, .int .i64 0, .int .i64 0, .int .i64 0, .int .i64 0] 23 (0, 0))) := (hb4.block _ (Array.getElem?_eq_some_iff.1 HR3.out).1).trans HR3.out
    clear c0 c1 c2 c3 c4 c5 hb4 hwb hw3
    obtain ⟨r0, r1, r2, r3, r4, r5⟩ := box6 HR4.out
    have hfb := box_free HR4.out
    have HP := hide (put6 (x0 := .int .i64 0) (x1 := .int .i64 0) (x2 := .int .i64 0) (x3 := .int .i64 0) (x4 := .int .i64 0) (x5 := .int .i64 0) HR4.out)
    have HPB := hide (put6_below (x0 := .int .i64 0) (x1 := .int .i64 0) (x2 := .int .i64 0) (x3 := .int .i64 0) (x4 := .int .i64 0) (x5 := .int .i64 0) HB4.out (Nat.le_refl _))
    go_wp2
    obtain ⟨z0, z1, z2, z3, z4, z5⟩ := box6 HP.out
    refine bodyPost_ret (v := .tuple #[.agg #[.int .i64 0, .int .i64 0, .int .i64 0, .int .i64 0, .int .i64 0, .int .i64 0], .int .i64 121]) (by simp [results, Tryd.results11, go_sem, z0, z1, z2, z3, z4, z5]) rfl ?_
    rw [HA.out, HE.out]
    exact ⟨rfl, HPB.out⟩

end Go.Proofs.YtjjepgkcgbbmhaaDoor

