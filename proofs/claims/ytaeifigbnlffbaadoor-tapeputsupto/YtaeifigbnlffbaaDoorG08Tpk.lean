import Derived.Test.YtaeifigbnlffbaaDoorG07Tps
namespace Go.Proofs.YtaeifigbnlffbaaDoor
open Go.RowKit Go.Maps
set_option maxRecDepth 20000
set_option linter.unusedVariables false
set_option linter.unusedSimpArgs false

/-! Is a file sound, by the program and by the document. -/

abbrev fcs (f : Fl) (dv : Value) : Array Value := #[.string f.nm, .string f.lk, .string f.us, .string f.tm, .int .i64 f.kd, .int .i64 f.md, .int .i64 f.ow, .int .i64 f.gr, .int .i64 f.ti, dv]

theorem box10 {w : World} {b : Nat} {a0 a1 a2 a3 a4 a5 a6 a7 a8 a9 : Value} (h : w.heap[b]? = some (.cells #[a0, a1, a2, a3, a4, a5, a6, a7, a8, a9] 39 (0, 0))) :
    w.cell? ⟨b, 0, none⟩ = some a0 ∧ w.cell? ⟨b, 1, none⟩ = some a1 ∧ w.cell? ⟨b, 2, none⟩ = some a2 ∧ w.cell? ⟨b, 3, none⟩ = some a3 ∧ w.cell? ⟨b, 4, none⟩ = some a4 ∧ w.cell? ⟨b, 5, none⟩ = some a5 ∧ w.cell? ⟨b, 6, none⟩ = some a6 ∧ w.cell? ⟨b, 7, none⟩ = some a7 ∧ w.cell? ⟨b, 8, none⟩ = some a8 ∧ w.cell? ⟨b, 9, none⟩ = some a9 := by
  refine ⟨?_, ?_, ?_, ?_, ?_, ?_, ?_, ?_, ?_, ?_⟩ <;> (unfold World.cell?; rw [h]; rfl)

def fitN (v K : Int) : Bool := decide (0 ≤ v) && decide (v < K)

theorem box2 {w : World} {b : Nat} {a0 a1 : Value} {t : TypeId} (h : w.heap[b]? = some (.cells #[a0, a1] t (0, 0))) : w.cell? ⟨b, 0, none⟩ = some a0 ∧ w.cell? ⟨b, 1, none⟩ = some a1 := by
  refine ⟨?_, ?_⟩ <;> (unfold World.cell?; rw [h]; rfl)

theorem hfits (v a b K : Int) (hK : (b = 8 ∧ K = 2097152) ∨ (b = 12 ∧ K = 8589934592)) (w : World) :
    Calls Tryd.prog 59 #[.int .i64 v, .agg #[.int .i64 a, .int .i64 b]] w fun e w' => e = .returned (.bool (fitN v K)) ∧ Below w.heap.size w w' := by
  obtain ⟨wb, hwb⟩ : ∃ wb, w.alloc (.cells #[.int .i64 a, .int .i64 b] 72) = wb := ⟨_, rfl⟩
  have HB : Hid (Below w.heap.size w wb) := by rw [← hwb]; exact (Below.refl _ _).alloc (Nat.le_refl _) _
  have hN : wb.heap[w.heap.size]? = some (.cells #[.int .i64 a, .int .i64 b] 72 (0, 0)) := by rw [← hwb]; exact heap_alloc_new w _
  obtain ⟨c0, c1⟩ := box2 hN
  clear hN
  unfold fitN
  by_cases h0 : 0 ≤ v
  · rcases hK with ⟨rfl, rfl⟩ | ⟨rfl, rfl⟩
    · go_enter Tryd.func59, Tryd.ntmps59
      go_wp2
      go_ret
      exact ⟨by simp [h0], HB.out⟩
    · go_enter Tryd.func59, Tryd.ntmps59
      go_wp2
      go_ret
      exact ⟨by simp [h0], HB.out⟩
  · go_enter Tryd.func59, Tryd.ntmps59
    go_wp2
    go_ret
    exact ⟨by simp [h0]; intro h; omega, HB.out⟩

def okN (f : Fl) : Bool := fitN f.md 2097152 && fitN f.ow 2097152 && fitN f.gr 2097152 && fitN f.ti 8589934592

set_option maxHeartbeats 2000000 in
theorem hsoundN (f : Fl) (dv : Value) (w : World) (T : Tbs w) : Calls Tryd.prog 44 #[.agg (fcs f dv)] w fun e w' => e = .returned (.bool (okN f)) ∧ Below w.heap.size w w' := by
  obtain ⟨wb, hwb⟩ : ∃ wb, w.alloc (.cells (fcs f dv) 39) = wb := ⟨_, rfl⟩
  have HB : Hid (Below w.heap.size w wb) := by rw [← hwb]; exact (Below.refl _ _).alloc (Nat.le_refl _) _
  have HN : Hid (∀ wx, Below wb.heap.size wb wx → wx.heap[w.heap.size]? = some (.cells (fcs f dv) 39 (0, 0))) := fun wx hb => by
    rw [hb.block _ (by rw [← hwb]; simp), ← hwb]; exact heap_alloc_new w _
  have HT : Hid (∀ wx, Below wb.heap.size wb wx → Tbs wx) := fun wx hb => (T.mono HB.out).mono hb
  have HF : Hid (∀ (v a b K : Int), ((b = 8 ∧ K = 2097152) ∨ (b = 12 ∧ K = 8589934592)) → ∀ w : World, Calls Tryd.prog 59 #[.int .i64 v, .agg #[.int .i64 a, .int .i64 b]] w fun e w' => e = .returned (.bool (fitN v K)) ∧ Below w.heap.size w w') := hfits
  have HK : Hid (∀ wx, Below wb.heap.size wb wx → (wx.cell? ⟨w.heap.size, 5, none⟩ = some (.int .i64 f.md) ∧ wx.cell? ⟨w.heap.size, 6, none⟩ = some (.int .i64 f.ow) ∧ wx.cell? ⟨w.heap.size, 7, none⟩ = some (.int .i64 f.gr) ∧ wx.cell? ⟨w.heap.size, 8, none⟩ = some (.int .i64 f.ti)) ∧ wx.cell? ⟨0, 0, none⟩ = some (.int .i64 100) ∧ wx.cell? ⟨0, 1, none⟩ = some (.int .i64 8) ∧ wx.cell? ⟨0, 2, none⟩ = some (.int .i64 108) ∧ wx.cell? ⟨0, 3, none⟩ = some (.int .i64 8) ∧ wx.cell? ⟨0, 4, none⟩ = some (.int .i64 116) ∧ wx.cell? ⟨0, 5, none⟩ = some (.int .i64 8) ∧ wx.cell? ⟨0, 8, none⟩ = some (.int .i64 136) ∧ wx.cell? ⟨0, 9, none⟩ = some (.int .i64 12)) := fun wx hb => by
    obtain ⟨-, -, -, -, -, k5, k6, k7, k8, -⟩ := box10 (HN.out wx hb)
    have t := (HT.out wx hb).nm
    exact ⟨⟨k5, k6, k7, k8⟩, t 0 100 rfl, t 1 8 rfl, t 2 108 rfl, t 3 8 rfl, t 4 116 rfl, t 5 8 rfl, t 8 136 rfl, t 9 12 rfl⟩
  obtain ⟨nm, lk, us, tm, kd, md, ow, gr, ti, dt⟩ := f
  simp only at HK hwb
  unfold okN
  simp only
  clear HN HT T
  obtain ⟨z1, HZ1⟩ : ∃ z, Hid (z = fitN md 2097152) := ⟨_, rfl⟩
  obtain ⟨z2, HZ2⟩ : ∃ z, Hid (z = fitN ow 2097152) := ⟨_, rfl⟩
  obtain ⟨z3, HZ3⟩ : ∃ z, Hid (z = fitN gr 2097152) := ⟨_, rfl⟩
  obtain ⟨z4, HZ4⟩ : ∃ z, Hid (z = fitN ti 8589934592) := ⟨_, rfl⟩
  rw [← HZ1.out, ← HZ2.out, ← HZ3.out, ← HZ4.out]
  obtain ⟨⟨k5, k6, k7, k8⟩, t0, t1, t2, t3, t4, t5, t8, t9⟩ := HK.out wb (Below.refl _ _)
  go_enter Tryd.func44, Tryd.ntmps44
  go_wp2_with fail
  refine (HF.out _ _ _ 2097152 (.inl ⟨rfl, rfl⟩) _).mono ?_
  rintro e w1 ⟨rfl, hb1⟩
  rw [← HZ1.out]
  have HB1 := hide hb1
  clear k5 k6 k7 k8 t0 t1 t2 t3 t4 t5 t8 t9 hb1 hwb
  cases z1 with
  | false =>
    go_wp2
    go_ret
    exact ⟨rfl, HB.out.trans (HB1.out.mono HB.out.size)⟩
  | true =>
    obtain ⟨⟨k5, k6, k7, k8⟩, t0, t1, t2, t3, t4, t5, t8, t9⟩ := HK.out w1 HB1.out
    go_wp2_with fail
    refine (HF.out _ _ _ 2097152 (.inl ⟨rfl, rfl⟩) _).mono ?_
    rintro e w2 ⟨rfl, hb2⟩
    rw [← HZ2.out]
    have HB2 := hide (HB1.out.trans (hb2.mono HB1.out.size))
    clear k5 k6 k7 k8 t0 t1 t2 t3 t4 t5 t8 t9 hb2
    cases z2 with
    | false =>
      go_wp2
      go_ret
      exact ⟨rfl, HB.out.trans (HB2.out.mono HB.out.size)⟩
    | true =>
      obtain ⟨⟨k5, k6, k7, k8⟩, t0, t1, t2, t3, t4, t5, t8, t9⟩ := HK.out w2 HB2.out
      go_wp2_with fail
      refine (HF.out _ _ _ 2097152 (.inl ⟨rfl, rfl⟩) _).mono ?_
      rintro e w3 ⟨rfl, hb3⟩
      rw [← HZ3.out]
      have HB3 := hide (HB2.out.trans (hb3.mono HB2.out.size))
      clear k5 k6 k7 k8 t0 t1 t2 t3 t4 t5 t8 t9 hb3
      cases z3 with
      | false =>
        go_wp2
        go_ret
        exact ⟨rfl, HB.out.trans (HB3.out.mono HB.out.size)⟩
      | true =>
        obtain ⟨⟨k5, k6, k7, k8⟩, t0, t1, t2, t3, t4, t5, t8, t9⟩ := HK.out w3 HB3.out
        go_wp2_with fail
        refine (HF.out _ _ _ 8589934592 (.inr ⟨rfl, rfl⟩) _).mono ?_
        rintro e w4 ⟨rfl, hb4⟩
        rw [← HZ4.out]
        have HB4 := hide (HB3.out.trans (hb4.mono HB3.out.size))
        clear k5 k6 k7 k8 t0 t1 t2 t3 t4 t5 t8 t9 hb4
        go_wp2
        go_ret
        exact ⟨rfl, HB.out.trans (HB4.out.mono HB.out.size)⟩
end Go.Proofs.YtaeifigbnlffbaaDoor

