import Derived.Test.YtjjepgkcgbbmhacGGcm
import Derived.Test.YtjjepgkcgbbmhacGVgt
namespace Go.Proofs.Ytjjepgkcgbbmhac
open Go.RowKit Go.Maps
set_option maxRecDepth 20000
set_option linter.unusedVariables false
set_option linter.unusedSimpArgs false

set_option maxHeartbeats 8000000 in
theorem vread_any (v : Value) (d : List Int) (k : Nat) (w : World) (h : SB w v d) (hB : Byt d) (hk : k + 22 ≤ d.length) (hd : d.length ≤ 140737488355328) :
    Calls Try.prog 35 #[v, .int .i64 (k : Int)] w fun e w' => e = .returned (rdG d k).v ∧ Below w.heap.size w w' := by
  obtain ⟨ao, cap, rfl, q1, q2, q3⟩ := h.open11
  have HD := hide hd
  have HBy := hide hB
  have HS := hide h
  obtain ⟨RV, hRV⟩ : ∃ V, V = (rdG d k).v := ⟨_, rfl⟩
  rw [← hRV]
  have HRV := hide hRV
  obtain ⟨wb, hwb⟩ : ∃ wb, w.alloc (.cells #[.int .i64 0, .int .i64 0, .int .i64 0, .int .i64 0, .int .i64 0, .int .u32 0, .int .i64 0, .int .i64 0, .string ⟨#[]⟩, .string ⟨#[]⟩] 24) = wb := ⟨_, rfl⟩
  have HB : Hid (Below w.heap.size w wb) := by rw [← hwb]; exact (Below.refl _ _).alloc (Nat.le_refl _) _
  have HRB : Hid (wb.heap[w.heap.size]? = some (.cells #[.int .i64 0, .int .i64 0, .int .i64 0, .int .i64 0, .int .i64 0, .int .u32 0, .int .i64 0, .int .i64 0, .string ⟨#[]⟩, .string ⟨#[]⟩] 24 (0, 0))) := by rw [← hwb]; exact heap_alloc_new w _
  obtain ⟨c, hc⟩ : ∃ c, wb.heap.size = c := ⟨_, rfl⟩
  obtain ⟨w2, hw2⟩ : ∃ w2, wb.alloc (.cells #[.int .i64 0, .int .i64 0, .int .i64 0, .int .i64 0, .int .i64 0, .int .u32 0, .int .i64 0, .int .i64 0, .string ⟨#[]⟩, .string ⟨#[]⟩] 24) = w2 := ⟨_, rfl⟩
  have HBX : Hid (w2.heap[c]? = some (.cells #[.int .i64 0, .int .i64 0, .int .i64 0, .int .i64 0, .int .i64 0, .int .u32 0, .int .i64 0, .int .i64 0, .string ⟨#[]⟩, .string ⟨#[]⟩] 24 (0, 0))) := by rw [← hw2, ← hc]; exact heap_alloc_new _ _
  have HBL : Hid (Below w.heap.size w w2) := by rw [← hw2]; exact HB.out.alloc HB.out.size _
  have HRL : Hid (w2.heap[w.heap.size]? = some (.cells #[.int .i64 0, .int .i64 0, .int .i64 0, .int .i64 0, .int .i64 0, .int .u32 0, .int .i64 0, .int .i64 0, .string ⟨#[]⟩, .string ⟨#[]⟩] 24 (0, 0))) := by rw [← hw2]; exact (Below.heap_alloc _ _ _ (Array.getElem?_eq_some_iff.1 HRB.out).1).trans HRB.out
  have HWC : Hid (w.heap.size < c) := by rw [← hc]; exact (Array.getElem?_eq_some_iff.1 HRB.out).1
  have HNM : Hid (∀ (W : World) (p n : Nat), Below w.heap.size w W → p + n ≤ d.length → n ≤ 4 → 1 ≤ n → Calls Try.prog 34 #[.slice ao d.length cap, .int .i64 (p : Int), .int .i64 (n : Int)] W fun e w' => e = .returned (.int .i64 (fld d p n)) ∧ w' = W) := fun W p n hb h1 h2 h3 => vnumber_any _ d p n W (SB.below HS.out hb) HBy.out h1 h2 h3 HD.out
  have HKL := hide hk
  clear h q3 hB hRV HRB HB
  go_enter Try.func35, Try.ntmps35
  go_wp2_with fail
  clear hwb hw2
  refine (HNM.out _ k 2 HBL.out (by have := HKL.out; omega) (by omega) (by omega)).mono ?_
  rintro e y0 ⟨rfl, rfl⟩
  obtain ⟨f0, hf0⟩ : ∃ f, f = fld d k 2 := ⟨_, rfl⟩
  rw [← hf0]
  have HF0 : Hid (f0 = fld d k 2) := by show _ = _; rw [hf0]
  have hci := (box10 HBX.out).1
  have hfz := box_free HBX.out
  obtain ⟨x0, hx0⟩ : ∃ x, y0.setCell ⟨c, 0, none⟩ (.int .i64 f0) = x := ⟨_, rfl⟩
  have HBX0 : Hid (x0.heap[c]? = some (.cells #[.int .i64 f0, .int .i64 0, .int .i64 0, .int .i64 0, .int .i64 0, .int .u32 0, .int .i64 0, .int .i64 0, .string ⟨#[]⟩, .string ⟨#[]⟩] 24 (0, 0))) := by rw [← hx0]; exact (set10 HBX.out).1 _
  have HBL0 : Hid (Below w.heap.size w x0) := by rw [← hx0]; exact HBL.out.setCell (p := ⟨c, 0, none⟩) (Nat.le_of_lt HWC.out) _
  have HRL0 : Hid (x0.heap[w.heap.size]? = some (.cells #[.int .i64 0, .int .i64 0, .int .i64 0, .int .i64 0, .int .i64 0, .int .u32 0, .int .i64 0, .int .i64 0, .string ⟨#[]⟩, .string ⟨#[]⟩] 24 (0, 0))) := by rw [← hx0]; exact (setCell_others _ _ _ _ _ (Nat.ne_of_lt HWC.out)).trans HRL.out
  clear HBX HBL HRL hf0
  have HBX := HBX0
  have HBL := HBL0
  have HRL := HRL0
  clear HBX0 HBL0 HRL0
  obtain ⟨k2, hk2⟩ : ∃ j, j = k + 2 := ⟨_, rfl⟩
  have ek2 : (k : Int) + 2 = (k2 : Int) := by omega
  have HK2 := hide hk2
  clear hk2
  go_wp2_with fail
  clear hci hfz hx0
  refine (HNM.out _ k2 2 HBL.out (by have := HKL.out; have := HK2.out; omega) (by omega) (by omega)).mono ?_
  rintro e y1 ⟨rfl, rfl⟩
  obtain ⟨f1, hf1⟩ : ∃ f, f = fld d k2 2 := ⟨_, rfl⟩
  rw [← hf1]
  have HF1 : Hid (f1 = fld d (k + 2) 2) := by show _ = _; rw [hf1, HK2.out]
  have hci := (box10 HBX.out).2.1
  have hfz := box_free HBX.out
  obtain ⟨x1, hx1⟩ : ∃ x, y1.setCell ⟨c, 1, none⟩ (.int .i64 f1) = x := ⟨_, rfl⟩
  have HBX1 : Hid (x1.heap[c]? = some (.cells #[.int .i64 f0, .int .i64 f1, .int .i64 0, .int .i64 0, .int .i64 0, .int .u32 0, .int .i64 0, .int .i64 0, .string ⟨#[]⟩, .string ⟨#[]⟩] 24 (0, 0))) := by rw [← hx1]; exact (set10 HBX.out).2.1 _
  have HBL1 : Hid (Below w.heap.size w x1) := by rw [← hx1]; exact HBL.out.setCell (p := ⟨c, 1, none⟩) (Nat.le_of_lt HWC.out) _
  have HRL1 : Hid (x1.heap[w.heap.size]? = some (.cells #[.int .i64 0, .int .i64 0, .int .i64 0, .int .i64 0, .int .i64 0, .int .u32 0, .int .i64 0, .int .i64 0, .string ⟨#[]⟩, .string ⟨#[]⟩] 24 (0, 0))) := by rw [← hx1]; exact (setCell_others _ _ _ _ _ (Nat.ne_of_lt HWC.out)).trans HRL.out
  clear HBX HBL HRL hf1 ek2
  have HBX := HBX1
  have HBL := HBL1
  have HRL := HRL1
  clear HBX1 HBL1 HRL1
  obtain ⟨k4, hk4⟩ : ∃ j, j = k + 4 := ⟨_, rfl⟩
  have ek4 : (k : Int) + 4 = (k4 : Int) := by omega
  have HK4 := hide hk4
  clear hk4
  go_wp2_with fail
  clear hci hfz hx1
  refine (HNM.out _ k4 2 HBL.out (by have := HKL.out; have := HK4.out; omega) (by omega) (by omega)).mono ?_
  rintro e y2 ⟨rfl, rfl⟩
  obtain ⟨f2, hf2⟩ : ∃ f, f = fld d k4 2 := ⟨_, rfl⟩
  rw [← hf2]
  have HF2 : Hid (f2 = fld d (k + 4) 2) := by show _ = _; rw [hf2, HK4.out]
  have hci := (box10 HBX.out).2.2.1
  have hfz := box_free HBX.out
  obtain ⟨x2, hx2⟩ : ∃ x, y2.setCell ⟨c, 2, none⟩ (.int .i64 f2) = x := ⟨_, rfl⟩
  have HBX2 : Hid (x2.heap[c]? = some (.cells #[.int .i64 f0, .int .i64 f1, .int .i64 f2, .int .i64 0, .int .i64 0, .int .u32 0, .int .i64 0, .int .i64 0, .string ⟨#[]⟩, .string ⟨#[]⟩] 24 (0, 0))) := by rw [← hx2]; exact (set10 HBX.out).2.2.1 _
  have HBL2 : Hid (Below w.heap.size w x2) := by rw [← hx2]; exact HBL.out.setCell (p := ⟨c, 2, none⟩) (Nat.le_of_lt HWC.out) _
  have HRL2 : Hid (x2.heap[w.heap.size]? = some (.cells #[.int .i64 0, .int .i64 0, .int .i64 0, .int .i64 0, .int .i64 0, .int .u32 0, .int .i64 0, .int .i64 0, .string ⟨#[]⟩, .string ⟨#[]⟩] 24 (0, 0))) := by rw [← hx2]; exact (setCell_others _ _ _ _ _ (Nat.ne_of_lt HWC.out)).trans HRL.out
  clear HBX HBL HRL hf2 ek4
  have HBX := HBX2
  have HBL := HBL2
  have HRL := HRL2
  clear HBX2 HBL2 HRL2
  obtain ⟨k6, hk6⟩ : ∃ j, j = k + 6 := ⟨_, rfl⟩
  have ek6 : (k : Int) + 6 = (k6 : Int) := by omega
  have HK6 := hide hk6
  clear hk6
  go_wp2_with fail
  clear hci hfz hx2
  refine (HNM.out _ k6 2 HBL.out (by have := HKL.out; have := HK6.out; omega) (by omega) (by omega)).mono ?_
  rintro e y3 ⟨rfl, rfl⟩
  obtain ⟨f3, hf3⟩ : ∃ f, f = fld d k6 2 := ⟨_, rfl⟩
  rw [← hf3]
  have HF3 : Hid (f3 = fld d (k + 6) 2) := by show _ = _; rw [hf3, HK6.out]
  have hci := (box10 HBX.out).2.2.2.1
  have hfz := box_free HBX.out
  obtain ⟨x3, hx3⟩ : ∃ x, y3.setCell ⟨c, 3, none⟩ (.int .i64 f3) = x := ⟨_, rfl⟩
  have HBX3 : Hid (x3.heap[c]? = some (.cells #[.int .i64 f0, .int .i64 f1, .int .i64 f2, .int .i64 f3, .int .i64 0, .int .u32 0, .int .i64 0, .int .i64 0, .string ⟨#[]⟩, .string ⟨#[]⟩] 24 (0, 0))) := by rw [← hx3]; exact (set10 HBX.out).2.2.2.1 _
  have HBL3 : Hid (Below w.heap.size w x3) := by rw [← hx3]; exact HBL.out.setCell (p := ⟨c, 3, none⟩) (Nat.le_of_lt HWC.out) _
  have HRL3 : Hid (x3.heap[w.heap.size]? = some (.cells #[.int .i64 0, .int .i64 0, .int .i64 0, .int .i64 0, .int .i64 0, .int .u32 0, .int .i64 0, .int .i64 0, .string ⟨#[]⟩, .string ⟨#[]⟩] 24 (0, 0))) := by rw [← hx3]; exact (setCell_others _ _ _ _ _ (Nat.ne_of_lt HWC.out)).trans HRL.out
  clear HBX HBL HRL hf3 ek6
  have HBX := HBX3
  have HBL := HBL3
  have HRL := HRL3
  clear HBX3 HBL3 HRL3
  obtain ⟨k8, hk8⟩ : ∃ j, j = k + 8 := ⟨_, rfl⟩
  have ek8 : (k : Int) + 8 = (k8 : Int) := by omega
  have HK8 := hide hk8
  clear hk8
  go_wp2_with fail
  clear hci hfz hx3
  refine (HNM.out _ k8 2 HBL.out (by have := HKL.out; have := HK8.out; omega) (by omega) (by omega)).mono ?_
  rintro e y4 ⟨rfl, rfl⟩
  obtain ⟨f4, hf4⟩ : ∃ f, f = fld d k8 2 := ⟨_, rfl⟩
  rw [← hf4]
  have HF4 : Hid (f4 = fld d (k + 8) 2) := by show _ = _; rw [hf4, HK8.out]
  have hci := (box10 HBX.out).2.2.2.2.1
  have hfz := box_free HBX.out
  obtain ⟨x4, hx4⟩ : ∃ x, y4.setCell ⟨c, 4, none⟩ (.int .i64 f4) = x := ⟨_, rfl⟩
  have HBX4 : Hid (x4.heap[c]? = some (.cells #[.int .i64 f0, .int .i64 f1, .int .i64 f2, .int .i64 f3, .int .i64 f4, .int .u32 0, .int .i64 0, .int .i64 0, .string ⟨#[]⟩, .string ⟨#[]⟩] 24 (0, 0))) := by rw [← hx4]; exact (set10 HBX.out).2.2.2.2.1 _
  have HBL4 : Hid (Below w.heap.size w x4) := by rw [← hx4]; exact HBL.out.setCell (p := ⟨c, 4, none⟩) (Nat.le_of_lt HWC.out) _
  have HRL4 : Hid (x4.heap[w.heap.size]? = some (.cells #[.int .i64 0, .int .i64 0, .int .i64 0, .int .i64 0, .int .i64 0, .int .u32 0, .int .i64 0, .int .i64 0, .string ⟨#[]⟩, .string ⟨#[]⟩] 24 (0, 0))) := by rw [← hx4]; exact (setCell_others _ _ _ _ _ (Nat.ne_of_lt HWC.out)).trans HRL.out
  clear HBX HBL HRL hf4 ek8
  have HBX := HBX4
  have HBL := HBL4
  have HRL := HRL4
  clear HBX4 HBL4 HRL4
  obtain ⟨k10, hk10⟩ : ∃ j, j = k + 10 := ⟨_, rfl⟩
  have ek10 : (k : Int) + 10 = (k10 : Int) := by omega
  have HK10 := hide hk10
  clear hk10
  go_wp2_with fail
  clear hci hfz hx4
  refine (HNM.out _ k10 4 HBL.out (by have := HKL.out; have := HK10.out; omega) (by omega) (by omega)).mono ?_
  rintro e y5 ⟨rfl, rfl⟩
  obtain ⟨f5, hf5⟩ : ∃ f, f = fld d k10 4 := ⟨_, rfl⟩
  rw [← hf5]
  have HF5 : Hid (f5 = fld d (k + 10) 4) := by show _ = _; rw [hf5, HK10.out]
  have hw5 : IntKind.u32.wrap f5 = f5 := by have := fld4 HBy.out k10; rw [← hf5] at this; rw [IntKind.wrap_u32]; omega
  have hci := (box10 HBX.out).2.2.2.2.2.1
  have hfz := box_free HBX.out
  obtain ⟨x5, hx5⟩ : ∃ x, y5.setCell ⟨c, 5, none⟩ (.int .u32 f5) = x := ⟨_, rfl⟩
  have HBX5 : Hid (x5.heap[c]? = some (.cells #[.int .i64 f0, .int .i64 f1, .int .i64 f2, .int .i64 f3, .int .i64 f4, .int .u32 f5, .int .i64 0, .int .i64 0, .string ⟨#[]⟩, .string ⟨#[]⟩] 24 (0, 0))) := by rw [← hx5]; exact (set10 HBX.out).2.2.2.2.2.1 _
  have HBL5 : Hid (Below w.heap.size w x5) := by rw [← hx5]; exact HBL.out.setCell (p := ⟨c, 5, none⟩) (Nat.le_of_lt HWC.out) _
  have HRL5 : Hid (x5.heap[w.heap.size]? = some (.cells #[.int .i64 0, .int .i64 0, .int .i64 0, .int .i64 0, .int .i64 0, .int .u32 0, .int .i64 0, .int .i64 0, .string ⟨#[]⟩, .string ⟨#[]⟩] 24 (0, 0))) := by rw [← hx5]; exact (setCell_others _ _ _ _ _ (Nat.ne_of_lt HWC.out)).trans HRL.out
  clear HBX HBL HRL hf5 ek10
  have HBX := HBX5
  have HBL := HBL5
  have HRL := HRL5
  clear HBX5 HBL5 HRL5
  obtain ⟨k14, hk14⟩ : ∃ j, j = k + 14 := ⟨_, rfl⟩
  have ek14 : (k : Int) + 14 = (k14 : Int) := by omega
  have HK14 := hide hk14
  clear hk14
  go_wp2_with fail
  clear hci hfz hx5
  refine (HNM.out _ k14 4 HBL.out (by have := HKL.out; have := HK14.out; omega) (by omega) (by omega)).mono ?_
  rintro e y6 ⟨rfl, rfl⟩
  obtain ⟨f6, hf6⟩ : ∃ f, f = fld d k14 4 := ⟨_, rfl⟩
  rw [← hf6]
  have HF6 : Hid (f6 = fld d (k + 14) 4) := by show _ = _; rw [hf6, HK14.out]
  have hci := (box10 HBX.out).2.2.2.2.2.2.1
  have hfz := box_free HBX.out
  obtain ⟨x6, hx6⟩ : ∃ x, y6.setCell ⟨c, 6, none⟩ (.int .i64 f6) = x := ⟨_, rfl⟩
  have HBX6 : Hid (x6.heap[c]? = some (.cells #[.int .i64 f0, .int .i64 f1, .int .i64 f2, .int .i64 f3, .int .i64 f4, .int .u32 f5, .int .i64 f6, .int .i64 0, .string ⟨#[]⟩, .string ⟨#[]⟩] 24 (0, 0))) := by rw [← hx6]; exact (set10 HBX.out).2.2.2.2.2.2.1 _
  have HBL6 : Hid (Below w.heap.size w x6) := by rw [← hx6]; exact HBL.out.setCell (p := ⟨c, 6, none⟩) (Nat.le_of_lt HWC.out) _
  have HRL6 : Hid (x6.heap[w.heap.size]? = some (.cells #[.int .i64 0, .int .i64 0, .int .i64 0, .int .i64 0, .int .i64 0, .int .u32 0, .int .i64 0, .int .i64 0, .string ⟨#[]⟩, .string ⟨#[]⟩] 24 (0, 0))) := by rw [← hx6]; exact (setCell_others _ _ _ _ _ (Nat.ne_of_lt HWC.out)).trans HRL.out
  clear HBX HBL HRL hf6 ek14
  have HBX := HBX6
  have HBL := HBL6
  have HRL := HRL6
  clear HBX6 HBL6 HRL6
  obtain ⟨k18, hk18⟩ : ∃ j, j = k + 18 := ⟨_, rfl⟩
  have ek18 : (k : Int) + 18 = (k18 : Int) := by omega
  have HK18 := hide hk18
  clear hk18
  go_wp2_with fail
  clear hci hfz hx6
  refine (HNM.out _ k18 4 HBL.out (by have := HKL.out; have := HK18.out; omega) (by omega) (by omega)).mono ?_
  rintro e y7 ⟨rfl, rfl⟩
  obtain ⟨f7, hf7⟩ : ∃ f, f = fld d k18 4 := ⟨_, rfl⟩
  rw [← hf7]
  have HF7 : Hid (f7 = fld d (k + 18) 4) := by show _ = _; rw [hf7, HK18.out]
  have hci := (box10 HBX.out).2.2.2.2.2.2.2.1
  have hfz := box_free HBX.out
  obtain ⟨x7, hx7⟩ : ∃ x, y7.setCell ⟨c, 7, none⟩ (.int .i64 f7) = x := ⟨_, rfl⟩
  have HBX7 : Hid (x7.heap[c]? = some (.cells #[.int .i64 f0, .int .i64 f1, .int .i64 f2, .int .i64 f3, .int .i64 f4, .int .u32 f5, .int .i64 f6, .int .i64 f7, .string ⟨#[]⟩, .string ⟨#[]⟩] 24 (0, 0))) := by rw [← hx7]; exact (set10 HBX.out).2.2.2.2.2.2.2.1 _
  have HBL7 : Hid (Below w.heap.size w x7) := by rw [← hx7]; exact HBL.out.setCell (p := ⟨c, 7, none⟩) (Nat.le_of_lt HWC.out) _
  have HRL7 : Hid (x7.heap[w.heap.size]? = some (.cells #[.int .i64 0, .int .i64 0, .int .i64 0, .int .i64 0, .int .i64 0, .int .u32 0, .int .i64 0, .int .i64 0, .string ⟨#[]⟩, .string ⟨#[]⟩] 24 (0, 0))) := by rw [← hx7]; exact (setCell_others _ _ _ _ _ (Nat.ne_of_lt HWC.out)).trans HRL.out
  clear HBX HBL HRL hf7 ek18
  have HBX := HBX7
  have HBL := HBL7
  have HRL := HRL7
  clear HBX7 HBL7 HRL7
  obtain ⟨b0, b1, b2, b3, b4, b5, b6, b7, b8, b9⟩ := box10 HBX.out
  obtain ⟨r0, r1, r2, r3, r4, r5, r6, r7, r8, r9⟩ := box10 HRL.out
  have hfb := box_free HRL.out
  have HP := hide (put10 (x0 := .int .i64 f0) (x1 := .int .i64 f1) (x2 := .int .i64 f2) (x3 := .int .i64 f3) (x4 := .int .i64 f4) (x5 := .int .u32 f5) (x6 := .int .i64 f6) (x7 := .int .i64 f7) (x8 := .string ⟨#[]⟩) (x9 := .string ⟨#[]⟩) HRL.out)
  have HPB := hide (put10_below (x0 := .int .i64 f0) (x1 := .int .i64 f1) (x2 := .int .i64 f2) (x3 := .int .i64 f3) (x4 := .int .i64 f4) (x5 := .int .u32 f5) (x6 := .int .i64 f6) (x7 := .int .i64 f7) (x8 := .string ⟨#[]⟩) (x9 := .string ⟨#[]⟩) HBL.out (Nat.le_refl _))
  have HVV : Hid (RV = .agg #[.int .i64 f0, .int .i64 f1, .int .i64 f2, .int .i64 f3, .int .i64 f4, .int .u32 f5, .int .i64 f6, .int .i64 f7, .string ⟨#[]⟩, .string ⟨#[]⟩]) := by
    show _ = _
    rw [HRV.out, HF0.out, HF1.out, HF2.out, HF3.out, HF4.out, HF5.out, HF6.out, HF7.out]
    rfl
  go_wp2
  obtain ⟨z0, z1, z2, z3, z4, z5, z6, z7, z8, z9⟩ := box10 HP.out
  refine bodyPost_ret (v := .agg #[.int .i64 f0, .int .i64 f1, .int .i64 f2, .int .i64 f3, .int .i64 f4, .int .u32 f5, .int .i64 f6, .int .i64 f7, .string ⟨#[]⟩, .string ⟨#[]⟩]) (by simp [results, Try.results35, go_sem, z0, z1, z2, z3, z4, z5, z6, z7, z8, z9]) rfl ?_
  rw [HVV.out]
  exact ⟨rfl, HPB.out⟩
end Go.Proofs.Ytjjepgkcgbbmhac

