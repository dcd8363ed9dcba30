import Derived.Test.YtjjepgkcgbbmhacGVcb
namespace Go.Proofs.Ytjjepgkcgbbmhac
open Go.RowKit Go.Maps
set_option maxRecDepth 20000
set_option linter.unusedVariables false
set_option linter.unusedSimpArgs false

set_option maxHeartbeats 16000000 in
theorem vgetCentral_short (v : Value) (d : List Int) (at' : Int) (w : World) (h : SB w v d) (hB : Byt d) (h64 : Ok64 at') (hd : d.length ≤ 140737488355328) (hE : ceE d at' = 122 ∧ beE d at' 46 33639248 = 0) :
    Calls Try.prog 10 #[v, .int .i64 at'] w fun e w' => e = .returned (.tuple #[(ceA d at').v, .int .i64 (ceP d at'), .int .i64 (ceE d at')]) ∧ Below w.heap.size w w' := by
  obtain ⟨ao, cap, rfl, q1, q2, q3⟩ := h.open11
  have HD := hide hd
  have HBy := hide hB
  have HS := hide h
  obtain ⟨wb, hwb⟩ : ∃ wb, w.alloc (.cells #[.int .i64 0, .int .i64 0, .int .i64 0, .int .i64 0, .int .i64 0, .int .u32 0, .int .i64 0, .int .i64 0, .string ⟨#[]⟩, .string ⟨#[]⟩, .int .i64 0, .int .i64 0, .int .i64 0, .int .i64 0, .int .i64 0, .string ⟨#[]⟩] 26) = wb := ⟨_, rfl⟩
  have HB : Hid (Below w.heap.size w wb) := by rw [← hwb]; exact (Below.refl _ _).alloc (Nat.le_refl _) _
  have HRB : Hid (wb.heap[w.heap.size]? = some (.cells #[.int .i64 0, .int .i64 0, .int .i64 0, .int .i64 0, .int .i64 0, .int .u32 0, .int .i64 0, .int .i64 0, .string ⟨#[]⟩, .string ⟨#[]⟩, .int .i64 0, .int .i64 0, .int .i64 0, .int .i64 0, .int .i64 0, .string ⟨#[]⟩] 26 (0, 0))) := by rw [← hwb]; exact heap_alloc_new w _
  have HBE := hide (vbegins_any _ d at' 46 33639248 wb (SB.below h HB.out) hB h64 hd (by omega) (by omega))
  obtain ⟨u0, u1⟩ := h64
  clear h q3 hB hd
  have hne : beE d at' 46 33639248 = 0 := hE.2
  obtain ⟨k, rfl, hk, hsig⟩ := beE_ok hne
  rw [hne] at HBE
  have HH0 := hide hne
  have HEE := hide hE
  have HNM : Hid (∀ (W : World) (p n : Nat), Below w.heap.size w W → p + n ≤ d.length → n ≤ 4 → 1 ≤ n → Calls Try.prog 34 #[.slice ao d.length cap, .int .i64 (p : Int), .int .i64 (n : Int)] W fun e w' => e = .returned (.int .i64 (fld d p n)) ∧ w' = W) := fun W p n hb h1 h2 h3 => vnumber_any _ d p n W (SB.below HS.out hb) HBy.out h1 h2 h3 HD.out
  have HKL := hide hk
  obtain ⟨LV, hLV⟩ : ∃ V, V = rdG d (k + 6) := ⟨_, rfl⟩
  have HLV : Hid (rdG d (k + 6) = LV) := hLV.symm
  obtain ⟨e0, e1, e2, e3, e4, e5, e6, e7, s8, s9⟩ := LV
  have HS8 : Hid (s8 = ⟨#[]⟩ ∧ s9 = ⟨#[]⟩) := by
    have h1 := congrArg Loc.name hLV
    have h2 := congrArg Loc.extra hLV
    exact ⟨h1, h2⟩
  obtain ⟨rfl, rfl⟩ := HS8.out
  have hkd : d.length ≤ 140737488355328 := HD.out
  obtain ⟨c, hc⟩ : ∃ c, wb.heap.size = c := ⟨_, rfl⟩
  obtain ⟨w2, hw2⟩ : ∃ w2, wb.alloc (.cells #[.int .i64 0, .int .i64 0, .int .i64 0, .int .i64 0, .int .i64 0, .int .u32 0, .int .i64 0, .int .i64 0, .string ⟨#[]⟩, .string ⟨#[]⟩, .int .i64 0, .int .i64 0, .int .i64 0, .int .i64 0, .int .i64 0, .string ⟨#[]⟩] 26) = w2 := ⟨_, rfl⟩
  have HBX : Hid (w2.heap[c]? = some (.cells #[.int .i64 0, .int .i64 0, .int .i64 0, .int .i64 0, .int .i64 0, .int .u32 0, .int .i64 0, .int .i64 0, .string ⟨#[]⟩, .string ⟨#[]⟩, .int .i64 0, .int .i64 0, .int .i64 0, .int .i64 0, .int .i64 0, .string ⟨#[]⟩] 26 (0, 0))) := by rw [← hw2, ← hc]; exact heap_alloc_new _ _
  have HBL : Hid (Below w.heap.size w w2) := by rw [← hw2]; exact HB.out.alloc HB.out.size _
  have HRL : Hid (w2.heap[w.heap.size]? = some (.cells #[.int .i64 0, .int .i64 0, .int .i64 0, .int .i64 0, .int .i64 0, .int .u32 0, .int .i64 0, .int .i64 0, .string ⟨#[]⟩, .string ⟨#[]⟩, .int .i64 0, .int .i64 0, .int .i64 0, .int .i64 0, .int .i64 0, .string ⟨#[]⟩] 26 (0, 0))) := by rw [← hw2]; exact (Below.heap_alloc _ _ _ (Array.getElem?_eq_some_iff.1 HRB.out).1).trans HRB.out
  have HWC : Hid (w.heap.size < c) := by rw [← hc]; exact (Array.getElem?_eq_some_iff.1 HRB.out).1
  clear hne hsig hLV hE HRB HB
  go_enter Try.func10, Try.ntmps10
  go_wp2_with fail
  refine HBE.out.mono ?_
  rintro e w1 ⟨rfl, rfl⟩
  obtain ⟨k4, hk4⟩ : ∃ j, j = k + 4 := ⟨_, rfl⟩
  have ek4 : (k : Int) + 4 = (k4 : Int) := by omega
  have HK4 := hide hk4
  clear hk4
  go_wp2_with fail
  clear hwb hw2
  refine (HNM.out _ k4 2 HBL.out (by have := HKL.out; have := HK4.out; omega) (by omega) (by omega)).mono ?_
  rintro e y0 ⟨rfl, rfl⟩
  obtain ⟨f0, hf0⟩ : ∃ f, f = fld d k4 2 := ⟨_, rfl⟩
  rw [← hf0]
  have HF0 : Hid (f0 = fld d (k + 4) 2) := by show _ = _; rw [hf0, HK4.out]
  have hci := (box16 HBX.out).2.2.2.2.2.2.2.2.2.2.1
  have hfz := box_free HBX.out
  obtain ⟨x0, hx0⟩ : ∃ x, y0.setCell ⟨c, 10, none⟩ (.int .i64 f0) = x := ⟨_, rfl⟩
  have HBX0 : Hid (x0.heap[c]? = some (.cells #[.int .i64 0, .int .i64 0, .int .i64 0, .int .i64 0, .int .i64 0, .int .u32 0, .int .i64 0, .int .i64 0, .string ⟨#[]⟩, .string ⟨#[]⟩, .int .i64 f0, .int .i64 0, .int .i64 0, .int .i64 0, .int .i64 0, .string ⟨#[]⟩] 26 (0, 0))) := by rw [← hx0]; exact (set16 HBX.out).2.2.2.2.2.2.2.2.2.2.1 _
  have HBL0 : Hid (Below w.heap.size w x0) := by rw [← hx0]; exact HBL.out.setCell (p := ⟨c, 10, none⟩) (Nat.le_of_lt HWC.out) _
  have HRL0 : Hid (x0.heap[w.heap.size]? = some (.cells #[.int .i64 0, .int .i64 0, .int .i64 0, .int .i64 0, .int .i64 0, .int .u32 0, .int .i64 0, .int .i64 0, .string ⟨#[]⟩, .string ⟨#[]⟩, .int .i64 0, .int .i64 0, .int .i64 0, .int .i64 0, .int .i64 0, .string ⟨#[]⟩] 26 (0, 0))) := by rw [← hx0]; exact (setCell_others _ _ _ _ _ (Nat.ne_of_lt HWC.out)).trans HRL.out
  clear HBX HBL HRL hf0 ek4
  have HBX := HBX0
  have HBL := HBL0
  have HRL := HRL0
  clear HBX0 HBL0 HRL0
  obtain ⟨k6, hk6⟩ : ∃ j, j = k + 6 := ⟨_, rfl⟩
  have ek6 : (k : Int) + 6 = (k6 : Int) := by omega
  have HK6 := hide hk6
  clear hk6
  have HRD := hide (vread_any _ d k6 x0 (SB.below HS.out HBL.out) HBy.out (by have := HKL.out; have := HK6.out; omega) HD.out)
  rw [HK6.out, HLV.out] at HRD
  simp only [Loc.v, Loc.cs] at HRD
  rw [← HK6.out] at HRD
  go_wp2_with fail
  clear hci hfz hx0
  refine HRD.out.mono ?_
  rintro e y1 ⟨rfl, hb1⟩
  have hbx : y1.heap[c]? = some (.cells #[.int .i64 0, .int .i64 0, .int .i64 0, .int .i64 0, .int .i64 0, .int .u32 0, .int .i64 0, .int .i64 0, .string ⟨#[]⟩, .string ⟨#[]⟩, .int .i64 f0, .int .i64 0, .int .i64 0, .int .i64 0, .int .i64 0, .string ⟨#[]⟩] 26 (0, 0)) := (hb1.block _ (Array.getElem?_eq_some_iff.1 HBX.out).1).trans HBX.out
  have hrl : y1.heap[w.heap.size]? = some (.cells #[.int .i64 0, .int .i64 0, .int .i64 0, .int .i64 0, .int .i64 0, .int .u32 0, .int .i64 0, .int .i64 0, .string ⟨#[]⟩, .string ⟨#[]⟩, .int .i64 0, .int .i64 0, .int .i64 0, .int .i64 0, .int .i64 0, .string ⟨#[]⟩] 26 (0, 0)) := (hb1.block _ (Array.getElem?_eq_some_iff.1 HRL.out).1).trans HRL.out
  have hbl : Below w.heap.size w y1 := HBL.out.trans (hb1.mono HBL.out.size)
  have HBX1 := hide (putl16 (x0 := .int .i64 e0) (x1 := .int .i64 e1) (x2 := .int .i64 e2) (x3 := .int .i64 e3) (x4 := .int .i64 e4) (x5 := .int .u32 e5) (x6 := .int .i64 e6) (x7 := .int .i64 e7) (x8 := .string ⟨#[]⟩) (x9 := .string ⟨#[]⟩) hbx)
  have HBL1 := hide (putl_below (x0 := .int .i64 e0) (x1 := .int .i64 e1) (x2 := .int .i64 e2) (x3 := .int .i64 e3) (x4 := .int .i64 e4) (x5 := .int .u32 e5) (x6 := .int .i64 e6) (x7 := .int .i64 e7) (x8 := .string ⟨#[]⟩) (x9 := .string ⟨#[]⟩) hbl (Nat.le_of_lt HWC.out))
  have HRL1 := hide (putl_other (x0 := .int .i64 e0) (x1 := .int .i64 e1) (x2 := .int .i64 e2) (x3 := .int .i64 e3) (x4 := .int .i64 e4) (x5 := .int .u32 e5) (x6 := .int .i64 e6) (x7 := .int .i64 e7) (x8 := .string ⟨#[]⟩) (x9 := .string ⟨#[]⟩) hrl (Nat.ne_of_lt HWC.out))
  obtain ⟨c0, c1, c2, c3, c4, c5, c6, c7, c8, c9, c10, c11, c12, c13, c14, c15⟩ := box16 hbx
  have hfz := box_free hbx
  clear HBX HBL HRL hb1 hbx hrl hbl HRD ek6
  obtain ⟨k28, hk28⟩ : ∃ j, j = k + 28 := ⟨_, rfl⟩
  have ek28 : (k : Int) + 28 = (k28 : Int) := by omega
  have HK28 := hide hk28
  clear hk28
  go_wp2_with fail
  have HBX := HBX1
  have HBL := HBL1
  have HRL := HRL1
  clear HBX1 HBL1 HRL1 c0 c1 c2 c3 c4 c5 c6 c7 c8 c9 c10 c11 c12 c13 c14 c15 hfz
  refine (HNM.out _ k28 2 HBL.out (by have := HKL.out; have := HK28.out; omega) (by omega) (by omega)).mono ?_
  rintro e y2 ⟨rfl, hy2⟩
  rw [← hy2] at HBX HBL HRL
  clear hy2
  have hnb := fld2 HBy.out k28
  obtain ⟨n, hn⟩ : ∃ n : Nat, fld d k28 2 = (n : Int) := ⟨(fld d k28 2).toNat, by omega⟩
  rw [hn]
  have HN : Hid (ceN d k = n) := by show _ = _; unfold ceN; rw [← HK28.out, hn]; rfl
  have hn1 : n ≤ 65535 := by omega
  clear hn hnb ek28
  obtain ⟨k30, hk30⟩ : ∃ j, j = k + 30 := ⟨_, rfl⟩
  have ek30 : (k : Int) + 30 = (k30 : Int) := by omega
  have HK30 := hide hk30
  clear hk30
  go_wp2_with fail
  refine (HNM.out _ k30 2 HBL.out (by have := HKL.out; have := HK30.out; omega) (by omega) (by omega)).mono ?_
  rintro e y3 ⟨rfl, rfl⟩
  have hnb := fld2 HBy.out k30
  obtain ⟨x, hx'⟩ : ∃ n : Nat, fld d k30 2 = (n : Int) := ⟨(fld d k30 2).toNat, by omega⟩
  rw [hx']
  have HNX : Hid (ceX d k = x) := by show _ = _; unfold ceX; rw [← HK30.out, hx']; rfl
  have hx1 : x ≤ 65535 := by omega
  clear hx' hnb ek30
  obtain ⟨k32, hk32⟩ : ∃ j, j = k + 32 := ⟨_, rfl⟩
  have ek32 : (k : Int) + 32 = (k32 : Int) := by omega
  have HK32 := hide hk32
  clear hk32
  go_wp2_with fail
  refine (HNM.out _ k32 2 HBL.out (by have := HKL.out; have := HK32.out; omega) (by omega) (by omega)).mono ?_
  rintro e y4 ⟨rfl, rfl⟩
  have hnb := fld2 HBy.out k32
  obtain ⟨m, hm'⟩ : ∃ n : Nat, fld d k32 2 = (n : Int) := ⟨(fld d k32 2).toNat, by omega⟩
  rw [hm']
  have HNY : Hid (ceM d k = m) := by show _ = _; unfold ceM; rw [← HK32.out, hm']; rfl
  have hm1 : m ≤ 65535 := by omega
  clear hm' hnb ek32
  obtain ⟨k34, hk34⟩ : ∃ j, j = k + 34 := ⟨_, rfl⟩
  have ek34 : (k : Int) + 34 = (k34 : Int) := by omega
  have HK34 := hide hk34
  clear hk34
  go_wp2_with fail
  refine (HNM.out _ k34 2 HBL.out (by have := HKL.out; have := HK34.out; omega) (by omega) (by omega)).mono ?_
  rintro e y5 ⟨rfl, rfl⟩
  obtain ⟨f1, hf5⟩ : ∃ f, f = fld d k34 2 := ⟨_, rfl⟩
  rw [← hf5]
  have HF5 : Hid (f1 = fld d (k + 34) 2) := by show _ = _; rw [hf5, HK34.out]
  have hci := (box16 HBX.out).2.2.2.2.2.2.2.2.2.2.2.1
  have hfz := box_free HBX.out
  obtain ⟨x5, hx5⟩ : ∃ x, y5.setCell ⟨c, 11, none⟩ (.int .i64 f1) = x := ⟨_, rfl⟩
  have HBX5 : Hid (x5.heap[c]? = some (.cells #[.int .i64 e0, .int .i64 e1, .int .i64 e2, .int .i64 e3, .int .i64 e4, .int .u32 e5, .int .i64 e6, .int .i64 e7, .string ⟨#[]⟩, .string ⟨#[]⟩, .int .i64 f0, .int .i64 f1, .int .i64 0, .int .i64 0, .int .i64 0, .string ⟨#[]⟩] 26 (0, 0))) := by rw [← hx5]; exact (set16 HBX.out).2.2.2.2.2.2.2.2.2.2.2.1 _
  have HBL5 : Hid (Below w.heap.size w x5) := by rw [← hx5]; exact HBL.out.setCell (p := ⟨c, 11, none⟩) (Nat.le_of_lt HWC.out) _
  have HRL5 : Hid (x5.heap[w.heap.size]? = some (.cells #[.int .i64 0, .int .i64 0, .int .i64 0, .int .i64 0, .int .i64 0, .int .u32 0, .int .i64 0, .int .i64 0, .string ⟨#[]⟩, .string ⟨#[]⟩, .int .i64 0, .int .i64 0, .int .i64 0, .int .i64 0, .int .i64 0, .string ⟨#[]⟩] 26 (0, 0))) := by rw [← hx5]; exact (setCell_others _ _ _ _ _ (Nat.ne_of_lt HWC.out)).trans HRL.out
  clear HBX HBL HRL hf5 ek34
  have HBX := HBX5
  have HBL := HBL5
  have HRL := HRL5
  clear HBX5 HBL5 HRL5
  obtain ⟨k36, hk36⟩ : ∃ j, j = k + 36 := ⟨_, rfl⟩
  have ek36 : (k : Int) + 36 = (k36 : Int) := by omega
  have HK36 := hide hk36
  clear hk36
  go_wp2_with fail
  clear hci hfz hx5
  refine (HNM.out _ k36 2 HBL.out (by have := HKL.out; have := HK36.out; omega) (by omega) (by omega)).mono ?_
  rintro e y6 ⟨rfl, rfl⟩
  obtain ⟨f2, hf6⟩ : ∃ f, f = fld d k36 2 := ⟨_, rfl⟩
  rw [← hf6]
  have HF6 : Hid (f2 = fld d (k + 36) 2) := by show _ = _; rw [hf6, HK36.out]
  have hci := (box16 HBX.out).2.2.2.2.2.2.2.2.2.2.2.2.1
  have hfz := box_free HBX.out
  obtain ⟨x6, hx6⟩ : ∃ x, y6.setCell ⟨c, 12, none⟩ (.int .i64 f2) = x := ⟨_, rfl⟩
  have HBX6 : Hid (x6.heap[c]? = some (.cells #[.int .i64 e0, .int .i64 e1, .int .i64 e2, .int .i64 e3, .int .i64 e4, .int .u32 e5, .int .i64 e6, .int .i64 e7, .string ⟨#[]⟩, .string ⟨#[]⟩, .int .i64 f0, .int .i64 f1, .int .i64 f2, .int .i64 0, .int .i64 0, .string ⟨#[]⟩] 26 (0, 0))) := by rw [← hx6]; exact (set16 HBX.out).2.2.2.2.2.2.2.2.2.2.2.2.1 _
  have HBL6 : Hid (Below w.heap.size w x6) := by rw [← hx6]; exact HBL.out.setCell (p := ⟨c, 12, none⟩) (Nat.le_of_lt HWC.out) _
  have HRL6 : Hid (x6.heap[w.heap.size]? = some (.cells #[.int .i64 0, .int .i64 0, .int .i64 0, .int .i64 0, .int .i64 0, .int .u32 0, .int .i64 0, .int .i64 0, .string ⟨#[]⟩, .string ⟨#[]⟩, .int .i64 0, .int .i64 0, .int .i64 0, .int .i64 0, .int .i64 0, .string ⟨#[]⟩] 26 (0, 0))) := by rw [← hx6]; exact (setCell_others _ _ _ _ _ (Nat.ne_of_lt HWC.out)).trans HRL.out
  clear HBX HBL HRL hf6 ek36
  have HBX := HBX6
  have HBL := HBL6
  have HRL := HRL6
  clear HBX6 HBL6 HRL6
  obtain ⟨k38, hk38⟩ : ∃ j, j = k + 38 := ⟨_, rfl⟩
  have ek38 : (k : Int) + 38 = (k38 : Int) := by omega
  have HK38 := hide hk38
  clear hk38
  go_wp2_with fail
  clear hci hfz hx6
  refine (HNM.out _ k38 4 HBL.out (by have := HKL.out; have := HK38.out; omega) (by omega) (by omega)).mono ?_
  rintro e y7 ⟨rfl, rfl⟩
  obtain ⟨f3, hf7⟩ : ∃ f, f = fld d k38 4 := ⟨_, rfl⟩
  rw [← hf7]
  have HF7 : Hid (f3 = fld d (k + 38) 4) := by show _ = _; rw [hf7, HK38.out]
  have hci := (box16 HBX.out).2.2.2.2.2.2.2.2.2.2.2.2.2.1
  have hfz := box_free HBX.out
  obtain ⟨x7, hx7⟩ : ∃ x, y7.setCell ⟨c, 13, none⟩ (.int .i64 f3) = x := ⟨_, rfl⟩
  have HBX7 : Hid (x7.heap[c]? = some (.cells #[.int .i64 e0, .int .i64 e1, .int .i64 e2, .int .i64 e3, .int .i64 e4, .int .u32 e5, .int .i64 e6, .int .i64 e7, .string ⟨#[]⟩, .string ⟨#[]⟩, .int .i64 f0, .int .i64 f1, .int .i64 f2, .int .i64 f3, .int .i64 0, .string ⟨#[]⟩] 26 (0, 0))) := by rw [← hx7]; exact (set16 HBX.out).2.2.2.2.2.2.2.2.2.2.2.2.2.1 _
  have HBL7 : Hid (Below w.heap.size w x7) := by rw [← hx7]; exact HBL.out.setCell (p := ⟨c, 13, none⟩) (Nat.le_of_lt HWC.out) _
  have HRL7 : Hid (x7.heap[w.heap.size]? = some (.cells #[.int .i64 0, .int .i64 0, .int .i64 0, .int .i64 0, .int .i64 0, .int .u32 0, .int .i64 0, .int .i64 0, .string ⟨#[]⟩, .string ⟨#[]⟩, .int .i64 0, .int .i64 0, .int .i64 0, .int .i64 0, .int .i64 0, .string ⟨#[]⟩] 26 (0, 0))) := by rw [← hx7]; exact (setCell_others _ _ _ _ _ (Nat.ne_of_lt HWC.out)).trans HRL.out
  clear HBX HBL HRL hf7 ek38
  have HBX := HBX7
  have HBL := HBL7
  have HRL := HRL7
  clear HBX7 HBL7 HRL7
  obtain ⟨k42, hk42⟩ : ∃ j, j = k + 42 := ⟨_, rfl⟩
  have ek42 : (k : Int) + 42 = (k42 : Int) := by omega
  have HK42 := hide hk42
  clear hk42
  go_wp2_with fail
  clear hci hfz hx7
  refine (HNM.out _ k42 4 HBL.out (by have := HKL.out; have := HK42.out; omega) (by omega) (by omega)).mono ?_
  rintro e y8 ⟨rfl, rfl⟩
  obtain ⟨f4, hf8⟩ : ∃ f, f = fld d k42 4 := ⟨_, rfl⟩
  rw [← hf8]
  have HF8 : Hid (f4 = fld d (k + 42) 4) := by show _ = _; rw [hf8, HK42.out]
  have hci := (box16 HBX.out).2.2.2.2.2.2.2.2.2.2.2.2.2.2.1
  have hfz := box_free HBX.out
  obtain ⟨x8, hx8⟩ : ∃ x, y8.setCell ⟨c, 14, none⟩ (.int .i64 f4) = x := ⟨_, rfl⟩
  have HBX8 : Hid (x8.heap[c]? = some (.cells #[.int .i64 e0, .int .i64 e1, .int .i64 e2, .int .i64 e3, .int .i64 e4, .int .u32 e5, .int .i64 e6, .int .i64 e7, .string ⟨#[]⟩, .string ⟨#[]⟩, .int .i64 f0, .int .i64 f1, .int .i64 f2, .int .i64 f3, .int .i64 f4, .string ⟨#[]⟩] 26 (0, 0))) := by rw [← hx8]; exact (set16 HBX.out).2.2.2.2.2.2.2.2.2.2.2.2.2.2.1 _
  have HBL8 : Hid (Below w.heap.size w x8) := by rw [← hx8]; exact HBL.out.setCell (p := ⟨c, 14, none⟩) (Nat.le_of_lt HWC.out) _
  have HRL8 : Hid (x8.heap[w.heap.size]? = some (.cells #[.int .i64 0, .int .i64 0, .int .i64 0, .int .i64 0, .int .i64 0, .int .u32 0, .int .i64 0, .int .i64 0, .string ⟨#[]⟩, .string ⟨#[]⟩, .int .i64 0, .int .i64 0, .int .i64 0, .int .i64 0, .int .i64 0, .string ⟨#[]⟩] 26 (0, 0))) := by rw [← hx8]; exact (setCell_others _ _ _ _ _ (Nat.ne_of_lt HWC.out)).trans HRL.out
  clear HBX HBL HRL hf8 ek42
  have HBX := HBX8
  have HBL := HBL8
  have HRL := HRL8
  clear HBX8 HBL8 HRL8
  obtain ⟨j, hj⟩ : ∃ j, j = k + 46 := ⟨_, rfl⟩
  have HJ := hide hj
  obtain ⟨t1, ht1⟩ : ∃ t, t = n + x := ⟨_, rfl⟩
  have et1 : (n : Int) + (x : Int) = (t1 : Int) := by omega
  obtain ⟨t, ht⟩ : ∃ t, t = t1 + m := ⟨_, rfl⟩
  have et : (t1 : Int) + (m : Int) = (t : Int) := by omega
  have HT : Hid (t = n + x + m) := by show _ = _; omega
  by_cases hful : j + t ≤ d.length
  · exfalso
    have HE0 : Hid (ceE d k = 0) := by
      show _ = _
      unfold ceE
      rw [if_neg (by rw [HH0.out]; simp), if_neg]
      rw [Int.toNat_natCast, HN.out, HNX.out, HNY.out]
      have := HJ.out
      have := HT.out
      omega
    exact absurd (HE0.out.symm.trans HEE.out.1) (by omega)
  · have g1 : (d.length : Int) - (k : Int) - 46 < (t : Int) := by omega
    have HE0 : Hid (ceE d k = 122) := by
      show _ = _
      unfold ceE
      rw [if_neg (by rw [HH0.out]; simp), if_pos]
      rw [Int.toNat_natCast, HN.out, HNX.out, HNY.out]
      have := HJ.out
      have := HT.out
      omega
    have HBAD := hide (ce_bad (d := d) (at' := k) (by rw [HE0.out]; omega))
    have HP := hide (put16 (x0 := .int .i64 0) (x1 := .int .i64 0) (x2 := .int .i64 0) (x3 := .int .i64 0) (x4 := .int .i64 0) (x5 := .int .u32 0) (x6 := .int .i64 0) (x7 := .int .i64 0) (x8 := .string ⟨#[]⟩) (x9 := .string ⟨#[]⟩) (x10 := .int .i64 0) (x11 := .int .i64 0) (x12 := .int .i64 0) (x13 := .int .i64 0) (x14 := .int .i64 0) (x15 := .string ⟨#[]⟩) HRL.out)
    have HPB := hide (put16_below (x0 := .int .i64 0) (x1 := .int .i64 0) (x2 := .int .i64 0) (x3 := .int .i64 0) (x4 := .int .i64 0) (x5 := .int .u32 0) (x6 := .int .i64 0) (x7 := .int .i64 0) (x8 := .string ⟨#[]⟩) (x9 := .string ⟨#[]⟩) (x10 := .int .i64 0) (x11 := .int .i64 0) (x12 := .int .i64 0) (x13 := .int .i64 0) (x14 := .int .i64 0) (x15 := .string ⟨#[]⟩) HBL.out (Nat.le_refl _))
    obtain ⟨r0, r1, r2, r3, r4, r5, r6, r7, r8, r9, r10, r11, r12, r13, r14, r15⟩ := box16 HRL.out
    have hfb := box_free HRL.out
    clear hful ht ht1 hj
    go_wp2
    obtain ⟨z0, z1, z2, z3, z4, z5, z6, z7, z8, z9, z10, z11, z12, z13, z14, z15⟩ := box16 HP.out
    refine bodyPost_ret (v := .tuple #[.agg #[.int .i64 0, .int .i64 0, .int .i64 0, .int .i64 0, .int .i64 0, .int .u32 0, .int .i64 0, .int .i64 0, .string ⟨#[]⟩, .string ⟨#[]⟩, .int .i64 0, .int .i64 0, .int .i64 0, .int .i64 0, .int .i64 0, .string ⟨#[]⟩], .int .i64 0, .int .i64 122]) (by simp [results, Try.results10, go_sem, z0, z1, z2, z3, z4, z5, z6, z7, z8, z9, z10, z11, z12, z13, z14, z15]) rfl ?_
    rw [HBAD.out.1, HBAD.out.2, HE0.out]
    exact ⟨rfl, HPB.out⟩
end Go.Proofs.Ytjjepgkcgbbmhac

