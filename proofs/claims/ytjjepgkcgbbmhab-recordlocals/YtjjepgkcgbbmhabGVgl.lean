import Derived.Test.YtjjepgkcgbbmhabGGlo
import Derived.Test.YtjjepgkcgbbmhabGVrd
namespace Go.Proofs.Ytjjepgkcgbbmhab
open Go.RowKit Go.Maps
set_option maxRecDepth 20000
set_option linter.unusedVariables false
set_option linter.unusedSimpArgs false

set_option maxHeartbeats 8000000 in
theorem vgetLocal_any (v : Value) (d : List Int) (at' : Int) (w : World) (h : SB w v d) (hB : Byt d) (h64 : Ok64 at') (hd : d.length ≤ 140737488355328) :
    Calls Try.prog 32 #[v, .int .i64 at'] w fun e w' => e = .returned (.tuple #[(loA d at').v, .int .i64 (loP d at'), .int .i64 (loE d at')]) ∧ Below w.heap.size w w' := by
  obtain ⟨ao, cap, rfl, q1, q2, q3⟩ := h.open11
  have HD := hide hd
  have HBy := hide hB
  have HS := hide h
  obtain ⟨wb, hwb⟩ : ∃ wb, w.alloc (.cells #[.int .i64 0, .int .i64 0, .int .i64 0, .int .i64 0, .int .i64 0, .int .u32 0, .int .i64 0, .int .i64 0, .string ⟨#[]⟩, .string ⟨#[]⟩] 30) = wb := ⟨_, rfl⟩
  have HB : Hid (Below w.heap.size w wb) := by rw [← hwb]; exact (Below.refl _ _).alloc (Nat.le_refl _) _
  have HRB : Hid (wb.heap[w.heap.size]? = some (.cells #[.int .i64 0, .int .i64 0, .int .i64 0, .int .i64 0, .int .i64 0, .int .u32 0, .int .i64 0, .int .i64 0, .string ⟨#[]⟩, .string ⟨#[]⟩] 30 (0, 0))) := by rw [← hwb]; exact heap_alloc_new w _
  have HBE := hide (vbegins_any _ d at' 30 67324752 wb (SB.below h HB.out) hB h64 hd (by omega) (by omega))
  obtain ⟨u0, u1⟩ := h64
  clear h q3 hB hd
  by_cases hne : beE d at' 30 67324752 = 0
  case neg =>
    have HE : Hid (loE d at' = beE d at' 30 67324752) := if_pos hne
    have HE2 := hide (lo_bad (d := d) (at' := at') (by rw [HE.out]; exact hne))
    obtain ⟨E, hE⟩ : ∃ E, E = beE d at' 30 67324752 := ⟨_, rfl⟩
    rw [← hE] at hne HE HBE
    have hne' : (E != 0) = true := by simpa using hne
    have HP := hide (put10 (x0 := .int .i64 0) (x1 := .int .i64 0) (x2 := .int .i64 0) (x3 := .int .i64 0) (x4 := .int .i64 0) (x5 := .int .u32 0) (x6 := .int .i64 0) (x7 := .int .i64 0) (x8 := .string ⟨#[]⟩) (x9 := .string ⟨#[]⟩) HRB.out)
    have HPB := hide (put10_below (x0 := .int .i64 0) (x1 := .int .i64 0) (x2 := .int .i64 0) (x3 := .int .i64 0) (x4 := .int .i64 0) (x5 := .int .u32 0) (x6 := .int .i64 0) (x7 := .int .i64 0) (x8 := .string ⟨#[]⟩) (x9 := .string ⟨#[]⟩) HB.out (Nat.le_refl _))
    clear hne hE
    go_enter Try.func32, Try.ntmps32
    go_wp2_with fail
    refine HBE.out.mono ?_
    rintro e w1 ⟨rfl, rfl⟩
    obtain ⟨c0, c1, c2, c3, c4, c5, c6, c7, c8, c9⟩ := box10 HRB.out
    have hfz := box_free HRB.out
    clear hwb
    go_wp2
    obtain ⟨z0, z1, z2, z3, z4, z5, z6, z7, z8, z9⟩ := box10 HP.out
    refine bodyPost_ret (v := .tuple #[.agg #[.int .i64 0, .int .i64 0, .int .i64 0, .int .i64 0, .int .i64 0, .int .u32 0, .int .i64 0, .int .i64 0, .string ⟨#[]⟩, .string ⟨#[]⟩], .int .i64 0, .int .i64 E]) (by simp [results, Try.results32, go_sem, z0, z1, z2, z3, z4, z5, z6, z7, z8, z9]) rfl ?_
    rw [HE2.out.1, HE2.out.2, HE.out]
    exact ⟨rfl, HPB.out⟩
  case pos =>
  obtain ⟨k, rfl, hk, hsig⟩ := beE_ok hne
  rw [hne] at HBE
  have HH0 := hide hne
  have HNM : Hid (∀ (W : World) (p n : Nat), Below w.heap.size w W → p + n ≤ d.length → n ≤ 4 → 1 ≤ n → Calls Try.prog 54 #[.slice ao d.length cap, .int .i64 (p : Int), .int .i64 (n : Int)] W fun e w' => e = .returned (.int .i64 (fld d p n)) ∧ w' = W) := fun W p n hb h1 h2 h3 => vnumber_any _ d p n W (SB.below HS.out hb) HBy.out h1 h2 h3 HD.out
  obtain ⟨k4, hk4⟩ : ∃ j, j = k + 4 := ⟨_, rfl⟩
  have ek4 : (k : Int) + 4 = (k4 : Int) := by omega
  have HK4 := hide hk4
  have HKL := hide hk
  have HRD := hide (vread_any _ d k4 wb (SB.below HS.out HB.out) HBy.out (by omega) HD.out)
  obtain ⟨LV, hLV⟩ : ∃ V, V = rdG d k4 := ⟨_, rfl⟩
  have HLV : Hid (rdG d (k + 4) = LV) := by rw [hLV, HK4.out]; rfl
  rw [← hLV] at HRD
  obtain ⟨e0, e1, e2, e3, e4, e5, e6, e7, s8, s9⟩ := LV
  have HS8 : Hid (s8 = ⟨#[]⟩ ∧ s9 = ⟨#[]⟩) := ⟨congrArg Loc.name hLV, congrArg Loc.extra hLV⟩
  obtain ⟨rfl, rfl⟩ := HS8.out
  simp only [Loc.v, Loc.cs] at HRD
  have hkd : d.length ≤ 140737488355328 := HD.out
  clear hne hsig hk4 hLV
  go_enter Try.func32, Try.ntmps32
  go_wp2_with fail
  refine HBE.out.mono ?_
  rintro e w1 ⟨rfl, rfl⟩
  go_wp2_with fail
  clear hwb
  refine HRD.out.mono ?_
  rintro e w2 ⟨rfl, hb2⟩
  obtain ⟨c, hc⟩ : ∃ c, w2.heap.size = c := ⟨_, rfl⟩
  obtain ⟨w3, hw3⟩ : ∃ x, w2.alloc (.cells #[.int .i64 e0, .int .i64 e1, .int .i64 e2, .int .i64 e3, .int .i64 e4, .int .u32 e5, .int .i64 e6, .int .i64 e7, .string ⟨#[]⟩, .string ⟨#[]⟩] 30) = x := ⟨_, rfl⟩
  have HBX : Hid (w3.heap[c]? = some (.cells #[.int .i64 e0, .int .i64 e1, .int .i64 e2, .int .i64 e3, .int .i64 e4, .int .u32 e5, .int .i64 e6, .int .i64 e7, .string ⟨#[]⟩, .string ⟨#[]⟩] 30 (0, 0))) := by rw [← hw3, ← hc]; exact heap_alloc_new _ _
  have HBL : Hid (Below w.heap.size w w3) := by rw [← hw3]; exact (HB.out.trans (hb2.mono HB.out.size)).alloc (by have := hb2.size; have := HB.out.size; omega) _
  have HRL : Hid (w3.heap[w.heap.size]? = some (.cells #[.int .i64 0, .int .i64 0, .int .i64 0, .int .i64 0, .int .i64 0, .int .u32 0, .int .i64 0, .int .i64 0, .string ⟨#[]⟩, .string ⟨#[]⟩] 30 (0, 0))) := by
    have hlt := (Array.getElem?_eq_some_iff.1 HRB.out).1
    rw [← hw3]
    exact (Below.heap_alloc _ _ _ (Nat.lt_of_lt_of_le hlt hb2.size)).trans ((hb2.block _ hlt).trans HRB.out)
  have HWC : Hid (w.heap.size < c) := by
    have hlt := (Array.getElem?_eq_some_iff.1 HRB.out).1
    rw [← hc]; exact Nat.lt_of_lt_of_le hlt hb2.size
  have HW3 := hide hw3
  have HCC := hide hc
  obtain ⟨k26, hk26⟩ : ∃ j, j = k + 26 := ⟨_, rfl⟩
  have ek26 : (k : Int) + 26 = (k26 : Int) := by omega
  have HK26 := hide hk26
  clear hb2 hw3 hc ek4 HRD HBE hk26
  go_wp2_with fail
  rw [HW3.out, HCC.out]
  refine (HNM.out _ k26 2 HBL.out (by have := HKL.out; have := HK26.out; omega) (by omega) (by omega)).mono ?_
  rintro e y1 ⟨rfl, rfl⟩
  have hnb := fld2 HBy.out k26
  obtain ⟨n, hn⟩ : ∃ n : Nat, fld d k26 2 = (n : Int) := ⟨(fld d k26 2).toNat, by omega⟩
  rw [hn]
  have HN : Hid (loN d k = n) := by show _ = _; unfold loN; rw [← HK26.out, hn]; rfl
  have hn1 : n ≤ 65535 := by omega
  obtain ⟨k28, hk28⟩ : ∃ j, j = k + 28 := ⟨_, rfl⟩
  have ek28 : (k : Int) + 28 = (k28 : Int) := by omega
  have HK28 := hide hk28
  clear hn hnb ek26 hk28 HW3 HCC
  go_wp2_with fail
  refine (HNM.out _ k28 2 HBL.out (by have := HKL.out; have := HK28.out; omega) (by omega) (by omega)).mono ?_
  rintro e y2 ⟨rfl, rfl⟩
  have hnb := fld2 HBy.out k28
  obtain ⟨x, hx'⟩ : ∃ n : Nat, fld d k28 2 = (n : Int) := ⟨(fld d k28 2).toNat, by omega⟩
  rw [hx']
  have HNX : Hid (loX d k = x) := by show _ = _; unfold loX; rw [← HK28.out, hx']; rfl
  have hx1 : x ≤ 65535 := by omega
  clear hx' hnb ek28
  obtain ⟨j, hj⟩ : ∃ j, j = k + 30 := ⟨_, rfl⟩
  have HJ := hide hj
  obtain ⟨t, ht⟩ : ∃ t, t = n + x := ⟨_, rfl⟩
  have HT := hide ht
  have et : (n : Int) + (x : Int) = (t : Int) := by omega
  have hkj : (k : Int) + 30 ≤ (d.length : Int) := by have := HKL.out; omega
  by_cases hful : j + t ≤ d.length
  · have g1 : ¬ (d.length : Int) - (k : Int) - 30 < (t : Int) := by omega
    have HE0 : Hid (loE d k = 0) := by
      show _ = _
      unfold loE
      rw [if_neg (by rw [HH0.out]; simp), if_neg]
      rw [Int.toNat_natCast, HN.out, HNX.out]
      omega
    have HG := hide (lo_good HE0.out)
    have HPC := hide (vpiece_any _ d j n y2 (SB.below HS.out HBL.out) (by omega) HD.out)
    obtain ⟨S1, hS1⟩ : ∃ S, S = strOfNums (sub d j n) := ⟨_, rfl⟩
    rw [← hS1] at HPC
    obtain ⟨j2, hj2⟩ : ∃ j2, j2 = j + n := ⟨_, rfl⟩
    have HJ2 := hide hj2
    obtain ⟨r, hr⟩ : ∃ r, r = j2 + x := ⟨_, rfl⟩
    have HRR := hide hr
    have ej : (k : Int) + 30 = (j : Int) := by omega
    have hjd : j ≤ d.length := by omega
    have HPV : Hid (loP d k = (r : Int)) := by
      show _ = _
      rw [HG.out.2, HN.out, HNX.out]
      omega
    have hdd : j2 + x ≤ d.length := by omega
    have HDD := hide hdd
    clear hr hj2 hful ht hj hdd
    go_wp2_with fail
    refine HPC.out.mono ?_
    rintro e y3 ⟨rfl, rfl⟩
    have hci := (box10 HBX.out).2.2.2.2.2.2.2.2.1
    have hfz := box_free HBX.out
    obtain ⟨x1, hx1'⟩ : ∃ x, y3.setCell ⟨c, 8, none⟩ (.string S1) = x := ⟨_, rfl⟩
    have HBX1 : Hid (x1.heap[c]? = some (.cells #[.int .i64 e0, .int .i64 e1, .int .i64 e2, .int .i64 e3, .int .i64 e4, .int .u32 e5, .int .i64 e6, .int .i64 e7, .string S1, .string ⟨#[]⟩] 30 (0, 0))) := by rw [← hx1']; exact (set10 HBX.out).2.2.2.2.2.2.2.2.1 _
    have HBL1 : Hid (Below w.heap.size w x1) := by rw [← hx1']; exact HBL.out.setCell (p := ⟨c, 8, none⟩) (Nat.le_of_lt HWC.out) _
    have HRL1 : Hid (x1.heap[w.heap.size]? = some (.cells #[.int .i64 0, .int .i64 0, .int .i64 0, .int .i64 0, .int .i64 0, .int .u32 0, .int .i64 0, .int .i64 0, .string ⟨#[]⟩, .string ⟨#[]⟩] 30 (0, 0))) := by rw [← hx1']; exact (setCell_others _ _ _ _ _ (Nat.ne_of_lt HWC.out)).trans HRL.out
    have HPC2 := hide (vpiece_any _ d j2 x x1 (SB.below HS.out HBL1.out) HDD.out HD.out)
    obtain ⟨S2, hS2⟩ : ∃ S, S = strOfNums (sub d j2 x) := ⟨_, rfl⟩
    rw [← hS2] at HPC2
    have HAV : Hid ((loA d k).v = .agg #[.int .i64 e0, .int .i64 e1, .int .i64 e2, .int .i64 e3, .int .i64 e4, .int .u32 e5, .int .i64 e6, .int .i64 e7, .string S1, .string S2]) := by
      show _ = _
      rw [HG.out.1]
      unfold loG
      rw [HLV.out, HN.out, HNX.out, ← HJ.out, ← HJ2.out, ← hS1, ← hS2]
      rfl
    have ej2 : (j : Int) + (n : Int) = (j2 : Int) := by have := HJ2.out; omega
    have hjd2 : j2 ≤ d.length := by have := HDD.out; omega
    clear hS1 hS2 g1 et HPC HBX HBL HRL
    go_wp2_with fail
    clear hci hfz hx1'
    refine HPC2.out.mono ?_
    rintro e y4 ⟨rfl, rfl⟩
    have hci := (box10 HBX1.out).2.2.2.2.2.2.2.2.2
    have hfz := box_free HBX1.out
    obtain ⟨x2, hx2'⟩ : ∃ x, y4.setCell ⟨c, 9, none⟩ (.string S2) = x := ⟨_, rfl⟩
    have HBX2 : Hid (x2.heap[c]? = some (.cells #[.int .i64 e0, .int .i64 e1, .int .i64 e2, .int .i64 e3, .int .i64 e4, .int .u32 e5, .int .i64 e6, .int .i64 e7, .string S1, .string S2] 30 (0, 0))) := by rw [← hx2']; exact (set10 HBX1.out).2.2.2.2.2.2.2.2.2 _
    have HBL2 : Hid (Below w.heap.size w x2) := by rw [← hx2']; exact HBL1.out.setCell (p := ⟨c, 9, none⟩) (Nat.le_of_lt HWC.out) _
    have HRL2 : Hid (x2.heap[w.heap.size]? = some (.cells #[.int .i64 0, .int .i64 0, .int .i64 0, .int .i64 0, .int .i64 0, .int .u32 0, .int .i64 0, .int .i64 0, .string ⟨#[]⟩, .string ⟨#[]⟩] 30 (0, 0))) := by rw [← hx2']; exact (setCell_others _ _ _ _ _ (Nat.ne_of_lt HWC.out)).trans HRL1.out
    obtain ⟨b0, b1, b2, b3, b4, b5, b6, b7, b8, b9⟩ := box10 HBX2.out
    obtain ⟨r0, r1, r2, r3, r4, r5, r6, r7, r8, r9⟩ := box10 HRL2.out
    have hfb := box_free HRL2.out
    have HP := hide (put10 (x0 := .int .i64 e0) (x1 := .int .i64 e1) (x2 := .int .i64 e2) (x3 := .int .i64 e3) (x4 := .int .i64 e4) (x5 := .int .u32 e5) (x6 := .int .i64 e6) (x7 := .int .i64 e7) (x8 := .string S1) (x9 := .string S2) HRL2.out)
    have HPB := hide (put10_below (x0 := .int .i64 e0) (x1 := .int .i64 e1) (x2 := .int .i64 e2) (x3 := .int .i64 e3) (x4 := .int .i64 e4) (x5 := .int .u32 e5) (x6 := .int .i64 e6) (x7 := .int .i64 e7) (x8 := .string S1) (x9 := .string S2) HBL2.out (Nat.le_refl _))
    have er : (j2 : Int) + (x : Int) = (r : Int) := by have := HRR.out; omega
    have hrd : r ≤ d.length := by have := HDD.out; have := HRR.out; omega
    clear HPC2 HBX1 HBL1 HRL1
    go_wp2
    obtain ⟨z0, z1, z2, z3, z4, z5, z6, z7, z8, z9⟩ := box10 HP.out
    refine bodyPost_ret (v := .tuple #[.agg #[.int .i64 e0, .int .i64 e1, .int .i64 e2, .int .i64 e3, .int .i64 e4, .int .u32 e5, .int .i64 e6, .int .i64 e7, .string S1, .string S2], .int .i64 (r : Int), .int .i64 0]) (by simp [results, Try.results32, go_sem, z0, z1, z2, z3, z4, z5, z6, z7, z8, z9]) rfl ?_
    rw [HAV.out, HPV.out, HE0.out]
    exact ⟨rfl, HPB.out⟩
  · have g1 : (d.length : Int) - (k : Int) - 30 < (t : Int) := by omega
    have HE0 : Hid (loE d k = 122) := by
      show _ = _
      unfold loE
      rw [if_neg (by rw [HH0.out]; simp), if_pos]
      rw [Int.toNat_natCast, HN.out, HNX.out]
      omega
    have HBAD := hide (lo_bad (d := d) (at' := k) (by rw [HE0.out]; omega))
    have HP := hide (put10 (x0 := .int .i64 0) (x1 := .int .i64 0) (x2 := .int .i64 0) (x3 := .int .i64 0) (x4 := .int .i64 0) (x5 := .int .u32 0) (x6 := .int .i64 0) (x7 := .int .i64 0) (x8 := .string ⟨#[]⟩) (x9 := .string ⟨#[]⟩) HRL.out)
    have HPB := hide (put10_below (x0 := .int .i64 0) (x1 := .int .i64 0) (x2 := .int .i64 0) (x3 := .int .i64 0) (x4 := .int .i64 0) (x5 := .int .u32 0) (x6 := .int .i64 0) (x7 := .int .i64 0) (x8 := .string ⟨#[]⟩) (x9 := .string ⟨#[]⟩) HBL.out (Nat.le_refl _))
    obtain ⟨r0, r1, r2, r3, r4, r5, r6, r7, r8, r9⟩ := box10 HRL.out
    have hfb := box_free HRL.out
    clear hful ht hj
    go_wp2
    obtain ⟨z0, z1, z2, z3, z4, z5, z6, z7, z8, z9⟩ := box10 HP.out
    refine bodyPost_ret (v := .tuple #[.agg #[.int .i64 0, .int .i64 0, .int .i64 0, .int .i64 0, .int .i64 0, .int .u32 0, .int .i64 0, .int .i64 0, .string ⟨#[]⟩, .string ⟨#[]⟩], .int .i64 0, .int .i64 122]) (by simp [results, Try.results32, go_sem, z0, z1, z2, z3, z4, z5, z6, z7, z8, z9]) rfl ?_
    rw [HBAD.out.1, HBAD.out.2, HE0.out]
    exact ⟨rfl, HPB.out⟩
end Go.Proofs.Ytjjepgkcgbbmhab

