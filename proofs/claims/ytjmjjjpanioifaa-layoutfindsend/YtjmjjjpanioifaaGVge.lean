import Derived.Test.YtjmjjjpanioifaaGGen
import Derived.Test.YtjmjjjpanioifaaGVgt
namespace Go.Proofs.Ytjmjjjpanioifaa
open Go.RowKit Go.Maps
set_option maxRecDepth 20000
set_option linter.unusedVariables false
set_option linter.unusedSimpArgs false

set_option maxHeartbeats 8000000 in
theorem vgetEnd_any (v : Value) (d : List Int) (at' : Int) (w : World) (h : SB w v d) (hB : Byt d) (h64 : Ok64 at') (hd : d.length ≤ 140737488355328) :
    Calls Try.prog 32 #[v, .int .i64 at'] w fun e w' => e = .returned (.tuple #[(enA d at').v, .int .i64 (enP d at'), .int .i64 (enE d at')]) ∧ Below w.heap.size w w' := by
  obtain ⟨ao, cap, rfl, q1, q2, q3⟩ := h.open11
  have HD := hide hd
  have HBy := hide hB
  have HS := hide h
  obtain ⟨wb, hwb⟩ : ∃ wb, w.alloc (.cells #[.int .i64 0, .int .i64 0, .int .i64 0, .int .i64 0, .int .i64 0, .int .i64 0, .string ⟨#[]⟩] 68) = wb := ⟨_, rfl⟩
  have HB : Hid (Below w.heap.size w wb) := by rw [← hwb]; exact (Below.refl _ _).alloc (Nat.le_refl _) _
  have HRB : Hid (wb.heap[w.heap.size]? = some (.cells #[.int .i64 0, .int .i64 0, .int .i64 0, .int .i64 0, .int .i64 0, .int .i64 0, .string ⟨#[]⟩] 68 (0, 0))) := by rw [← hwb]; exact heap_alloc_new w _
  have HBE := hide (vbegins_any _ d at' 22 101010256 wb (SB.below h HB.out) hB h64 hd (by omega) (by omega))
  obtain ⟨u0, u1⟩ := h64
  clear h q3 hB hd
  by_cases hne : beE d at' 22 101010256 = 0
  case neg =>
    have HE : Hid (enE d at' = beE d at' 22 101010256) := if_pos hne
    have HE2 := hide (en_bad (d := d) (at' := at') (by rw [HE.out]; exact hne))
    obtain ⟨E, hE⟩ : ∃ E, E = beE d at' 22 101010256 := ⟨_, rfl⟩
    rw [← hE] at hne HE HBE
    have hne' : (E != 0) = true := by simpa using hne
    have HP := hide (put7 (x0 := .int .i64 0) (x1 := .int .i64 0) (x2 := .int .i64 0) (x3 := .int .i64 0) (x4 := .int .i64 0) (x5 := .int .i64 0) (x6 := .string ⟨#[]⟩) HRB.out)
    have HPB := hide (put7_below (x0 := .int .i64 0) (x1 := .int .i64 0) (x2 := .int .i64 0) (x3 := .int .i64 0) (x4 := .int .i64 0) (x5 := .int .i64 0) (x6 := .string ⟨#[]⟩) HB.out (Nat.le_refl _))
    clear hne hE
    go_enter Try.func32, Try.ntmps32
    go_wp2_with fail
    refine HBE.out.mono ?_
    rintro e w1 ⟨rfl, rfl⟩
    obtain ⟨c0, c1, c2, c3, c4, c5, c6⟩ := box7 HRB.out
    have hfz := box_free HRB.out
    clear hwb
    go_wp2
    obtain ⟨z0, z1, z2, z3, z4, z5, z6⟩ := box7 HP.out
    refine bodyPost_ret (v := .tuple #[.agg #[.int .i64 0, .int .i64 0, .int .i64 0, .int .i64 0, .int .i64 0, .int .i64 0, .string ⟨#[]⟩], .int .i64 0, .int .i64 E]) (by simp [results, Try.results32, go_sem, z0, z1, z2, z3, z4, z5, z6]) rfl ?_
    rw [HE2.out.1, HE2.out.2, HE.out]
    exact ⟨rfl, HPB.out⟩
  case pos =>
  obtain ⟨k, rfl, hk, hsig⟩ := beE_ok hne
  rw [hne] at HBE
  have HH0 := hide hne
  obtain ⟨c, hc⟩ : ∃ c, wb.heap.size = c := ⟨_, rfl⟩
  obtain ⟨w2, hw2⟩ : ∃ w2, wb.alloc (.cells #[.int .i64 0, .int .i64 0, .int .i64 0, .int .i64 0, .int .i64 0, .int .i64 0, .string ⟨#[]⟩] 68) = w2 := ⟨_, rfl⟩
  have HBX : Hid (w2.heap[c]? = some (.cells #[.int .i64 0, .int .i64 0, .int .i64 0, .int .i64 0, .int .i64 0, .int .i64 0, .string ⟨#[]⟩] 68 (0, 0))) := by rw [← hw2, ← hc]; exact heap_alloc_new _ _
  have HBL : Hid (Below w.heap.size w w2) := by rw [← hw2]; exact HB.out.alloc HB.out.size _
  have HRL : Hid (w2.heap[w.heap.size]? = some (.cells #[.int .i64 0, .int .i64 0, .int .i64 0, .int .i64 0, .int .i64 0, .int .i64 0, .string ⟨#[]⟩] 68 (0, 0))) := by rw [← hw2]; exact (Below.heap_alloc _ _ _ (Array.getElem?_eq_some_iff.1 HRB.out).1).trans HRB.out
  have HWC : Hid (w.heap.size < c) := by rw [← hc]; exact (Array.getElem?_eq_some_iff.1 HRB.out).1
  have HNM : Hid (∀ (W : World) (p n : Nat), Below w.heap.size w W → p + n ≤ d.length → n ≤ 4 → 1 ≤ n → Calls Try.prog 42 #[.slice ao d.length cap, .int .i64 (p : Int), .int .i64 (n : Int)] W fun e w' => e = .returned (.int .i64 (fld d p n)) ∧ w' = W) := fun W p n hb h1 h2 h3 => vnumber_any _ d p n W (SB.below HS.out hb) HBy.out h1 h2 h3 HD.out
  obtain ⟨k4, hk4⟩ : ∃ j, j = k + 4 := ⟨_, rfl⟩
  have ek4 : (k : Int) + 4 = (k4 : Int) := by omega
  have hd4 : k4 + 2 ≤ d.length := by omega
  have HK4 := hide hk4
  obtain ⟨k6, hk6⟩ : ∃ j, j = k + 6 := ⟨_, rfl⟩
  have ek6 : (k : Int) + 6 = (k6 : Int) := by omega
  have hd6 : k6 + 2 ≤ d.length := by omega
  have HK6 := hide hk6
  obtain ⟨k8, hk8⟩ : ∃ j, j = k + 8 := ⟨_, rfl⟩
  have ek8 : (k : Int) + 8 = (k8 : Int) := by omega
  have hd8 : k8 + 2 ≤ d.length := by omega
  have HK8 := hide hk8
  obtain ⟨k10, hk10⟩ : ∃ j, j = k + 10 := ⟨_, rfl⟩
  have ek10 : (k : Int) + 10 = (k10 : Int) := by omega
  have hd10 : k10 + 2 ≤ d.length := by omega
  have HK10 := hide hk10
  obtain ⟨k12, hk12⟩ : ∃ j, j = k + 12 := ⟨_, rfl⟩
  have ek12 : (k : Int) + 12 = (k12 : Int) := by omega
  have hd12 : k12 + 4 ≤ d.length := by omega
  have HK12 := hide hk12
  obtain ⟨k16, hk16⟩ : ∃ j, j = k + 16 := ⟨_, rfl⟩
  have ek16 : (k : Int) + 16 = (k16 : Int) := by omega
  have hd16 : k16 + 4 ≤ d.length := by omega
  have HK16 := hide hk16
  obtain ⟨k20, hk20⟩ : ∃ j, j = k + 20 := ⟨_, rfl⟩
  have ek20 : (k : Int) + 20 = (k20 : Int) := by omega
  have hd20 : k20 + 2 ≤ d.length := by omega
  have HK20 := hide hk20
  obtain ⟨k22, hk22⟩ : ∃ j, j = k + 22 := ⟨_, rfl⟩
  have ek22 : (k : Int) + 22 = (k22 : Int) := by omega
  have hd22 : k22 + 0 ≤ d.length := by omega
  have HK22 := hide hk22
  have hkd : d.length ≤ 140737488355328 := HD.out
  clear hne hsig hk4 hk6 hk8 hk10 hk12 hk16 hk20 hk22 HRB HB
  go_enter Try.func32, Try.ntmps32
  go_wp2_with fail
  refine HBE.out.mono ?_
  rintro e w1 ⟨rfl, rfl⟩
  go_wp2_with fail
  clear hwb hw2
  refine (HNM.out _ k4 2 HBL.out hd4 (by omega) (by omega)).mono ?_
  rintro e y0 ⟨rfl, rfl⟩
  obtain ⟨f0, hf0⟩ : ∃ f, f = fld d k4 2 := ⟨_, rfl⟩
  rw [← hf0]
  have HF0 : Hid (f0 = fld d (k + 4) 2) := by show _ = _; rw [hf0, HK4.out]
  have hci := (box7 HBX.out).1
  have hfz := box_free HBX.out
  obtain ⟨x0, hx0⟩ : ∃ x, y0.setCell ⟨c, 0, none⟩ (.int .i64 f0) = x := ⟨_, rfl⟩
  have HBX0 : Hid (x0.heap[c]? = some (.cells #[.int .i64 f0, .int .i64 0, .int .i64 0, .int .i64 0, .int .i64 0, .int .i64 0, .string ⟨#[]⟩] 68 (0, 0))) := by rw [← hx0]; exact (set7 HBX.out).1 _
  have HBL0 : Hid (Below w.heap.size w x0) := by rw [← hx0]; exact HBL.out.setCell (p := ⟨c, 0, none⟩) (Nat.le_of_lt HWC.out) _
  have HRL0 : Hid (x0.heap[w.heap.size]? = some (.cells #[.int .i64 0, .int .i64 0, .int .i64 0, .int .i64 0, .int .i64 0, .int .i64 0, .string ⟨#[]⟩] 68 (0, 0))) := by rw [← hx0]; exact (setCell_others _ _ _ _ _ (Nat.ne_of_lt HWC.out)).trans HRL.out
  clear HBX HBL HRL hf0
  have HBX := HBX0
  have HBL := HBL0
  have HRL := HRL0
  clear HBX0 HBL0 HRL0
  go_wp2_with fail
  clear hci hfz hx0
  refine (HNM.out _ k6 2 HBL.out hd6 (by omega) (by omega)).mono ?_
  rintro e y1 ⟨rfl, rfl⟩
  obtain ⟨f1, hf1⟩ : ∃ f, f = fld d k6 2 := ⟨_, rfl⟩
  rw [← hf1]
  have HF1 : Hid (f1 = fld d (k + 6) 2) := by show _ = _; rw [hf1, HK6.out]
  have hci := (box7 HBX.out).2.1
  have hfz := box_free HBX.out
  obtain ⟨x1, hx1⟩ : ∃ x, y1.setCell ⟨c, 1, none⟩ (.int .i64 f1) = x := ⟨_, rfl⟩
  have HBX1 : Hid (x1.heap[c]? = some (.cells #[.int .i64 f0, .int .i64 f1, .int .i64 0, .int .i64 0, .int .i64 0, .int .i64 0, .string ⟨#[]⟩] 68 (0, 0))) := by rw [← hx1]; exact (set7 HBX.out).2.1 _
  have HBL1 : Hid (Below w.heap.size w x1) := by rw [← hx1]; exact HBL.out.setCell (p := ⟨c, 1, none⟩) (Nat.le_of_lt HWC.out) _
  have HRL1 : Hid (x1.heap[w.heap.size]? = some (.cells #[.int .i64 0, .int .i64 0, .int .i64 0, .int .i64 0, .int .i64 0, .int .i64 0, .string ⟨#[]⟩] 68 (0, 0))) := by rw [← hx1]; exact (setCell_others _ _ _ _ _ (Nat.ne_of_lt HWC.out)).trans HRL.out
  clear HBX HBL HRL hf1
  have HBX := HBX1
  have HBL := HBL1
  have HRL := HRL1
  clear HBX1 HBL1 HRL1
  go_wp2_with fail
  clear hci hfz hx1
  refine (HNM.out _ k8 2 HBL.out hd8 (by omega) (by omega)).mono ?_
  rintro e y2 ⟨rfl, rfl⟩
  obtain ⟨f2, hf2⟩ : ∃ f, f = fld d k8 2 := ⟨_, rfl⟩
  rw [← hf2]
  have HF2 : Hid (f2 = fld d (k + 8) 2) := by show _ = _; rw [hf2, HK8.out]
  have hci := (box7 HBX.out).2.2.1
  have hfz := box_free HBX.out
  obtain ⟨x2, hx2⟩ : ∃ x, y2.setCell ⟨c, 2, none⟩ (.int .i64 f2) = x := ⟨_, rfl⟩
  have HBX2 : Hid (x2.heap[c]? = some (.cells #[.int .i64 f0, .int .i64 f1, .int .i64 f2, .int .i64 0, .int .i64 0, .int .i64 0, .string ⟨#[]⟩] 68 (0, 0))) := by rw [← hx2]; exact (set7 HBX.out).2.2.1 _
  have HBL2 : Hid (Below w.heap.size w x2) := by rw [← hx2]; exact HBL.out.setCell (p := ⟨c, 2, none⟩) (Nat.le_of_lt HWC.out) _
  have HRL2 : Hid (x2.heap[w.heap.size]? = some (.cells #[.int .i64 0, .int .i64 0, .int .i64 0, .int .i64 0, .int .i64 0, .int .i64 0, .string ⟨#[]⟩] 68 (0, 0))) := by rw [← hx2]; exact (setCell_others _ _ _ _ _ (Nat.ne_of_lt HWC.out)).trans HRL.out
  clear HBX HBL HRL hf2
  have HBX := HBX2
  have HBL := HBL2
  have HRL := HRL2
  clear HBX2 HBL2 HRL2
  go_wp2_with fail
  clear hci hfz hx2
  refine (HNM.out _ k10 2 HBL.out hd10 (by omega) (by omega)).mono ?_
  rintro e y3 ⟨rfl, rfl⟩
  obtain ⟨f3, hf3⟩ : ∃ f, f = fld d k10 2 := ⟨_, rfl⟩
  rw [← hf3]
  have HF3 : Hid (f3 = fld d (k + 10) 2) := by show _ = _; rw [hf3, HK10.out]
  have hci := (box7 HBX.out).2.2.2.1
  have hfz := box_free HBX.out
  obtain ⟨x3, hx3⟩ : ∃ x, y3.setCell ⟨c, 3, none⟩ (.int .i64 f3) = x := ⟨_, rfl⟩
  have HBX3 : Hid (x3.heap[c]? = some (.cells #[.int .i64 f0, .int .i64 f1, .int .i64 f2, .int .i64 f3, .int .i64 0, .int .i64 0, .string ⟨#[]⟩] 68 (0, 0))) := by rw [← hx3]; exact (set7 HBX.out).2.2.2.1 _
  have HBL3 : Hid (Below w.heap.size w x3) := by rw [← hx3]; exact HBL.out.setCell (p := ⟨c, 3, none⟩) (Nat.le_of_lt HWC.out) _
  have HRL3 : Hid (x3.heap[w.heap.size]? = some (.cells #[.int .i64 0, .int .i64 0, .int .i64 0, .int .i64 0, .int .i64 0, .int .i64 0, .string ⟨#[]⟩] 68 (0, 0))) := by rw [← hx3]; exact (setCell_others _ _ _ _ _ (Nat.ne_of_lt HWC.out)).trans HRL.out
  clear HBX HBL HRL hf3
  have HBX := HBX3
  have HBL := HBL3
  have HRL := HRL3
  clear HBX3 HBL3 HRL3
  go_wp2_with fail
  clear hci hfz hx3
  refine (HNM.out _ k12 4 HBL.out hd12 (by omega) (by omega)).mono ?_
  rintro e y4 ⟨rfl, rfl⟩
  obtain ⟨f4, hf4⟩ : ∃ f, f = fld d k12 4 := ⟨_, rfl⟩
  rw [← hf4]
  have HF4 : Hid (f4 = fld d (k + 12) 4) := by show _ = _; rw [hf4, HK12.out]
  have hci := (box7 HBX.out).2.2.2.2.1
  have hfz := box_free HBX.out
  obtain ⟨x4, hx4⟩ : ∃ x, y4.setCell ⟨c, 4, none⟩ (.int .i64 f4) = x := ⟨_, rfl⟩
  have HBX4 : Hid (x4.heap[c]? = some (.cells #[.int .i64 f0, .int .i64 f1, .int .i64 f2, .int .i64 f3, .int .i64 f4, .int .i64 0, .string ⟨#[]⟩] 68 (0, 0))) := by rw [← hx4]; exact (set7 HBX.out).2.2.2.2.1 _
  have HBL4 : Hid (Below w.heap.size w x4) := by rw [← hx4]; exact HBL.out.setCell (p := ⟨c, 4, none⟩) (Nat.le_of_lt HWC.out) _
  have HRL4 : Hid (x4.heap[w.heap.size]? = some (.cells #[.int .i64 0, .int .i64 0, .int .i64 0, .int .i64 0, .int .i64 0, .int .i64 0, .string ⟨#[]⟩] 68 (0, 0))) := by rw [← hx4]; exact (setCell_others _ _ _ _ _ (Nat.ne_of_lt HWC.out)).trans HRL.out
  clear HBX HBL HRL hf4
  have HBX := HBX4
  have HBL := HBL4
  have HRL := HRL4
  clear HBX4 HBL4 HRL4
  go_wp2_with fail
  clear hci hfz hx4
  refine (HNM.out _ k16 4 HBL.out hd16 (by omega) (by omega)).mono ?_
  rintro e y5 ⟨rfl, rfl⟩
  obtain ⟨f5, hf5⟩ : ∃ f, f = fld d k16 4 := ⟨_, rfl⟩
  rw [← hf5]
  have HF5 : Hid (f5 = fld d (k + 16) 4) := by show _ = _; rw [hf5, HK16.out]
  have hci := (box7 HBX.out).2.2.2.2.2.1
  have hfz := box_free HBX.out
  obtain ⟨x5, hx5⟩ : ∃ x, y5.setCell ⟨c, 5, none⟩ (.int .i64 f5) = x := ⟨_, rfl⟩
  have HBX5 : Hid (x5.heap[c]? = some (.cells #[.int .i64 f0, .int .i64 f1, .int .i64 f2, .int .i64 f3, .int .i64 f4, .int .i64 f5, .string ⟨#[]⟩] 68 (0, 0))) := by rw [← hx5]; exact (set7 HBX.out).2.2.2.2.2.1 _
  have HBL5 : Hid (Below w.heap.size w x5) := by rw [← hx5]; exact HBL.out.setCell (p := ⟨c, 5, none⟩) (Nat.le_of_lt HWC.out) _
  have HRL5 : Hid (x5.heap[w.heap.size]? = some (.cells #[.int .i64 0, .int .i64 0, .int .i64 0, .int .i64 0, .int .i64 0, .int .i64 0, .string ⟨#[]⟩] 68 (0, 0))) := by rw [← hx5]; exact (setCell_others _ _ _ _ _ (Nat.ne_of_lt HWC.out)).trans HRL.out
  clear HBX HBL HRL hf5
  have HBX := HBX5
  have HBL := HBL5
  have HRL := HRL5
  clear HBX5 HBL5 HRL5
  go_wp2_with fail
  clear hci hfz hx5
  refine (HNM.out _ k20 2 HBL.out hd20 (by omega) (by omega)).mono ?_
  rintro e y6 ⟨rfl, rfl⟩
  have hnb := fld2 HBy.out k20
  obtain ⟨n, hn⟩ : ∃ n : Nat, fld d k20 2 = (n : Int) := ⟨(fld d k20 2).toNat, by omega⟩
  rw [hn]
  have HN : Hid (fld d (k + 20) 2 = (n : Int)) := by rw [← HK20.out]; exact hn
  have hn1 : n ≤ 65535 := by omega
  clear hn hnb ek4 ek6 ek8 ek10 ek12 ek16 ek20 hd4 hd6 hd8 hd10 hd12 hd16 hd20
  by_cases hful : k22 + n ≤ d.length
  · have g1 : ¬ (d.length : Int) - (k : Int) - 22 < (n : Int) := by omega
    have HE0 : Hid (enE d k = 0) := by
      show _ = _
      unfold enE
      rw [if_neg (by rw [HH0.out]; simp), if_neg]
      rw [Int.toNat_natCast, HN.out]
      omega
    have HG := hide (en_good HE0.out)
    have HPC := hide (vpiece_any _ d k22 n y6 (SB.below HS.out HBL.out) hful HD.out)
    obtain ⟨S, hS⟩ : ∃ S, S = strOfNums (sub d k22 n) := ⟨_, rfl⟩
    rw [← hS] at HPC
    have HAV : Hid ((enA d k).v = .agg #[.int .i64 f0, .int .i64 f1, .int .i64 f2, .int .i64 f3, .int .i64 f4, .int .i64 f5, .string S]) := by
      show _ = _
      rw [HG.out.1, HF0.out, HF1.out, HF2.out, HF3.out, HF4.out, HF5.out, hS, HK22.out]
      unfold enG
      rw [HN.out]
      rfl
    obtain ⟨r, hr⟩ : ∃ r, r = k22 + n := ⟨_, rfl⟩
    have er : (k22 : Int) + (n : Int) = (r : Int) := by omega
    have HPV : Hid (enP d k = (r : Int)) := by
      show _ = _
      rw [HG.out.2, HN.out]
      omega
    have hrd : r ≤ d.length := by omega
    have ER : Hid ((k22 : Int) + (n : Int) = (r : Int)) := er
    clear hS hr hful er hd22
    go_wp2_with fail
    refine HPC.out.mono ?_
    rintro e y7 ⟨rfl, rfl⟩
    clear g1
    have er := ER.out
    have hci := (box7 HBX.out).2.2.2.2.2.2
    have hfz := box_free HBX.out
    obtain ⟨x6, hx6⟩ : ∃ x, y7.setCell ⟨c, 6, none⟩ (.string S) = x := ⟨_, rfl⟩
    have HBX6 : Hid (x6.heap[c]? = some (.cells #[.int .i64 f0, .int .i64 f1, .int .i64 f2, .int .i64 f3, .int .i64 f4, .int .i64 f5, .string S] 68 (0, 0))) := by rw [← hx6]; exact (set7 HBX.out).2.2.2.2.2.2 _
    have HBL6 : Hid (Below w.heap.size w x6) := by rw [← hx6]; exact HBL.out.setCell (p := ⟨c, 6, none⟩) (Nat.le_of_lt HWC.out) _
    have HRL6 : Hid (x6.heap[w.heap.size]? = some (.cells #[.int .i64 0, .int .i64 0, .int .i64 0, .int .i64 0, .int .i64 0, .int .i64 0, .string ⟨#[]⟩] 68 (0, 0))) := by rw [← hx6]; exact (setCell_others _ _ _ _ _ (Nat.ne_of_lt HWC.out)).trans HRL.out
    obtain ⟨b0, b1, b2, b3, b4, b5, b6⟩ := box7 HBX6.out
    obtain ⟨r0, r1, r2, r3, r4, r5, r6⟩ := box7 HRL6.out
    have hfb := box_free HRL6.out
    have HP := hide (put7 (x0 := .int .i64 f0) (x1 := .int .i64 f1) (x2 := .int .i64 f2) (x3 := .int .i64 f3) (x4 := .int .i64 f4) (x5 := .int .i64 f5) (x6 := .string S) HRL6.out)
    have HPB := hide (put7_below (x0 := .int .i64 f0) (x1 := .int .i64 f1) (x2 := .int .i64 f2) (x3 := .int .i64 f3) (x4 := .int .i64 f4) (x5 := .int .i64 f5) (x6 := .string S) HBL6.out (Nat.le_refl _))
    clear HPC HBX HBL HRL
    go_wp2
    obtain ⟨z0, z1, z2, z3, z4, z5, z6⟩ := box7 HP.out
    refine bodyPost_ret (v := .tuple #[.agg #[.int .i64 f0, .int .i64 f1, .int .i64 f2, .int .i64 f3, .int .i64 f4, .int .i64 f5, .string S], .int .i64 (r : Int), .int .i64 0]) (by simp [results, Try.results32, go_sem, z0, z1, z2, z3, z4, z5, z6]) rfl ?_
    rw [HAV.out, HPV.out, HE0.out]
    exact ⟨rfl, HPB.out⟩
  · have g1 : (d.length : Int) - (k : Int) - 22 < (n : Int) := by omega
    have HE0 : Hid (enE d k = 122) := by
      show _ = _
      unfold enE
      rw [if_neg (by rw [HH0.out]; simp), if_pos]
      rw [Int.toNat_natCast, HN.out]
      omega
    have HBAD := hide (en_bad (d := d) (at' := k) (by rw [HE0.out]; omega))
    have HP := hide (put7 (x0 := .int .i64 0) (x1 := .int .i64 0) (x2 := .int .i64 0) (x3 := .int .i64 0) (x4 := .int .i64 0) (x5 := .int .i64 0) (x6 := .string ⟨#[]⟩) HRL.out)
    have HPB := hide (put7_below (x0 := .int .i64 0) (x1 := .int .i64 0) (x2 := .int .i64 0) (x3 := .int .i64 0) (x4 := .int .i64 0) (x5 := .int .i64 0) (x6 := .string ⟨#[]⟩) HBL.out (Nat.le_refl _))
    obtain ⟨r0, r1, r2, r3, r4, r5, r6⟩ := box7 HRL.out
    have hfb := box_free HRL.out
    go_wp2
    obtain ⟨z0, z1, z2, z3, z4, z5, z6⟩ := box7 HP.out
    refine bodyPost_ret (v := .tuple #[.agg #[.int .i64 0, .int .i64 0, .int .i64 0, .int .i64 0, .int .i64 0, .int .i64 0, .string ⟨#[]⟩], .int .i64 0, .int .i64 122]) (by simp [results, Try.results32, go_sem, z0, z1, z2, z3, z4, z5, z6]) rfl ?_
    rw [HBAD.out.1, HBAD.out.2, HE0.out]
    exact ⟨rfl, HPB.out⟩
end Go.Proofs.Ytjmjjjpanioifaa

