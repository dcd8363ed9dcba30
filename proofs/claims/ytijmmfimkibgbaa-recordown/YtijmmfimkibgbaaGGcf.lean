import Derived.Test.YtijmmfimkibgbaaGGcd
namespace Go.Proofs.Ytijmmfimkibgbaa
open Go.RowKit Go.Maps
set_option maxRecDepth 20000
set_option linter.unusedVariables false
set_option linter.unusedSimpArgs false

set_option maxHeartbeats 16000000 in
theorem getCentral_full (v : Value) (d : List Int) (at' : Int) (w : World) (h : SB w v d) (hB : Byt d) (h64 : Ok64 at') (hd : d.length ≤ 140737488355328) (hE : ceE d at' = 0) :
    Calls Try.prog 10 #[v, .int .i64 at'] w fun e w' => e = .returned (.tuple #[(ceA d at').v, .int .i64 (ceP d at'), .int .i64 (ceE d at')]) ∧ Below w.heap.size w w' := by
  obtain ⟨ao, cap, rfl, q1, q2, q3⟩ := h.open11
  have HD := hide hd
  have HBy := hide hB
  obtain ⟨wb, hwb⟩ : ∃ wb, w.alloc (.cells #[.int .i64 0, .int .i64 0, .int .i64 0, .int .i64 0, .int .i64 0, .int .u32 0, .int .i64 0, .int .i64 0, .string ⟨#[]⟩, .string ⟨#[]⟩, .int .i64 0, .int .i64 0, .int .i64 0, .int .i64 0, .int .i64 0, .string ⟨#[]⟩] 26) = wb := ⟨_, rfl⟩
  have HB : Hid (Below w.heap.size w wb) := by rw [← hwb]; exact (Below.refl _ _).alloc (Nat.le_refl _) _
  have HRB : Hid (wb.heap[w.heap.size]? = some (.cells #[.int .i64 0, .int .i64 0, .int .i64 0, .int .i64 0, .int .i64 0, .int .u32 0, .int .i64 0, .int .i64 0, .string ⟨#[]⟩, .string ⟨#[]⟩, .int .i64 0, .int .i64 0, .int .i64 0, .int .i64 0, .int .i64 0, .string ⟨#[]⟩] 26 (0, 0))) := by rw [← hwb]; exact heap_alloc_new w _
  have HS : Hid (SB wb (.slice ao d.length cap) d) := SB.below h HB.out
  have HFA := hide (fieldsAt_any _ d at' 46 33639248 wb HS.out hB h64 hd (by omega) (by omega))
  obtain ⟨u0, u1⟩ := h64
  clear h q3 hB hd
  go_enter Try.func10, Try.ntmps10
  go_wp2_with fail
  refine HFA.out.mono ?_
  rintro e w1 hfa
  rcases hfa with ⟨hne, rfl, hb1⟩ | ⟨h0, g, rfl, hx⟩
  · have HE : ceE d at' = beE d at' 46 33639248 := if_pos hne
    exact absurd (HE.symm.trans (hE.trans rfl)) hne
  obtain ⟨k, rfl, hk, hsig⟩ := beE_ok h0
  have HH0 := hide h0
  have HX : Hid (Cx wb g (sub d k 46) 4 w1) := hx
  have HFL : Hid ((sub d k 46).length = 46) := sub_len hk
  have HFD : Hid (∀ p m, p + m ≤ 46 → fld (sub d k 46) p m = fld d (k + p) m) := fun p m hpm => fld_sub hpm
  have HRD : Hid (rdG (sub d k 46) 6 = rdG d (k + 6)) := rdgIn (by omega)
  have HFB := hide (byt_sub HBy.out k 46)
  obtain ⟨F, hF⟩ : ∃ F, F = sub d k 46 := ⟨_, rfl⟩
  rw [← hF] at HX HFL HFD HRD HFB
  obtain ⟨LV, hLV⟩ : ∃ V, V = rdG d (k + 6) := ⟨_, rfl⟩
  have HLV : Hid (rdG d (k + 6) = LV) := hLV.symm
  have HLF : Hid (rdG F 6 = LV) := by rw [hLV]; exact HRD.out
  obtain ⟨e0, e1, e2, e3, e4, e5, e6, e7, s8, s9⟩ := LV
  have HS8 : Hid (s8 = ⟨#[]⟩ ∧ s9 = ⟨#[]⟩) := by
    have h1 := congrArg Loc.name hLV
    have h2 := congrArg Loc.extra hLV
    exact ⟨h1, h2⟩
  obtain ⟨rfl, rfl⟩ := HS8.out
  obtain ⟨n, hn⟩ : ∃ n : Nat, fld d (k + 28) 2 = (n : Int) := ⟨(fld d (k + 28) 2).toNat, by have := fld2 HBy.out (k + 28); omega⟩
  obtain ⟨x, hx'⟩ : ∃ n : Nat, fld d (k + 30) 2 = (n : Int) := ⟨(fld d (k + 30) 2).toNat, by have := fld2 HBy.out (k + 30); omega⟩
  obtain ⟨m, hm'⟩ : ∃ n : Nat, fld d (k + 32) 2 = (n : Int) := ⟨(fld d (k + 32) 2).toNat, by have := fld2 HBy.out (k + 32); omega⟩
  have hn1 : n ≤ 65535 := by have := fld2 HBy.out (k + 28); omega
  have hx1 : x ≤ 65535 := by have := fld2 HBy.out (k + 30); omega
  have hm1 : m ≤ 65535 := by have := fld2 HBy.out (k + 32); omega
  have HNN : Hid (ceN d k = n ∧ ceX d k = x ∧ ceM d k = m) := by
    show _ ∧ _ ∧ _
    unfold ceN ceX ceM
    rw [hn, hx', hm']
    exact ⟨rfl, rfl, rfl⟩
  have HN2 : Hid (fld F 28 2 = (n : Int) ∧ fld F 30 2 = (x : Int) ∧ fld F 32 2 = (m : Int)) := ⟨(HFD.out 28 2 (by omega)).trans hn, (HFD.out 30 2 (by omega)).trans hx', (HFD.out 32 2 (by omega)).trans hm'⟩
  clear hx h0 hsig hLV hn hx' hm' hwb HFA hF HRD
  go_wp2_with fail
  refine (qu16_any HX.out (by rw [HFL.out]; omega)).mono ?_
  rintro e v0 ⟨rfl, hx, hs⟩
  obtain ⟨f0, hf0⟩ : ∃ f, f = fld F 4 2 := ⟨_, rfl⟩
  rw [← hf0]
  have HF0 : Hid (f0 = fld d (k + 4) 2) := by show _ = _; rw [hf0]; exact HFD.out 4 2 (by omega)
  clear HX
  have HX := hide hx
  clear hx hs hf0
  have HGM := hide (getCommon_any HX.out (by rw [HFL.out]; omega) HFB.out)
  rw [HLF.out] at HGM
  rw [HN2.out.1, HN2.out.2.1] at HGM
  simp only [Loc.v, Loc.cs] at HGM
  go_wp2_with fail
  refine HGM.out.mono ?_
  rintro e v1 ⟨rfl, hx, hs⟩
  clear HX HGM
  obtain ⟨cl, hcl⟩ : ∃ c, v1.heap.size = c := ⟨_, rfl⟩
  obtain ⟨v2, hv2⟩ : ∃ x, v1.alloc (.cells #[.int .i64 e0, .int .i64 e1, .int .i64 e2, .int .i64 e3, .int .i64 e4, .int .u32 e5, .int .i64 e6, .int .i64 e7, .string ⟨#[]⟩, .string ⟨#[]⟩] 24) = x := ⟨_, rfl⟩
  have HX : Hid (Cx wb g F 32 v2) := by rw [← hv2]; exact (hx.alloc _).1
  have HGL : Hid (g < cl) := by rw [← hcl]; exact (hx.alloc (.cells #[] 0)).2
  have HLB : Hid (v2.heap[cl]? = some (.cells #[.int .i64 e0, .int .i64 e1, .int .i64 e2, .int .i64 e3, .int .i64 e4, .int .u32 e5, .int .i64 e6, .int .i64 e7, .string ⟨#[]⟩, .string ⟨#[]⟩] 24 (0, 0))) := by rw [← hv2, ← hcl]; exact heap_alloc_new _ _
  have HV2 := hide hv2
  have HCL := hide hcl
  clear hx hs hv2 hcl
  go_wp2_with fail
  rw [HV2.out, HCL.out]
  refine (qu16_any HX.out (by rw [HFL.out]; omega)).mono ?_
  rintro e v3 ⟨rfl, hx, hs⟩
  rw [HN2.out.2.2]
  have hlb : v3.heap[cl]? = some (.cells #[.int .i64 e0, .int .i64 e1, .int .i64 e2, .int .i64 e3, .int .i64 e4, .int .u32 e5, .int .i64 e6, .int .i64 e7, .string ⟨#[]⟩, .string ⟨#[]⟩] 24 (0, 0)) := (hs.block cl (Array.getElem?_eq_some_iff.1 HLB.out).1 (by have := HGL.out; omega)).trans HLB.out
  clear HX HV2 HCL HLB
  obtain ⟨c, hc⟩ : ∃ c, v3.heap.size = c := ⟨_, rfl⟩
  obtain ⟨v4, hv4⟩ : ∃ x, v3.alloc (.cells #[.int .i64 e0, .int .i64 e1, .int .i64 e2, .int .i64 e3, .int .i64 e4, .int .u32 e5, .int .i64 e6, .int .i64 e7, .string ⟨#[]⟩, .string ⟨#[]⟩, .int .i64 f0, .int .i64 0, .int .i64 0, .int .i64 0, .int .i64 0, .string ⟨#[]⟩] 26) = x := ⟨_, rfl⟩
  have HX : Hid (Cx wb g F 34 v4) := by rw [← hv4]; exact (hx.alloc _).1
  have HGC : Hid (g < c) := by rw [← hc]; exact (hx.alloc (.cells #[] 0)).2
  have HBX : Hid (v4.heap[c]? = some (.cells #[.int .i64 e0, .int .i64 e1, .int .i64 e2, .int .i64 e3, .int .i64 e4, .int .u32 e5, .int .i64 e6, .int .i64 e7, .string ⟨#[]⟩, .string ⟨#[]⟩, .int .i64 f0, .int .i64 0, .int .i64 0, .int .i64 0, .int .i64 0, .string ⟨#[]⟩] 26 (0, 0))) := by rw [← hv4, ← hc]; exact heap_alloc_new _ _
  obtain ⟨c0, c1, c2, c3, c4, c5, c6, c7, c8, c9⟩ := box10 hlb
  have HV4 := hide hv4
  have HC4 := hide hc
  clear hx hs hlb hv4 hc
  go_wp2_with fail
  rw [HV4.out, HC4.out]
  clear c0 c1 c2 c3 c4 c5 c6 c7 c8 c9
  refine (qu16_any HX.out (by rw [HFL.out]; omega)).mono ?_
  rintro e y1 ⟨rfl, hx, hs⟩
  obtain ⟨f1, hf1⟩ : ∃ f, f = fld F 34 2 := ⟨_, rfl⟩
  rw [← hf1]
  have HF1 : Hid (f1 = fld d (k + 34) 2) := by show _ = _; rw [hf1]; exact HFD.out 34 2 (by omega)
  have hbx : y1.heap[c]? = some (.cells #[.int .i64 e0, .int .i64 e1, .int .i64 e2, .int .i64 e3, .int .i64 e4, .int .u32 e5, .int .i64 e6, .int .i64 e7, .string ⟨#[]⟩, .string ⟨#[]⟩, .int .i64 f0, .int .i64 0, .int .i64 0, .int .i64 0, .int .i64 0, .string ⟨#[]⟩] 26 (0, 0)) := (hs.block c (Array.getElem?_eq_some_iff.1 HBX.out).1 (by have := HGC.out; omega)).trans HBX.out
  clear HX HBX HV4 HC4
  have HX := hide (hx.put HGC.out 11 (.int .i64 f1))
  have HBX := hide ((set16 hbx).2.2.2.2.2.2.2.2.2.2.2.1 (.int .i64 f1))
  have hci := (box16 hbx).2.2.2.2.2.2.2.2.2.2.2.1
  have hfz := box_free hbx
  clear hx hs hf1 hbx
  go_wp2_with fail
  refine (qu16_any HX.out (by rw [HFL.out]; omega)).mono ?_
  rintro e y2 ⟨rfl, hx, hs⟩
  obtain ⟨f2, hf2⟩ : ∃ f, f = fld F 36 2 := ⟨_, rfl⟩
  rw [← hf2]
  have HF2 : Hid (f2 = fld d (k + 36) 2) := by show _ = _; rw [hf2]; exact HFD.out 36 2 (by omega)
  have hbx : y2.heap[c]? = some (.cells #[.int .i64 e0, .int .i64 e1, .int .i64 e2, .int .i64 e3, .int .i64 e4, .int .u32 e5, .int .i64 e6, .int .i64 e7, .string ⟨#[]⟩, .string ⟨#[]⟩, .int .i64 f0, .int .i64 f1, .int .i64 0, .int .i64 0, .int .i64 0, .string ⟨#[]⟩] 26 (0, 0)) := (hs.block c (Array.getElem?_eq_some_iff.1 HBX.out).1 (by have := HGC.out; omega)).trans HBX.out
  clear HX HBX hci hfz
  have HX := hide (hx.put HGC.out 12 (.int .i64 f2))
  have HBX := hide ((set16 hbx).2.2.2.2.2.2.2.2.2.2.2.2.1 (.int .i64 f2))
  have hci := (box16 hbx).2.2.2.2.2.2.2.2.2.2.2.2.1
  have hfz := box_free hbx
  clear hx hs hf2 hbx
  go_wp2_with fail
  refine (qu32_any HX.out (by rw [HFL.out]; omega)).mono ?_
  rintro e y3 ⟨rfl, hx, hs⟩
  obtain ⟨f3, hf3⟩ : ∃ f, f = fld F 38 4 := ⟨_, rfl⟩
  rw [← hf3]
  have HF3 : Hid (f3 = fld d (k + 38) 4) := by show _ = _; rw [hf3]; exact HFD.out 38 4 (by omega)
  have hbx : y3.heap[c]? = some (.cells #[.int .i64 e0, .int .i64 e1, .int .i64 e2, .int .i64 e3, .int .i64 e4, .int .u32 e5, .int .i64 e6, .int .i64 e7, .string ⟨#[]⟩, .string ⟨#[]⟩, .int .i64 f0, .int .i64 f1, .int .i64 f2, .int .i64 0, .int .i64 0, .string ⟨#[]⟩] 26 (0, 0)) := (hs.block c (Array.getElem?_eq_some_iff.1 HBX.out).1 (by have := HGC.out; omega)).trans HBX.out
  clear HX HBX hci hfz
  have HX := hide (hx.put HGC.out 13 (.int .i64 f3))
  have HBX := hide ((set16 hbx).2.2.2.2.2.2.2.2.2.2.2.2.2.1 (.int .i64 f3))
  have hci := (box16 hbx).2.2.2.2.2.2.2.2.2.2.2.2.2.1
  have hfz := box_free hbx
  clear hx hs hf3 hbx
  go_wp2_with fail
  refine (qu32_any HX.out (by rw [HFL.out]; omega)).mono ?_
  rintro e y4 ⟨rfl, hx, hs⟩
  obtain ⟨f4, hf4⟩ : ∃ f, f = fld F 42 4 := ⟨_, rfl⟩
  rw [← hf4]
  have HF4 : Hid (f4 = fld d (k + 42) 4) := by show _ = _; rw [hf4]; exact HFD.out 42 4 (by omega)
  have hbx : y4.heap[c]? = some (.cells #[.int .i64 e0, .int .i64 e1, .int .i64 e2, .int .i64 e3, .int .i64 e4, .int .u32 e5, .int .i64 e6, .int .i64 e7, .string ⟨#[]⟩, .string ⟨#[]⟩, .int .i64 f0, .int .i64 f1, .int .i64 f2, .int .i64 f3, .int .i64 0, .string ⟨#[]⟩] 26 (0, 0)) := (hs.block c (Array.getElem?_eq_some_iff.1 HBX.out).1 (by have := HGC.out; omega)).trans HBX.out
  clear HX HBX hci hfz
  have HX := hide (hx.put HGC.out 14 (.int .i64 f4))
  have HBX := hide ((set16 hbx).2.2.2.2.2.2.2.2.2.2.2.2.2.2.1 (.int .i64 f4))
  have hci := (box16 hbx).2.2.2.2.2.2.2.2.2.2.2.2.2.2.1
  have hfz := box_free hbx
  clear hx hs hf4 hbx
  have hbw : Below wb.heap.size wb (y4.setCell ⟨c, 14, none⟩ (.int .i64 f4)) := HX.out.bel
  obtain ⟨w3, hw3⟩ : ∃ x, y4.setCell ⟨c, 14, none⟩ (.int .i64 f4) = x := ⟨_, rfl⟩
  rw [hw3] at hbw HBX
  have HBW3 := hide hbw
  have HB3 : Hid (Below w.heap.size w w3) := HB.out.trans (hbw.mono HB.out.size)
  have HR3 : Hid (w3.heap[w.heap.size]? = some (.cells #[.int .i64 0, .int .i64 0, .int .i64 0, .int .i64 0, .int .i64 0, .int .u32 0, .int .i64 0, .int .i64 0, .string ⟨#[]⟩, .string ⟨#[]⟩, .int .i64 0, .int .i64 0, .int .i64 0, .int .i64 0, .int .i64 0, .string ⟨#[]⟩] 26 (0, 0))) := (hbw.block _ (Array.getElem?_eq_some_iff.1 HRB.out).1).trans HRB.out
  have HWC : Hid (w.heap.size < c) := by show _ < _; have := (Array.getElem?_eq_some_iff.1 HRB.out).1; have := HX.out.g0; have := HGC.out; omega
  obtain ⟨j, hj⟩ : ∃ j, j = k + 46 := ⟨_, rfl⟩
  have ej : (k : Int) + 46 = (j : Int) := by omega
  have HJ := hide hj
  have hjd : j ≤ d.length := by omega
  obtain ⟨t1, ht1⟩ : ∃ t, t = n + x := ⟨_, rfl⟩
  have et1 : (n : Int) + (x : Int) = (t1 : Int) := by omega
  obtain ⟨t, ht⟩ : ∃ t, t = t1 + m := ⟨_, rfl⟩
  have et : (t1 : Int) + (m : Int) = (t : Int) := by omega
  have HT : Hid (t = n + x + m) := by show _ = _; omega
  have htb : t ≤ 196605 := by omega
  have htb1 : t1 ≤ 131070 := by omega
  have HTX := hide (textsAt_any _ d j t w3 (SB.below HS.out HBW3.out) HBy.out hjd HD.out (by omega))
  clear hbw HX HFL hj ht ht1 HBW3 hk HFD HFB HN2 HLF
  go_wp2_with fail
  refine HTX.out.mono ?_
  rintro e w4 ⟨gt, rfl, hcx⟩
  have HY := hide hcx.cy
  have HB4 : Hid (Below w.heap.size w w4) := HB3.out.trans (hcx.bel.mono HB3.out.size)
  have HBX4 : Hid (w4.heap[c]? = some (.cells #[.int .i64 e0, .int .i64 e1, .int .i64 e2, .int .i64 e3, .int .i64 e4, .int .u32 e5, .int .i64 e6, .int .i64 e7, .string ⟨#[]⟩, .string ⟨#[]⟩, .int .i64 f0, .int .i64 f1, .int .i64 f2, .int .i64 f3, .int .i64 f4, .string ⟨#[]⟩] 26 (0, 0))) := (hcx.bel.block _ (Array.getElem?_eq_some_iff.1 HBX.out).1).trans HBX.out
  have HR4 : Hid (w4.heap[w.heap.size]? = some (.cells #[.int .i64 0, .int .i64 0, .int .i64 0, .int .i64 0, .int .i64 0, .int .u32 0, .int .i64 0, .int .i64 0, .string ⟨#[]⟩, .string ⟨#[]⟩, .int .i64 0, .int .i64 0, .int .i64 0, .int .i64 0, .int .i64 0, .string ⟨#[]⟩] 26 (0, 0))) := (hcx.bel.block _ (Array.getElem?_eq_some_iff.1 HR3.out).1).trans HR3.out
  have HGT : Hid (w3.heap.size ≤ gt) := hcx.g0
  have HCL : Hid (c < w3.heap.size) := (Array.getElem?_eq_some_iff.1 HBX.out).1
  have HA3 : Hid (w.heap.size ≤ w3.heap.size) := HB3.out.size
  clear hcx HTX hci hfz hw3 HB3 HBX HR3 et et1
  go_wp2_with fail
  refine (ytext_any HY.out (n : Int)).mono ?_
  rintro e a5 ⟨rfl, hy, ht⟩
  obtain ⟨S1, hS5⟩ : ∃ S, S = strOfNums (nextL ⟨sub d j t, 0, 0⟩ (n : Int)) := ⟨_, rfl⟩
  rw [← hS5]
  have HS5 := hide hS5
  have hbx : a5.heap[c]? = some (.cells #[.int .i64 e0, .int .i64 e1, .int .i64 e2, .int .i64 e3, .int .i64 e4, .int .u32 e5, .int .i64 e6, .int .i64 e7, .string ⟨#[]⟩, .string ⟨#[]⟩, .int .i64 f0, .int .i64 f1, .int .i64 f2, .int .i64 f3, .int .i64 f4, .string ⟨#[]⟩] 26 (0, 0)) := (ht.2 c (Array.getElem?_eq_some_iff.1 HBX4.out).1 (by have := HCL.out; have := HGT.out; omega)).trans HBX4.out
  have hr : a5.heap[w.heap.size]? = some (.cells #[.int .i64 0, .int .i64 0, .int .i64 0, .int .i64 0, .int .i64 0, .int .u32 0, .int .i64 0, .int .i64 0, .string ⟨#[]⟩, .string ⟨#[]⟩, .int .i64 0, .int .i64 0, .int .i64 0, .int .i64 0, .int .i64 0, .string ⟨#[]⟩] 26 (0, 0)) := (ht.2 _ (Array.getElem?_eq_some_iff.1 HR4.out).1 (by have := HWC.out; have := HCL.out; have := HGT.out; omega)).trans HR4.out
  have hb : Below w.heap.size w a5 := HB4.out.trans (ht.1.mono HA3.out)
  obtain ⟨b5, hb5⟩ : ∃ x, a5.setCell ⟨c, 8, none⟩ (.string S1) = x := ⟨_, rfl⟩
  have HB5 : Hid (Below w.heap.size w b5) := by rw [← hb5]; exact hb.setCell (p := ⟨c, 8, none⟩) (Nat.le_of_lt HWC.out) _
  have HY5 : Hid (Cy w3.heap.size gt (nextSt ⟨sub d j t, 0, 0⟩ (n : Int)) b5) := by rw [← hb5]; exact hy.put HCL.out 8 _
  have HBX5 : Hid (b5.heap[c]? = some (.cells #[.int .i64 e0, .int .i64 e1, .int .i64 e2, .int .i64 e3, .int .i64 e4, .int .u32 e5, .int .i64 e6, .int .i64 e7, .string S1, .string ⟨#[]⟩, .int .i64 f0, .int .i64 f1, .int .i64 f2, .int .i64 f3, .int .i64 f4, .string ⟨#[]⟩] 26 (0, 0))) := by rw [← hb5]; exact (set16 hbx).2.2.2.2.2.2.2.2.1 _
  have HR5 : Hid (b5.heap[w.heap.size]? = some (.cells #[.int .i64 0, .int .i64 0, .int .i64 0, .int .i64 0, .int .i64 0, .int .u32 0, .int .i64 0, .int .i64 0, .string ⟨#[]⟩, .string ⟨#[]⟩, .int .i64 0, .int .i64 0, .int .i64 0, .int .i64 0, .int .i64 0, .string ⟨#[]⟩] 26 (0, 0))) := by rw [← hb5]; exact (setCell_others _ _ _ _ _ (Nat.ne_of_lt HWC.out)).trans hr
  have hci := (box16 hbx).2.2.2.2.2.2.2.2.1
  have hfz := box_free hbx
  clear hy ht hbx hr hb HY HB4 HBX4 HR4 hS5
  go_wp2_with fail
  clear hci hfz hb5
  refine (ytext_any HY5.out (x : Int)).mono ?_
  rintro e a6 ⟨rfl, hy, ht⟩
  obtain ⟨S2, hS6⟩ : ∃ S, S = strOfNums (nextL (nextSt ⟨sub d j t, 0, 0⟩ (n : Int)) (x : Int)) := ⟨_, rfl⟩
  rw [← hS6]
  have HS6 := hide hS6
  have hbx : a6.heap[c]? = some (.cells #[.int .i64 e0, .int .i64 e1, .int .i64 e2, .int .i64 e3, .int .i64 e4, .int .u32 e5, .int .i64 e6, .int .i64 e7, .string S1, .string ⟨#[]⟩, .int .i64 f0, .int .i64 f1, .int .i64 f2, .int .i64 f3, .int .i64 f4, .string ⟨#[]⟩] 26 (0, 0)) := (ht.2 c (Array.getElem?_eq_some_iff.1 HBX5.out).1 (by have := HCL.out; have := HGT.out; omega)).trans HBX5.out
  have hr : a6.heap[w.heap.size]? = some (.cells #[.int .i64 0, .int .i64 0, .int .i64 0, .int .i64 0, .int .i64 0, .int .u32 0, .int .i64 0, .int .i64 0, .string ⟨#[]⟩, .string ⟨#[]⟩, .int .i64 0, .int .i64 0, .int .i64 0, .int .i64 0, .int .i64 0, .string ⟨#[]⟩] 26 (0, 0)) := (ht.2 _ (Array.getElem?_eq_some_iff.1 HR5.out).1 (by have := HWC.out; have := HCL.out; have := HGT.out; omega)).trans HR5.out
  have hb : Below w.heap.size w a6 := HB5.out.trans (ht.1.mono HA3.out)
  obtain ⟨b6, hb6⟩ : ∃ x, a6.setCell ⟨c, 9, none⟩ (.string S2) = x := ⟨_, rfl⟩
  have HB6 : Hid (Below w.heap.size w b6) := by rw [← hb6]; exact hb.setCell (p := ⟨c, 9, none⟩) (Nat.le_of_lt HWC.out) _
  have HY6 : Hid (Cy w3.heap.size gt (nextSt (nextSt ⟨sub d j t, 0, 0⟩ (n : Int)) (x : Int)) b6) := by rw [← hb6]; exact hy.put HCL.out 9 _
  have HBX6 : Hid (b6.heap[c]? = some (.cells #[.int .i64 e0, .int .i64 e1, .int .i64 e2, .int .i64 e3, .int .i64 e4, .int .u32 e5, .int .i64 e6, .int .i64 e7, .string S1, .string S2, .int .i64 f0, .int .i64 f1, .int .i64 f2, .int .i64 f3, .int .i64 f4, .string ⟨#[]⟩] 26 (0, 0))) := by rw [← hb6]; exact (set16 hbx).2.2.2.2.2.2.2.2.2.1 _
  have HR6 : Hid (b6.heap[w.heap.size]? = some (.cells #[.int .i64 0, .int .i64 0, .int .i64 0, .int .i64 0, .int .i64 0, .int .u32 0, .int .i64 0, .int .i64 0, .string ⟨#[]⟩, .string ⟨#[]⟩, .int .i64 0, .int .i64 0, .int .i64 0, .int .i64 0, .int .i64 0, .string ⟨#[]⟩] 26 (0, 0))) := by rw [← hb6]; exact (setCell_others _ _ _ _ _ (Nat.ne_of_lt HWC.out)).trans hr
  have hci := (box16 hbx).2.2.2.2.2.2.2.2.2.1
  have hfz := box_free hbx
  clear hy ht hbx hr hb HY5 HB5 HBX5 HR5 hS6
  go_wp2_with fail
  clear hci hfz hb6
  refine (ytext_any HY6.out (m : Int)).mono ?_
  rintro e a7 ⟨rfl, hy, ht⟩
  obtain ⟨S3, hS7⟩ : ∃ S, S = strOfNums (nextL (nextSt (nextSt ⟨sub d j t, 0, 0⟩ (n : Int)) (x : Int)) (m : Int)) := ⟨_, rfl⟩
  rw [← hS7]
  have HS7 := hide hS7
  have hbx : a7.heap[c]? = some (.cells #[.int .i64 e0, .int .i64 e1, .int .i64 e2, .int .i64 e3, .int .i64 e4, .int .u32 e5, .int .i64 e6, .int .i64 e7, .string S1, .string S2, .int .i64 f0, .int .i64 f1, .int .i64 f2, .int .i64 f3, .int .i64 f4, .string ⟨#[]⟩] 26 (0, 0)) := (ht.2 c (Array.getElem?_eq_some_iff.1 HBX6.out).1 (by have := HCL.out; have := HGT.out; omega)).trans HBX6.out
  have hr : a7.heap[w.heap.size]? = some (.cells #[.int .i64 0, .int .i64 0, .int .i64 0, .int .i64 0, .int .i64 0, .int .u32 0, .int .i64 0, .int .i64 0, .string ⟨#[]⟩, .string ⟨#[]⟩, .int .i64 0, .int .i64 0, .int .i64 0, .int .i64 0, .int .i64 0, .string ⟨#[]⟩] 26 (0, 0)) := (ht.2 _ (Array.getElem?_eq_some_iff.1 HR6.out).1 (by have := HWC.out; have := HCL.out; have := HGT.out; omega)).trans HR6.out
  have hb : Below w.heap.size w a7 := HB6.out.trans (ht.1.mono HA3.out)
  obtain ⟨b7, hb7⟩ : ∃ x, a7.setCell ⟨c, 15, none⟩ (.string S3) = x := ⟨_, rfl⟩
  have HB7 : Hid (Below w.heap.size w b7) := by rw [← hb7]; exact hb.setCell (p := ⟨c, 15, none⟩) (Nat.le_of_lt HWC.out) _
  have HY7 : Hid (Cy w3.heap.size gt (nextSt (nextSt (nextSt ⟨sub d j t, 0, 0⟩ (n : Int)) (x : Int)) (m : Int)) b7) := by rw [← hb7]; exact hy.put HCL.out 15 _
  have HBX7 : Hid (b7.heap[c]? = some (.cells #[.int .i64 e0, .int .i64 e1, .int .i64 e2, .int .i64 e3, .int .i64 e4, .int .u32 e5, .int .i64 e6, .int .i64 e7, .string S1, .string S2, .int .i64 f0, .int .i64 f1, .int .i64 f2, .int .i64 f3, .int .i64 f4, .string S3] 26 (0, 0))) := by rw [← hb7]; exact (set16 hbx).2.2.2.2.2.2.2.2.2.2.2.2.2.2.2 _
  have HR7 : Hid (b7.heap[w.heap.size]? = some (.cells #[.int .i64 0, .int .i64 0, .int .i64 0, .int .i64 0, .int .i64 0, .int .u32 0, .int .i64 0, .int .i64 0, .string ⟨#[]⟩, .string ⟨#[]⟩, .int .i64 0, .int .i64 0, .int .i64 0, .int .i64 0, .int .i64 0, .string ⟨#[]⟩] 26 (0, 0))) := by rw [← hb7]; exact (setCell_others _ _ _ _ _ (Nat.ne_of_lt HWC.out)).trans hr
  have hci := (box16 hbx).2.2.2.2.2.2.2.2.2.2.2.2.2.2.2
  have hfz := box_free hbx
  clear hy ht hbx hr hb HY6 HB6 HBX6 HR6 hS7
  by_cases hful : j + t ≤ d.length
  · have HLD : Hid ((sub d j t).length = t) := sub_len hful
    have htt := HT.out
    obtain ⟨s1, s2⟩ := next_st (d := sub d j t) (p := 0) (n := n) (by rw [HLD.out]; omega)
    rw [s1] at HY7 HS6 HS7
    rw [Nat.zero_add] at HY7 HS6 HS7
    obtain ⟨s3, s4⟩ := next_st (d := sub d j t) (p := n) (n := x) (by rw [HLD.out]; omega)
    rw [s3] at HY7 HS7
    obtain ⟨s5, s6⟩ := next_st (d := sub d j t) (p := n + x) (n := m) (by rw [HLD.out]; omega)
    rw [s5] at HY7
    rw [s6] at HS7
    rw [s4] at HS6
    rw [s2] at HS5
    rw [← htt] at HY7
    have HE0 : Hid (ceE d k = 0) := by
      show _ = _
      unfold ceE
      rw [if_neg (by rw [HH0.out]; simp), if_neg]
      rw [Int.toNat_natCast, HNN.out.1, HNN.out.2.1, HNN.out.2.2]
      have := HJ.out
      omega
    have HG := hide (ce_good HE0.out)
    obtain ⟨r, hr⟩ : ∃ r, r = j + t := ⟨_, rfl⟩
    have er : (j : Int) + (t : Int) = (r : Int) := by omega
    have hrd : r ≤ d.length := by omega
    have HAV : Hid ((ceA d k).v = .agg #[.int .i64 e0, .int .i64 e1, .int .i64 e2, .int .i64 e3, .int .i64 e4, .int .u32 e5, .int .i64 e6, .int .i64 e7, .string S1, .string S2, .int .i64 f0, .int .i64 f1, .int .i64 f2, .int .i64 f3, .int .i64 f4, .string S3]) := by
      show _ = _
      rw [HG.out.1]
      unfold ceR
      rw [HLV.out, HNN.out.1, HNN.out.2.1, HNN.out.2.2, ← HJ.out, HS5.out, HS6.out, HS7.out, sub_sub (by omega), sub_sub (by omega), sub_sub (by omega), ← HF0.out, ← HF1.out, ← HF2.out, ← HF3.out, ← HF4.out, Nat.add_zero, Nat.add_assoc j n x]
      rfl
    have HPV : Hid (ceP d k = (r : Int)) := by
      show _ = _
      rw [HG.out.2, HNN.out.1, HNN.out.2.1, HNN.out.2.2]
      have := HJ.out
      omega
    have HED := HD.out
    clear s1 s2 s3 s4 s5 s6 hr htt htb htb1
    go_wp2_with fail
    refine (err_any HY7.out.cu).mono ?_
    rintro e w10 ⟨rfl, rfl⟩
    have HAT : Hid (Calls Try.prog 29 #[.pointer (some ⟨gt, 0, none⟩)] w10.drew fun e w' => e = .returned (.int .i64 (t : Int)) ∧ w' = w10.drew) := at_any (st := ⟨sub d j t, t, 0⟩) (HY7.out.cu.drewN 1)
    obtain ⟨b0, b1, b2, b3, b4, b5, b6, b7, b8, b9, b10, b11, b12, b13, b14, b15⟩ := box16 HBX7.out
    obtain ⟨r0, r1, r2, r3, r4, r5, r6, r7, r8, r9, r10, r11, r12, r13, r14, r15⟩ := box16 HR7.out
    have hfb := box_free HR7.out
    have HP := hide (put16d (x0 := .int .i64 e0) (x1 := .int .i64 e1) (x2 := .int .i64 e2) (x3 := .int .i64 e3) (x4 := .int .i64 e4) (x5 := .int .u32 e5) (x6 := .int .i64 e6) (x7 := .int .i64 e7) (x8 := .string S1) (x9 := .string S2) (x10 := .int .i64 f0) (x11 := .int .i64 f1) (x12 := .int .i64 f2) (x13 := .int .i64 f3) (x14 := .int .i64 f4) (x15 := .string S3) HR7.out)
    have HPB := hide (put16d_below (x0 := .int .i64 e0) (x1 := .int .i64 e1) (x2 := .int .i64 e2) (x3 := .int .i64 e3) (x4 := .int .i64 e4) (x5 := .int .u32 e5) (x6 := .int .i64 e6) (x7 := .int .i64 e7) (x8 := .string S1) (x9 := .string S2) (x10 := .int .i64 f0) (x11 := .int .i64 f1) (x12 := .int .i64 f2) (x13 := .int .i64 f3) (x14 := .int .i64 f4) (x15 := .string S3) HB7.out (Nat.le_refl _))
    have ew1 : IntKind.i64.wrap (j : Int) = (j : Int) := by rw [IntKind.wrap_i64]; omega
    have ew3 : IntKind.i64.wrap (r : Int) = (r : Int) := by rw [IntKind.wrap_i64]; omega
    clear hci hfz hb7
    go_wp2
    go_region_with (go_at_call 29; with_reducible refine HAT.out.mono ?_; rintro e w11 ⟨rfl, rfl⟩)
    all_goals (
      go_simp
      go_wp2
      obtain ⟨z0, z1, z2, z3, z4, z5, z6, z7, z8, z9, z10, z11, z12, z13, z14, z15⟩ := box16 HP.out
      refine bodyPost_ret (v := .tuple #[.agg #[.int .i64 e0, .int .i64 e1, .int .i64 e2, .int .i64 e3, .int .i64 e4, .int .u32 e5, .int .i64 e6, .int .i64 e7, .string S1, .string S2, .int .i64 f0, .int .i64 f1, .int .i64 f2, .int .i64 f3, .int .i64 f4, .string S3], .int .i64 (r : Int), .int .i64 0]) (by simp [results, Try.results10, go_sem, z0, z1, z2, z3, z4, z5, z6, z7, z8, z9, z10, z11, z12, z13, z14, z15]) rfl ?_
      rw [HAV.out, HPV.out, HE0.out]
      exact ⟨rfl, HPB.out⟩)
  · have HE0 : Hid (ceE d k = 122) := by
      show _ = _
      unfold ceE
      rw [if_neg (by rw [HH0.out]; simp), if_pos]
      rw [Int.toNat_natCast, HNN.out.1, HNN.out.2.1, HNN.out.2.2]
      have := HJ.out
      have := HT.out
      omega
    exact absurd (HE0.out.symm.trans hE) (by omega)
end Go.Proofs.Ytijmmfimkibgbaa

