import Derived.Test.YtijmmfimkibgbaaGCty
import Derived.Deep.RegionHeld3
import Derived.Deep.DeepCutAuto
namespace Go.Proofs.Ytijmmfimkibgbaa
open Go.RowKit Go.Maps
set_option maxRecDepth 20000
set_option linter.unusedVariables false
set_option linter.unusedSimpArgs false

theorem Cu.drewN {X : Nat → Prop} {T : Nat} {w : World} {g : Nat} {st : CSt} (h : Cu X T w g st) (q : Nat) : Cu X T (w.drewN q) g st := by
  obtain ⟨v, h1, h2, h3⟩ := h
  exact ⟨v, h1, h2.move (fun _ _ => rfl), h3⟩

/-- The end record at a place, in numbers. -/
def enG (d : List Int) (k : Nat) : Enr := ⟨fld d (k + 4) 2, fld d (k + 6) 2, fld d (k + 8) 2, fld d (k + 10) 2, fld d (k + 12) 4, fld d (k + 16) 4, strOfNums (sub d (k + 22) (fld d (k + 20) 2).toNat)⟩

def Enr.zero : Enr := ⟨0, 0, 0, 0, 0, 0, ⟨#[]⟩⟩

def enE (d : List Int) (at' : Int) : Int := if beE d at' 22 101010256 ≠ 0 then beE d at' 22 101010256 else if (d.length : Int) - at' - 22 < fld d (at'.toNat + 20) 2 then 122 else 0

def enA (d : List Int) (at' : Int) : Enr := if enE d at' = 0 then enG d at'.toNat else Enr.zero

def enP (d : List Int) (at' : Int) : Int := if enE d at' = 0 then at' + 22 + fld d (at'.toNat + 20) 2 else 0

theorem en_bad {d : List Int} {at' : Int} (h : enE d at' ≠ 0) : enA d at' = Enr.zero ∧ enP d at' = 0 := ⟨if_neg h, if_neg h⟩

theorem en_good {d : List Int} {k : Nat} (h : enE d k = 0) : enA d k = enG d k ∧ enP d k = (k : Int) + 22 + fld d (k + 20) 2 := ⟨if_pos h, if_pos h⟩

set_option maxHeartbeats 8000000 in
theorem getEnd_any (v : Value) (d : List Int) (at' : Int) (w : World) (h : SB w v d) (hB : Byt d) (h64 : Ok64 at') (hd : d.length ≤ 140737488355328) :
    Calls Try.prog 33 #[v, .int .i64 at'] w fun e w' => e = .returned (.tuple #[(enA d at').v, .int .i64 (enP d at'), .int .i64 (enE d at')]) ∧ Below w.heap.size w w' := by
  obtain ⟨ao, cap, rfl, q1, q2, q3⟩ := h.open11
  have HD := hide hd
  have HBy := hide hB
  obtain ⟨wb, hwb⟩ : ∃ wb, w.alloc (.cells #[.int .i64 0, .int .i64 0, .int .i64 0, .int .i64 0, .int .i64 0, .int .i64 0, .string ⟨#[]⟩] 28) = wb := ⟨_, rfl⟩
  have HB : Hid (Below w.heap.size w wb) := by rw [← hwb]; exact (Below.refl _ _).alloc (Nat.le_refl _) _
  have HRB : Hid (wb.heap[w.heap.size]? = some (.cells #[.int .i64 0, .int .i64 0, .int .i64 0, .int .i64 0, .int .i64 0, .int .i64 0, .string ⟨#[]⟩] 28 (0, 0))) := by rw [← hwb]; exact heap_alloc_new w _
  have HS : Hid (SB wb (.slice ao d.length cap) d) := SB.below h HB.out
  have HFA := hide (fieldsAt_any _ d at' 22 101010256 wb HS.out hB h64 hd (by omega) (by omega))
  obtain ⟨u0, u1⟩ := h64
  have HWS : Hid (wb.heap.size = w.heap.size + 1) := by show _ = _; rw [← hwb]; exact size_alloc' _ _
  clear h q3 hB hd
  go_enter Try.func33, Try.ntmps33
  go_wp2_with fail
  refine HFA.out.mono ?_
  rintro e w1 hfa
  rcases hfa with ⟨hne, rfl, hb1⟩ | ⟨h0, g, rfl, hx⟩
  · have HE : Hid (enE d at' = beE d at' 22 101010256) := if_pos hne
    have HE2 := hide (en_bad (d := d) (at' := at') (by rw [HE.out]; exact hne))
    obtain ⟨E, hE⟩ : ∃ E, E = beE d at' 22 101010256 := ⟨_, rfl⟩
    rw [← hE] at hne HE ⊢
    have hne' : (E != 0) = true := by simpa using hne
    have HR1 : Hid (w1.heap[w.heap.size]? = some (.cells #[.int .i64 0, .int .i64 0, .int .i64 0, .int .i64 0, .int .i64 0, .int .i64 0, .string ⟨#[]⟩] 28 (0, 0))) := (hb1.block _ (Array.getElem?_eq_some_iff.1 HRB.out).1).trans HRB.out
    have HP := hide (put7 (x0 := .int .i64 0) (x1 := .int .i64 0) (x2 := .int .i64 0) (x3 := .int .i64 0) (x4 := .int .i64 0) (x5 := .int .i64 0) (x6 := .string ⟨#[]⟩) HR1.out)
    have HPB := hide (put7_below (x0 := .int .i64 0) (x1 := .int .i64 0) (x2 := .int .i64 0) (x3 := .int .i64 0) (x4 := .int .i64 0) (x5 := .int .i64 0) (x6 := .string ⟨#[]⟩) (HB.out.trans (hb1.mono HB.out.size)) (Nat.le_refl _))
    obtain ⟨c0, c1, c2, c3, c4, c5, c6⟩ := box7 HR1.out
    have hfz := box_free HR1.out
    clear hb1 hwb hne hE
    go_wp2
    obtain ⟨z0, z1, z2, z3, z4, z5, z6⟩ := box7 HP.out
    refine bodyPost_ret (v := .tuple #[.agg #[.int .i64 0, .int .i64 0, .int .i64 0, .int .i64 0, .int .i64 0, .int .i64 0, .string ⟨#[]⟩], .int .i64 0, .int .i64 E]) (by simp [results, Try.results33, go_sem, z0, z1, z2, z3, z4, z5, z6]) rfl ?_
    rw [HE2.out.1, HE2.out.2, HE.out]
    exact ⟨rfl, HPB.out⟩
  obtain ⟨k, rfl, hk, hsig⟩ := beE_ok h0
  have HFL : Hid ((sub d k 22).length = 22) := sub_len hk
  have HFD : Hid (∀ p m, p + m ≤ 22 → fld (sub d k 22) p m = fld d (k + p) m) := fun p m hpm => fld_sub hpm
  have HX : Hid (Cx wb g (sub d k 22) 4 w1) := hx
  obtain ⟨F, hF⟩ : ∃ F, F = sub d k 22 := ⟨_, rfl⟩
  rw [← hF] at HX HFL HFD
  have hgl : g < w1.heap.size := HX.out.cu.lt
  have hga : wb.heap.size ≤ g := HX.out.g0
  obtain ⟨c, hc⟩ : ∃ c, w1.heap.size = c := ⟨_, rfl⟩
  obtain ⟨w2, hw2⟩ : ∃ w2, w1.alloc (.cells #[.int .i64 0, .int .i64 0, .int .i64 0, .int .i64 0, .int .i64 0, .int .i64 0, .string ⟨#[]⟩] 28) = w2 := ⟨_, rfl⟩
  have HX2 : Hid (Cx wb g F 4 w2) := by rw [← hw2]; exact (HX.out.alloc _).1
  have HBX : Hid (w2.heap[c]? = some (.cells #[.int .i64 0, .int .i64 0, .int .i64 0, .int .i64 0, .int .i64 0, .int .i64 0, .string ⟨#[]⟩] 28 (0, 0))) := by rw [← hw2, ← hc]; exact heap_alloc_new _ _
  have hgc : g < c := by omega
  have HGC := hide hgc
  have HH0 := hide h0
  clear hx HX hF hsig hgl hga h0 hwb HFA
  have HX := HX2
  clear HX2
  go_wp2_with fail
  refine (qu16_any HX.out (by rw [HFL.out]; omega)).mono ?_
  rintro e v0 ⟨rfl, hx, hs⟩
  obtain ⟨f0, hf0⟩ : ∃ f, f = fld F 4 2 := ⟨_, rfl⟩
  rw [← hf0]
  have HF0 : Hid (f0 = fld d (k + 4) 2) := by show _ = _; rw [hf0]; exact HFD.out 4 2 (by omega)
  have hbx : v0.heap[c]? = some (.cells #[.int .i64 0, .int .i64 0, .int .i64 0, .int .i64 0, .int .i64 0, .int .i64 0, .string ⟨#[]⟩] 28 (0, 0)) := (hs.block c (Array.getElem?_eq_some_iff.1 HBX.out).1 (by have := HGC.out; omega)).trans HBX.out
  clear HX HBX
  have HX := hide (hx.put HGC.out 0 (.int .i64 f0))
  have HBX := hide ((set7 hbx).1 (.int .i64 f0))
  have hci := (box7 hbx).1
  have hfz := box_free hbx
  clear hx hs hf0 hbx hw2
  go_wp2_with fail
  refine (qu16_any HX.out (by rw [HFL.out]; omega)).mono ?_
  rintro e v1 ⟨rfl, hx, hs⟩
  obtain ⟨f1, hf1⟩ : ∃ f, f = fld F 6 2 := ⟨_, rfl⟩
  rw [← hf1]
  have HF1 : Hid (f1 = fld d (k + 6) 2) := by show _ = _; rw [hf1]; exact HFD.out 6 2 (by omega)
  have hbx : v1.heap[c]? = some (.cells #[.int .i64 f0, .int .i64 0, .int .i64 0, .int .i64 0, .int .i64 0, .int .i64 0, .string ⟨#[]⟩] 28 (0, 0)) := (hs.block c (Array.getElem?_eq_some_iff.1 HBX.out).1 (by have := HGC.out; omega)).trans HBX.out
  clear HX HBX hci hfz
  have HX := hide (hx.put HGC.out 1 (.int .i64 f1))
  have HBX := hide ((set7 hbx).2.1 (.int .i64 f1))
  have hci := (box7 hbx).2.1
  have hfz := box_free hbx
  clear hx hs hf1 hbx
  go_wp2_with fail
  refine (qu16_any HX.out (by rw [HFL.out]; omega)).mono ?_
  rintro e v2 ⟨rfl, hx, hs⟩
  obtain ⟨f2, hf2⟩ : ∃ f, f = fld F 8 2 := ⟨_, rfl⟩
  rw [← hf2]
  have HF2 : Hid (f2 = fld d (k + 8) 2) := by show _ = _; rw [hf2]; exact HFD.out 8 2 (by omega)
  have hbx : v2.heap[c]? = some (.cells #[.int .i64 f0, .int .i64 f1, .int .i64 0, .int .i64 0, .int .i64 0, .int .i64 0, .string ⟨#[]⟩] 28 (0, 0)) := (hs.block c (Array.getElem?_eq_some_iff.1 HBX.out).1 (by have := HGC.out; omega)).trans HBX.out
  clear HX HBX hci hfz
  have HX := hide (hx.put HGC.out 2 (.int .i64 f2))
  have HBX := hide ((set7 hbx).2.2.1 (.int .i64 f2))
  have hci := (box7 hbx).2.2.1
  have hfz := box_free hbx
  clear hx hs hf2 hbx
  go_wp2_with fail
  refine (qu16_any HX.out (by rw [HFL.out]; omega)).mono ?_
  rintro e v3 ⟨rfl, hx, hs⟩
  obtain ⟨f3, hf3⟩ : ∃ f, f = fld F 10 2 := ⟨_, rfl⟩
  rw [← hf3]
  have HF3 : Hid (f3 = fld d (k + 10) 2) := by show _ = _; rw [hf3]; exact HFD.out 10 2 (by omega)
  have hbx : v3.heap[c]? = some (.cells #[.int .i64 f0, .int .i64 f1, .int .i64 f2, .int .i64 0, .int .i64 0, .int .i64 0, .string ⟨#[]⟩] 28 (0, 0)) := (hs.block c (Array.getElem?_eq_some_iff.1 HBX.out).1 (by have := HGC.out; omega)).trans HBX.out
  clear HX HBX hci hfz
  have HX := hide (hx.put HGC.out 3 (.int .i64 f3))
  have HBX := hide ((set7 hbx).2.2.2.1 (.int .i64 f3))
  have hci := (box7 hbx).2.2.2.1
  have hfz := box_free hbx
  clear hx hs hf3 hbx
  go_wp2_with fail
  refine (qu32_any HX.out (by rw [HFL.out]; omega)).mono ?_
  rintro e v4 ⟨rfl, hx, hs⟩
  obtain ⟨f4, hf4⟩ : ∃ f, f = fld F 12 4 := ⟨_, rfl⟩
  rw [← hf4]
  have HF4 : Hid (f4 = fld d (k + 12) 4) := by show _ = _; rw [hf4]; exact HFD.out 12 4 (by omega)
  have hbx : v4.heap[c]? = some (.cells #[.int .i64 f0, .int .i64 f1, .int .i64 f2, .int .i64 f3, .int .i64 0, .int .i64 0, .string ⟨#[]⟩] 28 (0, 0)) := (hs.block c (Array.getElem?_eq_some_iff.1 HBX.out).1 (by have := HGC.out; omega)).trans HBX.out
  clear HX HBX hci hfz
  have HX := hide (hx.put HGC.out 4 (.int .i64 f4))
  have HBX := hide ((set7 hbx).2.2.2.2.1 (.int .i64 f4))
  have hci := (box7 hbx).2.2.2.2.1
  have hfz := box_free hbx
  clear hx hs hf4 hbx
  go_wp2_with fail
  refine (qu32_any HX.out (by rw [HFL.out]; omega)).mono ?_
  rintro e v5 ⟨rfl, hx, hs⟩
  obtain ⟨f5, hf5⟩ : ∃ f, f = fld F 16 4 := ⟨_, rfl⟩
  rw [← hf5]
  have HF5 : Hid (f5 = fld d (k + 16) 4) := by show _ = _; rw [hf5]; exact HFD.out 16 4 (by omega)
  have hbx : v5.heap[c]? = some (.cells #[.int .i64 f0, .int .i64 f1, .int .i64 f2, .int .i64 f3, .int .i64 f4, .int .i64 0, .string ⟨#[]⟩] 28 (0, 0)) := (hs.block c (Array.getElem?_eq_some_iff.1 HBX.out).1 (by have := HGC.out; omega)).trans HBX.out
  clear HX HBX hci hfz
  have HX := hide (hx.put HGC.out 5 (.int .i64 f5))
  have HBX := hide ((set7 hbx).2.2.2.2.2.1 (.int .i64 f5))
  have hci := (box7 hbx).2.2.2.2.2.1
  have hfz := box_free hbx
  clear hx hs hf5 hbx
  go_wp2_with fail
  refine (qu16_any HX.out (by rw [HFL.out]; omega)).mono ?_
  rintro e v6 ⟨rfl, hx, hs⟩
  have HNB : Hid (fld F 20 2 = fld d (k + 20) 2) := HFD.out 20 2 (by omega)
  have hnb := fld2 HBy.out (k + 20)
  rw [HNB.out]
  obtain ⟨n, hn⟩ : ∃ n : Nat, fld d (k + 20) 2 = (n : Int) := ⟨(fld d (k + 20) 2).toNat, by omega⟩
  rw [hn]
  have HN := hide hn
  have hn1 : n ≤ 65535 := by omega
  have hbx : v6.heap[c]? = some (.cells #[.int .i64 f0, .int .i64 f1, .int .i64 f2, .int .i64 f3, .int .i64 f4, .int .i64 f5, .string ⟨#[]⟩] 28 (0, 0)) := (hs.block c (Array.getElem?_eq_some_iff.1 HBX.out).1 (by have := HGC.out; omega)).trans HBX.out
  have HB6 : Hid (Below w.heap.size w v6) := HB.out.trans (hx.bel.mono HB.out.size)
  have HS6 : Hid (SB v6 (.slice ao d.length cap) d) := SB.below HS.out hx.bel
  have HR6 : Hid (v6.heap[w.heap.size]? = some (.cells #[.int .i64 0, .int .i64 0, .int .i64 0, .int .i64 0, .int .i64 0, .int .i64 0, .string ⟨#[]⟩] 28 (0, 0))) := (hx.bel.block _ (Array.getElem?_eq_some_iff.1 HRB.out).1).trans HRB.out
  obtain ⟨j, hj⟩ : ∃ j, j = k + 22 := ⟨_, rfl⟩
  have ej : (k : Int) + 22 = (j : Int) := by omega
  have HJ := hide hj
  have hjd : j ≤ d.length := by omega
  have HTX := hide (textsAt_any _ d j n v6 HS6.out HBy.out hjd HD.out (by omega))
  have HBX6 := hide hbx
  have hrc : w.heap.size ≠ c := by have := HWS.out; have := HX.out.g0; omega
  have HRC := hide hrc
  have HWC : Hid (w.heap.size ≤ c) := by show _ ≤ _; have := HWS.out; have := HX.out.g0; have := HGC.out; omega
  have HCL : Hid (c < v6.heap.size) := (Array.getElem?_eq_some_iff.1 hbx).1
  clear HX HBX hci hfz hx hs hbx hn hnb hrc HNB HFD HFL hj
  go_wp2_with fail
  refine HTX.out.mono ?_
  rintro e v7 ⟨gt, rfl, hcx⟩
  have HY := hide hcx.cy
  have HB7 : Hid (Below w.heap.size w v7) := HB6.out.trans (hcx.bel.mono HB6.out.size)
  have HBX7 : Hid (v7.heap[c]? = some (.cells #[.int .i64 f0, .int .i64 f1, .int .i64 f2, .int .i64 f3, .int .i64 f4, .int .i64 f5, .string ⟨#[]⟩] 28 (0, 0))) := (hcx.bel.block _ HCL.out).trans HBX6.out
  have HR7 : Hid (v7.heap[w.heap.size]? = some (.cells #[.int .i64 0, .int .i64 0, .int .i64 0, .int .i64 0, .int .i64 0, .int .i64 0, .string ⟨#[]⟩] 28 (0, 0))) := (hcx.bel.block _ (Array.getElem?_eq_some_iff.1 HR6.out).1).trans HR6.out
  have HGT : Hid (v6.heap.size ≤ gt) := hcx.g0
  clear hcx HTX HBX6 HR6 HB6 HS6
  go_wp2_with fail
  refine (ytext_any HY.out (n : Int)).mono ?_
  rintro e v8 ⟨rfl, hy, ht⟩
  obtain ⟨S, hS⟩ : ∃ S, S = strOfNums (nextL ⟨sub d j n, 0, 0⟩ (n : Int)) := ⟨_, rfl⟩
  rw [← hS]
  have HSS := hide hS
  have hcg : c ≠ gt := by have := HCL.out; have := HGT.out; omega
  have hwg : w.heap.size ≠ gt := by have := HWC.out; have := HCL.out; have := HGT.out; omega
  have hbx : v8.heap[c]? = some (.cells #[.int .i64 f0, .int .i64 f1, .int .i64 f2, .int .i64 f3, .int .i64 f4, .int .i64 f5, .string ⟨#[]⟩] 28 (0, 0)) := (ht.2 c (Array.getElem?_eq_some_iff.1 HBX7.out).1 hcg).trans HBX7.out
  have hr8 : v8.heap[w.heap.size]? = some (.cells #[.int .i64 0, .int .i64 0, .int .i64 0, .int .i64 0, .int .i64 0, .int .i64 0, .string ⟨#[]⟩] 28 (0, 0)) := (ht.2 _ (Array.getElem?_eq_some_iff.1 HR7.out).1 hwg).trans HR7.out
  have HB9 : Hid (Below w.heap.size w (v8.setCell ⟨c, 6, none⟩ (.string S))) := (HB7.out.trans (ht.1.mono (by have := HWC.out; have := HCL.out; omega))).setCell (p := ⟨c, 6, none⟩) HWC.out _
  have HY9 : Hid (Cy v6.heap.size gt (nextSt ⟨sub d j n, 0, 0⟩ (n : Int)) (v8.setCell ⟨c, 6, none⟩ (.string S))) := hy.put HCL.out 6 _
  have HBX9 : Hid ((v8.setCell ⟨c, 6, none⟩ (.string S)).heap[c]? = some (.cells #[.int .i64 f0, .int .i64 f1, .int .i64 f2, .int .i64 f3, .int .i64 f4, .int .i64 f5, .string S] 28 (0, 0))) := (set7 hbx).2.2.2.2.2.2 _
  have HR9 : Hid ((v8.setCell ⟨c, 6, none⟩ (.string S)).heap[w.heap.size]? = some (.cells #[.int .i64 0, .int .i64 0, .int .i64 0, .int .i64 0, .int .i64 0, .int .i64 0, .string ⟨#[]⟩] 28 (0, 0))) := (setCell_others _ _ _ _ _ HRC.out).trans hr8
  have hci := (box7 hbx).2.2.2.2.2.2
  have hfz := box_free hbx
  obtain ⟨w9, hw9⟩ : ∃ w9, v8.setCell ⟨c, 6, none⟩ (.string S) = w9 := ⟨_, rfl⟩
  rw [hw9] at HB9 HY9 HBX9 HR9
  clear hy ht hbx hr8 HY HB7 HBX7 HR7 hS hcg hwg
  by_cases hful : j + n ≤ d.length
  · have HLD : Hid ((sub d j n).length = n) := sub_len hful
    obtain ⟨s1, s2⟩ := next_st (d := sub d j n) (p := 0) (n := n) (by rw [HLD.out]; omega)
    rw [s1] at HY9
    have HE0 : Hid (enE d k = 0) := by
      show _ = _
      unfold enE
      rw [if_neg (by rw [HH0.out]; simp), if_neg]
      rw [Int.toNat_natCast, HN.out]
      have := HJ.out
      omega
    have HG := hide (en_good HE0.out)
    have HSV : Hid (S = strOfNums (sub d (k + 22) n)) := by
      show _ = _
      rw [HSS.out, s2, HJ.out]
      congr 1
      rw [sub_sub (by omega)]
    obtain ⟨r, hr⟩ : ∃ r, r = j + n := ⟨_, rfl⟩
    have er : (j : Int) + (n : Int) = (r : Int) := by omega
    have HR0 := hide hr
    have hrd : r ≤ d.length := by omega
    have HAV : Hid ((enA d k).v = .agg #[.int .i64 f0, .int .i64 f1, .int .i64 f2, .int .i64 f3, .int .i64 f4, .int .i64 f5, .string S]) := by
      show _ = _
      rw [HG.out.1, HF0.out, HF1.out, HF2.out, HF3.out, HF4.out, HF5.out, HSV.out]
      unfold enG
      rw [HN.out]
      rfl
    have HPV : Hid (enP d k = (r : Int)) := by
      show _ = _
      rw [HG.out.2, HN.out, HR0.out]
      have := HJ.out
      omega
    have HED := HD.out
    clear s1 s2 hr
    go_wp2_with fail
    refine (err_any HY9.out.cu).mono ?_
    rintro e w10 ⟨rfl, rfl⟩
    have HAT : Hid (Calls Try.prog 29 #[.pointer (some ⟨gt, 0, none⟩)] w10.drew fun e w' => e = .returned (.int .i64 (n : Int)) ∧ w' = w10.drew) := by
      have := at_any (st := ⟨sub d j n, 0 + n, 0⟩) (HY9.out.cu.drewN 1)
      rw [Nat.zero_add] at this
      exact this
    obtain ⟨b0, b1, b2, b3, b4, b5, b6⟩ := box7 HBX9.out
    obtain ⟨r0, r1, r2, r3, r4, r5, r6⟩ := box7 HR9.out
    have hfb := box_free HR9.out
    have HP := hide (put7d (x0 := .int .i64 f0) (x1 := .int .i64 f1) (x2 := .int .i64 f2) (x3 := .int .i64 f3) (x4 := .int .i64 f4) (x5 := .int .i64 f5) (x6 := .string S) HR9.out)
    have HPB := hide (put7d_below (x0 := .int .i64 f0) (x1 := .int .i64 f1) (x2 := .int .i64 f2) (x3 := .int .i64 f3) (x4 := .int .i64 f4) (x5 := .int .i64 f5) (x6 := .string S) HB9.out (Nat.le_refl _))
    have ew1 : IntKind.i64.wrap (j : Int) = (j : Int) := by rw [IntKind.wrap_i64]; omega
    have ew3 : IntKind.i64.wrap (r : Int) = (r : Int) := by rw [IntKind.wrap_i64]; omega
    clear hci hfz hw9
    go_wp2
    go_region_with (go_at_call 29; with_reducible refine HAT.out.mono ?_; rintro e w11 ⟨rfl, rfl⟩)
    all_goals (
      go_simp
      go_wp2
      obtain ⟨z0, z1, z2, z3, z4, z5, z6⟩ := box7 HP.out
      refine bodyPost_ret (v := .tuple #[.agg #[.int .i64 f0, .int .i64 f1, .int .i64 f2, .int .i64 f3, .int .i64 f4, .int .i64 f5, .string S], .int .i64 (r : Int), .int .i64 0]) (by simp [results, Try.results33, go_sem, z0, z1, z2, z3, z4, z5, z6]) rfl ?_
      rw [HAV.out, HPV.out, HE0.out]
      exact ⟨rfl, HPB.out⟩)
  · have HE0 : Hid (enE d k = 122) := by
      show _ = _
      unfold enE
      rw [if_neg (by rw [HH0.out]; simp), if_pos]
      rw [Int.toNat_natCast, HN.out]
      have := HJ.out
      omega
    have HBAD := hide (en_bad (d := d) (at' := k) (by rw [HE0.out]; omega))
    have hls : (sub d j n).length < 0 + n := by unfold sub; rw [List.length_take, List.length_drop]; omega
    rw [next_short hls] at HY9
    have HP := hide (put7 (x0 := .int .i64 0) (x1 := .int .i64 0) (x2 := .int .i64 0) (x3 := .int .i64 0) (x4 := .int .i64 0) (x5 := .int .i64 0) (x6 := .string ⟨#[]⟩) HR9.out)
    have HPB := hide (put7_below (x0 := .int .i64 0) (x1 := .int .i64 0) (x2 := .int .i64 0) (x3 := .int .i64 0) (x4 := .int .i64 0) (x5 := .int .i64 0) (x6 := .string ⟨#[]⟩) HB9.out (Nat.le_refl _))
    clear hls
    go_wp2_with fail
    refine (err_any HY9.out.cu).mono ?_
    rintro e w10 ⟨rfl, rfl⟩
    obtain ⟨r0, r1, r2, r3, r4, r5, r6⟩ := box7 HR9.out
    have hfb := box_free HR9.out
    clear hci hfz hw9
    go_wp2
    obtain ⟨z0, z1, z2, z3, z4, z5, z6⟩ := box7 HP.out
    refine bodyPost_ret (v := .tuple #[.agg #[.int .i64 0, .int .i64 0, .int .i64 0, .int .i64 0, .int .i64 0, .int .i64 0, .string ⟨#[]⟩], .int .i64 0, .int .i64 122]) (by simp [results, Try.results33, go_sem, z0, z1, z2, z3, z4, z5, z6]) rfl ?_
    rw [HBAD.out.1, HBAD.out.2, HE0.out]
    exact ⟨rfl, HPB.out⟩
end Go.Proofs.Ytijmmfimkibgbaa

