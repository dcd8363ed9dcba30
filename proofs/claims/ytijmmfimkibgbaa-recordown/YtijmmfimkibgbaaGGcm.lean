import Derived.Test.YtijmmfimkibgbaaGCty
namespace Go.Proofs.Ytijmmfimkibgbaa
open Go.RowKit Go.Maps
set_option maxRecDepth 20000
set_option linter.unusedVariables false
set_option linter.unusedSimpArgs false

/-- The fields that both headers have, at a place, in numbers. -/
def rdG (d : List Int) (k : Nat) : Loc := ⟨fld d k 2, fld d (k + 2) 2, fld d (k + 4) 2, fld d (k + 6) 2, fld d (k + 8) 2, fld d (k + 10) 4, fld d (k + 14) 4, fld d (k + 18) 4, ⟨#[]⟩, ⟨#[]⟩⟩

theorem Cst.trans {a b c : World} {g : Nat} (h : Cst a g b) (k : Cst b g c) : Cst a g c :=
  ⟨fun i hi hg => (k.block i (Nat.lt_of_lt_of_le hi h.size) hg).trans (h.block i hi hg), Nat.le_trans h.size k.size⟩

theorem Cst.set {a b : World} {g : Nat} (h : Cst a g b) {c : Nat} (hc : a.heap.size ≤ c) (i : Nat) (u : Value) : Cst a g (b.setCell ⟨c, i, none⟩ u) :=
  ⟨fun k hk hg => (setCell_others b c i u k (by omega)).trans (h.block k hk hg), by rw [size_setCell]; exact h.size⟩

theorem Cst.alloc (w : World) (g : Nat) (o : Obj) : Cst w g (w.alloc o) := ⟨fun k hk _ => Below.heap_alloc w o k hk, by rw [size_alloc']; omega⟩

set_option maxHeartbeats 8000000 in
theorem getCommon_any {w0 w : World} {g : Nat} {F : List Int} {p : Nat} (h : Cx w0 g F p w) (hp : p + 26 ≤ F.length) (hB : Byt F) :
    Calls Try.prog 24 #[.pointer (some ⟨g, 0, none⟩)] w fun e w' => e = .returned (.tuple #[(rdG F p).v, .int .i64 (fld F (p + 22) 2), .int .i64 (fld F (p + 24) 2)]) ∧ Cx w0 g F (p + 26) w' ∧ Cst w g w' := by
  have HBy := hide hB
  have HPL := hide hp
  obtain ⟨RV, hRV⟩ : ∃ V, V = (rdG F p).v := ⟨_, rfl⟩
  rw [← hRV]
  have HRV := hide hRV
  obtain ⟨c, hc⟩ : ∃ c, w.heap.size = c := ⟨_, rfl⟩
  obtain ⟨w2, hw2⟩ : ∃ w2, w.alloc (.cells #[.int .i64 0, .int .i64 0, .int .i64 0, .int .i64 0, .int .i64 0, .int .u32 0, .int .i64 0, .int .i64 0, .string ⟨#[]⟩, .string ⟨#[]⟩] 24) = w2 := ⟨_, rfl⟩
  have HX : Hid (Cx w0 g F p w2) := by rw [← hw2]; exact (h.alloc _).1
  have HGC : Hid (g < c) := by rw [← hc]; exact (h.alloc (.cells #[] 0)).2
  have HBX : Hid (w2.heap[c]? = some (.cells #[.int .i64 0, .int .i64 0, .int .i64 0, .int .i64 0, .int .i64 0, .int .u32 0, .int .i64 0, .int .i64 0, .string ⟨#[]⟩, .string ⟨#[]⟩] 24 (0, 0))) := by rw [← hw2, ← hc]; exact heap_alloc_new _ _
  have HCS : Hid (Cst w g w2) := by rw [← hw2]; exact Cst.alloc _ _ _
  have HWC : Hid (w.heap.size ≤ c) := Nat.le_of_eq hc
  clear h hRV hB hp
  go_enter Try.func24, Try.ntmps24
  go_wp2_with fail
  refine (qu16_any HX.out (by have := HPL.out; omega)).mono ?_
  rintro e v0 ⟨rfl, hx, hs⟩
  obtain ⟨f0, hf0⟩ : ∃ f, f = fld F p 2 := ⟨_, rfl⟩
  have ef : fld F p 2 = f0 := hf0.symm
  rw [ef]
  have HF0 := hide hf0
  have hbx : v0.heap[c]? = some (.cells #[.int .i64 0, .int .i64 0, .int .i64 0, .int .i64 0, .int .i64 0, .int .u32 0, .int .i64 0, .int .i64 0, .string ⟨#[]⟩, .string ⟨#[]⟩] 24 (0, 0)) := (hs.block c (Array.getElem?_eq_some_iff.1 HBX.out).1 (by have := HGC.out; omega)).trans HBX.out
  have HCS2 := hide ((HCS.out.trans hs).set HWC.out 0 (.int .i64 f0))
  clear HX HBX HCS
  have HCS := HCS2
  have HX := hide (hx.put HGC.out 0 (.int .i64 f0))
  have HBX := hide ((set10 hbx).1 (.int .i64 f0))
  have hci := (box10 hbx).1
  have hfz := box_free hbx
  clear hx hs hf0 hbx ef HCS2 hw2
  go_wp2_with fail
  refine (qu16_any HX.out (by have := HPL.out; omega)).mono ?_
  rintro e v1 ⟨rfl, hx, hs⟩
  obtain ⟨f1, hf1⟩ : ∃ f, f = fld F (p + 2) 2 := ⟨_, rfl⟩
  have ef : fld F (p + 2) 2 = f1 := hf1.symm
  rw [ef]
  have HF1 := hide hf1
  have hbx : v1.heap[c]? = some (.cells #[.int .i64 f0, .int .i64 0, .int .i64 0, .int .i64 0, .int .i64 0, .int .u32 0, .int .i64 0, .int .i64 0, .string ⟨#[]⟩, .string ⟨#[]⟩] 24 (0, 0)) := (hs.block c (Array.getElem?_eq_some_iff.1 HBX.out).1 (by have := HGC.out; omega)).trans HBX.out
  have HCS2 := hide ((HCS.out.trans hs).set HWC.out 1 (.int .i64 f1))
  clear HX HBX HCS hci hfz
  have HCS := HCS2
  have HX := hide (hx.put HGC.out 1 (.int .i64 f1))
  have HBX := hide ((set10 hbx).2.1 (.int .i64 f1))
  have hci := (box10 hbx).2.1
  have hfz := box_free hbx
  clear hx hs hf1 hbx ef HCS2
  go_wp2_with fail
  refine (qu16_any HX.out (by have := HPL.out; omega)).mono ?_
  rintro e v2 ⟨rfl, hx, hs⟩
  obtain ⟨f2, hf2⟩ : ∃ f, f = fld F (p + 4) 2 := ⟨_, rfl⟩
  have ef : fld F (p + 4) 2 = f2 := hf2.symm
  rw [ef]
  have HF2 := hide hf2
  have hbx : v2.heap[c]? = some (.cells #[.int .i64 f0, .int .i64 f1, .int .i64 0, .int .i64 0, .int .i64 0, .int .u32 0, .int .i64 0, .int .i64 0, .string ⟨#[]⟩, .string ⟨#[]⟩] 24 (0, 0)) := (hs.block c (Array.getElem?_eq_some_iff.1 HBX.out).1 (by have := HGC.out; omega)).trans HBX.out
  have HCS2 := hide ((HCS.out.trans hs).set HWC.out 2 (.int .i64 f2))
  clear HX HBX HCS hci hfz
  have HCS := HCS2
  have HX := hide (hx.put HGC.out 2 (.int .i64 f2))
  have HBX := hide ((set10 hbx).2.2.1 (.int .i64 f2))
  have hci := (box10 hbx).2.2.1
  have hfz := box_free hbx
  clear hx hs hf2 hbx ef HCS2
  go_wp2_with fail
  refine (qu16_any HX.out (by have := HPL.out; omega)).mono ?_
  rintro e v3 ⟨rfl, hx, hs⟩
  obtain ⟨f3, hf3⟩ : ∃ f, f = fld F (p + 6) 2 := ⟨_, rfl⟩
  have ef : fld F (p + 6) 2 = f3 := hf3.symm
  rw [ef]
  have HF3 := hide hf3
  have hbx : v3.heap[c]? = some (.cells #[.int .i64 f0, .int .i64 f1, .int .i64 f2, .int .i64 0, .int .i64 0, .int .u32 0, .int .i64 0, .int .i64 0, .string ⟨#[]⟩, .string ⟨#[]⟩] 24 (0, 0)) := (hs.block c (Array.getElem?_eq_some_iff.1 HBX.out).1 (by have := HGC.out; omega)).trans HBX.out
  have HCS2 := hide ((HCS.out.trans hs).set HWC.out 3 (.int .i64 f3))
  clear HX HBX HCS hci hfz
  have HCS := HCS2
  have HX := hide (hx.put HGC.out 3 (.int .i64 f3))
  have HBX := hide ((set10 hbx).2.2.2.1 (.int .i64 f3))
  have hci := (box10 hbx).2.2.2.1
  have hfz := box_free hbx
  clear hx hs hf3 hbx ef HCS2
  go_wp2_with fail
  refine (qu16_any HX.out (by have := HPL.out; omega)).mono ?_
  rintro e v4 ⟨rfl, hx, hs⟩
  obtain ⟨f4, hf4⟩ : ∃ f, f = fld F (p + 8) 2 := ⟨_, rfl⟩
  have ef : fld F (p + 8) 2 = f4 := hf4.symm
  rw [ef]
  have HF4 := hide hf4
  have hbx : v4.heap[c]? = some (.cells #[.int .i64 f0, .int .i64 f1, .int .i64 f2, .int .i64 f3, .int .i64 0, .int .u32 0, .int .i64 0, .int .i64 0, .string ⟨#[]⟩, .string ⟨#[]⟩] 24 (0, 0)) := (hs.block c (Array.getElem?_eq_some_iff.1 HBX.out).1 (by have := HGC.out; omega)).trans HBX.out
  have HCS2 := hide ((HCS.out.trans hs).set HWC.out 4 (.int .i64 f4))
  clear HX HBX HCS hci hfz
  have HCS := HCS2
  have HX := hide (hx.put HGC.out 4 (.int .i64 f4))
  have HBX := hide ((set10 hbx).2.2.2.2.1 (.int .i64 f4))
  have hci := (box10 hbx).2.2.2.2.1
  have hfz := box_free hbx
  clear hx hs hf4 hbx ef HCS2
  go_wp2_with fail
  refine (qu32_any HX.out (by have := HPL.out; omega)).mono ?_
  rintro e v5 ⟨rfl, hx, hs⟩
  obtain ⟨f5, hf5⟩ : ∃ f, f = fld F (p + 10) 4 := ⟨_, rfl⟩
  have ef : fld F (p + 10) 4 = f5 := hf5.symm
  rw [ef]
  have HF5 := hide hf5
  have hw5 : IntKind.u32.wrap f5 = f5 := by have := fld4 HBy.out (p + 10); rw [ef] at this; rw [IntKind.wrap_u32]; omega
  have hbx : v5.heap[c]? = some (.cells #[.int .i64 f0, .int .i64 f1, .int .i64 f2, .int .i64 f3, .int .i64 f4, .int .u32 0, .int .i64 0, .int .i64 0, .string ⟨#[]⟩, .string ⟨#[]⟩] 24 (0, 0)) := (hs.block c (Array.getElem?_eq_some_iff.1 HBX.out).1 (by have := HGC.out; omega)).trans HBX.out
  have HCS2 := hide ((HCS.out.trans hs).set HWC.out 5 (.int .u32 f5))
  clear HX HBX HCS hci hfz
  have HCS := HCS2
  have HX := hide (hx.put HGC.out 5 (.int .u32 f5))
  have HBX := hide ((set10 hbx).2.2.2.2.2.1 (.int .u32 f5))
  have hci := (box10 hbx).2.2.2.2.2.1
  have hfz := box_free hbx
  clear hx hs hf5 hbx ef HCS2
  go_wp2_with fail
  refine (qu32_any HX.out (by have := HPL.out; omega)).mono ?_
  rintro e v6 ⟨rfl, hx, hs⟩
  obtain ⟨f6, hf6⟩ : ∃ f, f = fld F (p + 14) 4 := ⟨_, rfl⟩
  have ef : fld F (p + 14) 4 = f6 := hf6.symm
  rw [ef]
  have HF6 := hide hf6
  have hbx : v6.heap[c]? = some (.cells #[.int .i64 f0, .int .i64 f1, .int .i64 f2, .int .i64 f3, .int .i64 f4, .int .u32 f5, .int .i64 0, .int .i64 0, .string ⟨#[]⟩, .string ⟨#[]⟩] 24 (0, 0)) := (hs.block c (Array.getElem?_eq_some_iff.1 HBX.out).1 (by have := HGC.out; omega)).trans HBX.out
  have HCS2 := hide ((HCS.out.trans hs).set HWC.out 6 (.int .i64 f6))
  clear HX HBX HCS hci hfz
  have HCS := HCS2
  have HX := hide (hx.put HGC.out 6 (.int .i64 f6))
  have HBX := hide ((set10 hbx).2.2.2.2.2.2.1 (.int .i64 f6))
  have hci := (box10 hbx).2.2.2.2.2.2.1
  have hfz := box_free hbx
  clear hx hs hf6 hbx ef HCS2
  go_wp2_with fail
  refine (qu32_any HX.out (by have := HPL.out; omega)).mono ?_
  rintro e v7 ⟨rfl, hx, hs⟩
  obtain ⟨f7, hf7⟩ : ∃ f, f = fld F (p + 18) 4 := ⟨_, rfl⟩
  have ef : fld F (p + 18) 4 = f7 := hf7.symm
  rw [ef]
  have HF7 := hide hf7
  have hbx : v7.heap[c]? = some (.cells #[.int .i64 f0, .int .i64 f1, .int .i64 f2, .int .i64 f3, .int .i64 f4, .int .u32 f5, .int .i64 f6, .int .i64 0, .string ⟨#[]⟩, .string ⟨#[]⟩] 24 (0, 0)) := (hs.block c (Array.getElem?_eq_some_iff.1 HBX.out).1 (by have := HGC.out; omega)).trans HBX.out
  have HCS2 := hide ((HCS.out.trans hs).set HWC.out 7 (.int .i64 f7))
  clear HX HBX HCS hci hfz
  have HCS := HCS2
  have HX := hide (hx.put HGC.out 7 (.int .i64 f7))
  have HBX := hide ((set10 hbx).2.2.2.2.2.2.2.1 (.int .i64 f7))
  have hci := (box10 hbx).2.2.2.2.2.2.2.1
  have hfz := box_free hbx
  clear hx hs hf7 hbx ef HCS2
  go_wp2_with fail
  refine (qu16_any HX.out (by have := HPL.out; omega)).mono ?_
  rintro e v8 ⟨rfl, hx, hs⟩
  have hbx : v8.heap[c]? = some (.cells #[.int .i64 f0, .int .i64 f1, .int .i64 f2, .int .i64 f3, .int .i64 f4, .int .u32 f5, .int .i64 f6, .int .i64 f7, .string ⟨#[]⟩, .string ⟨#[]⟩] 24 (0, 0)) := (hs.block c (Array.getElem?_eq_some_iff.1 HBX.out).1 (by have := HGC.out; omega)).trans HBX.out
  have HCS2 := hide (HCS.out.trans hs)
  obtain ⟨n1, hn1⟩ : ∃ n, n = fld F (p + 22) 2 := ⟨_, rfl⟩
  have ef : fld F (p + 22) 2 = n1 := hn1.symm
  rw [ef]
  clear HX HBX HCS hci hfz hw5
  have HX := hide hx
  have HBX := hide hbx
  have HCS := HCS2
  clear hx hs hbx HCS2 hn1
  go_wp2_with fail
  refine (qu16_any HX.out (by have := HPL.out; omega)).mono ?_
  rintro e v9 ⟨rfl, hx, hs⟩
  have hbx : v9.heap[c]? = some (.cells #[.int .i64 f0, .int .i64 f1, .int .i64 f2, .int .i64 f3, .int .i64 f4, .int .u32 f5, .int .i64 f6, .int .i64 f7, .string ⟨#[]⟩, .string ⟨#[]⟩] 24 (0, 0)) := (hs.block c (Array.getElem?_eq_some_iff.1 HBX.out).1 (by have := HGC.out; omega)).trans HBX.out
  have HCS2 := hide (HCS.out.trans hs)
  obtain ⟨n2, hn2⟩ : ∃ n, n = fld F (p + 24) 2 := ⟨_, rfl⟩
  have ef2 : fld F (p + 24) 2 = n2 := hn2.symm
  rw [ef2]
  have HP := hide (put10 (x0 := .int .i64 f0) (x1 := .int .i64 f1) (x2 := .int .i64 f2) (x3 := .int .i64 f3) (x4 := .int .i64 f4) (x5 := .int .u32 f5) (x6 := .int .i64 f6) (x7 := .int .i64 f7) (x8 := .string ⟨#[]⟩) (x9 := .string ⟨#[]⟩) hbx)
  have HCX : Hid (Cx w0 g F (p + 26) (((((((((v9.setCell ⟨c, 0, none⟩ (.int .i64 f0)).setCell ⟨c, 1, none⟩ (.int .i64 f1)).setCell ⟨c, 2, none⟩ (.int .i64 f2)).setCell ⟨c, 3, none⟩ (.int .i64 f3)).setCell ⟨c, 4, none⟩ (.int .i64 f4)).setCell ⟨c, 5, none⟩ (.int .u32 f5)).setCell ⟨c, 6, none⟩ (.int .i64 f6)).setCell ⟨c, 7, none⟩ (.int .i64 f7)).setCell ⟨c, 8, none⟩ (.string ⟨#[]⟩) |>.setCell ⟨c, 9, none⟩ (.string ⟨#[]⟩))) := (((((((((hx.put HGC.out 0 _).put HGC.out 1 _).put HGC.out 2 _).put HGC.out 3 _).put HGC.out 4 _).put HGC.out 5 _).put HGC.out 6 _).put HGC.out 7 _).put HGC.out 8 _).put HGC.out 9 _
  have HCC := hide (((((((((((HCS2.out.set HWC.out 0 (.int .i64 f0)).set HWC.out 1 (.int .i64 f1)).set HWC.out 2 (.int .i64 f2)).set HWC.out 3 (.int .i64 f3)).set HWC.out 4 (.int .i64 f4)).set HWC.out 5 (.int .u32 f5)).set HWC.out 6 (.int .i64 f6)).set HWC.out 7 (.int .i64 f7)).set HWC.out 8 (.string ⟨#[]⟩)).set HWC.out 9 (.string ⟨#[]⟩)))
  obtain ⟨c0, c1, c2, c3, c4, c5, c6, c7, c8, c9⟩ := box10 hbx
  have hfz := box_free hbx
  have HVV : Hid (RV = .agg #[.int .i64 f0, .int .i64 f1, .int .i64 f2, .int .i64 f3, .int .i64 f4, .int .u32 f5, .int .i64 f6, .int .i64 f7, .string ⟨#[]⟩, .string ⟨#[]⟩]) := by
    show _ = _
    rw [HRV.out, HF0.out, HF1.out, HF2.out, HF3.out, HF4.out, HF5.out, HF6.out, HF7.out]
    rfl
  clear HX HBX HCS hx hs hbx hn2 HCS2
  go_wp2
  obtain ⟨z0, z1, z2, z3, z4, z5, z6, z7, z8, z9⟩ := box10 HP.out
  refine bodyPost_ret (v := .tuple #[.agg #[.int .i64 f0, .int .i64 f1, .int .i64 f2, .int .i64 f3, .int .i64 f4, .int .u32 f5, .int .i64 f6, .int .i64 f7, .string ⟨#[]⟩, .string ⟨#[]⟩], .int .i64 n1, .int .i64 n2]) (by simp [results, Try.results24, go_sem, z0, z1, z2, z3, z4, z5, z6, z7, z8, z9]) rfl ?_
  rw [HVV.out, ef, ef2]
  exact ⟨rfl, HCX.out, HCC.out⟩
end Go.Proofs.Ytijmmfimkibgbaa

