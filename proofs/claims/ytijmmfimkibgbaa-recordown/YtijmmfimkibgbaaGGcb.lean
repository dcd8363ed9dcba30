import Derived.Test.YtijmmfimkibgbaaGGcd
namespace Go.Proofs.Ytijmmfimkibgbaa
open Go.RowKit Go.Maps
set_option maxRecDepth 20000
set_option linter.unusedVariables false
set_option linter.unusedSimpArgs false

set_option maxHeartbeats 16000000 in
theorem getCentral_bad (v : Value) (d : List Int) (at' : Int) (w : World) (h : SB w v d) (hB : Byt d) (h64 : Ok64 at') (hd : d.length ≤ 140737488355328) (hE : beE d at' 46 33639248 ≠ 0) :
    Calls Try.prog 10 #[v, .int .i64 at'] w fun e w' => e = .returned (.tuple #[(ceA d at').v, .int .i64 (ceP d at'), .int .i64 (ceE d at')]) ∧ Below w.heap.size w w' := by
  obtain ⟨ao, cap, rfl, q1, q2, q3⟩ := h.open11
  have HD := hide hd
  have HBy := hide hB
  obtain ⟨wb, hwb⟩ : ∃ wb, w.alloc (.cells #[.int .i64 0, .int .i64 0, .int .i64 0, .int .i64 0, .int .i64 0, .int .u32 0, .int .i64 0, .int .i64 0, .string ⟨#[]⟩, .string ⟨#[]⟩, .int .i64 0, .int .i64 0, .int .i64 0, .int .i64 0, .int .i64 0, .string ⟨#[]⟩] 26) = wb := ⟨_, rfl⟩
  have HB : Hid (Below w.heap.size w wb) := by rw [← hwb]; exact (Below.refl _ _).alloc (Nat.le_refl _) _
  have HRB : Hid (wb.heap[w.heap.size]? = some (.cells #[.int .i64 0, .int .i64 0, .int .i64 0, .int .i64 0, .int .i64 0, .int .u32 0, .int .i64 0, .int .i64 0, .string ⟨#[]⟩, .string ⟨#[]⟩, .int .i64 0, .int .i64 0, .int .i64 0, .int .i64 0, .int .i64 0, .string ⟨#[]⟩] 26 (0, 0))) := by rw [← hwb]; exact heap_alloc_new w _
  have HS : Hid (SB wb (.slice ao d.length cap) d) := SB.below h HB.out
  have HFA := hide (fieldsAt_any _ d at' 46 33639248 wb HS.out hB h64 hd (by omega) (by omega))
  obtain ⟨u0, u1⟩ := h64
  clear h q3 hB hd
  go_enter Try.func10, Try.ntmps10
  go_wp2_with fail
  refine HFA.out.mono ?_
  rintro e w1 hfa
  rcases hfa with ⟨hne, rfl, hb1⟩ | ⟨h0, g, rfl, hx⟩
  · have HE : Hid (ceE d at' = beE d at' 46 33639248) := if_pos hne
    have HE2 := hide (ce_bad (d := d) (at' := at') (by rw [HE.out]; exact hne))
    obtain ⟨E, hE⟩ : ∃ E, E = beE d at' 46 33639248 := ⟨_, rfl⟩
    rw [← hE] at hne HE ⊢
    have hne' : (E != 0) = true := by simpa using hne
    have HR1 : Hid (w1.heap[w.heap.size]? = some (.cells #[.int .i64 0, .int .i64 0, .int .i64 0, .int .i64 0, .int .i64 0, .int .u32 0, .int .i64 0, .int .i64 0, .string ⟨#[]⟩, .string ⟨#[]⟩, .int .i64 0, .int .i64 0, .int .i64 0, .int .i64 0, .int .i64 0, .string ⟨#[]⟩] 26 (0, 0))) := (hb1.block _ (Array.getElem?_eq_some_iff.1 HRB.out).1).trans HRB.out
    have HP := hide (put16 (x0 := .int .i64 0) (x1 := .int .i64 0) (x2 := .int .i64 0) (x3 := .int .i64 0) (x4 := .int .i64 0) (x5 := .int .u32 0) (x6 := .int .i64 0) (x7 := .int .i64 0) (x8 := .string ⟨#[]⟩) (x9 := .string ⟨#[]⟩) (x10 := .int .i64 0) (x11 := .int .i64 0) (x12 := .int .i64 0) (x13 := .int .i64 0) (x14 := .int .i64 0) (x15 := .string ⟨#[]⟩) HR1.out)
    have HPB := hide (put16_below (x0 := .int .i64 0) (x1 := .int .i64 0) (x2 := .int .i64 0) (x3 := .int .i64 0) (x4 := .int .i64 0) (x5 := .int .u32 0) (x6 := .int .i64 0) (x7 := .int .i64 0) (x8 := .string ⟨#[]⟩) (x9 := .string ⟨#[]⟩) (x10 := .int .i64 0) (x11 := .int .i64 0) (x12 := .int .i64 0) (x13 := .int .i64 0) (x14 := .int .i64 0) (x15 := .string ⟨#[]⟩) (HB.out.trans (hb1.mono HB.out.size)) (Nat.le_refl _))
    obtain ⟨c0, c1, c2, c3, c4, c5, c6, c7, c8, c9, c10, c11, c12, c13, c14, c15⟩ := box16 HR1.out
    have hfz := box_free HR1.out
    clear hb1 hwb hne hE
    go_wp2
    obtain ⟨z0, z1, z2, z3, z4, z5, z6, z7, z8, z9, z10, z11, z12, z13, z14, z15⟩ := box16 HP.out
    refine bodyPost_ret (v := .tuple #[.agg #[.int .i64 0, .int .i64 0, .int .i64 0, .int .i64 0, .int .i64 0, .int .u32 0, .int .i64 0, .int .i64 0, .string ⟨#[]⟩, .string ⟨#[]⟩, .int .i64 0, .int .i64 0, .int .i64 0, .int .i64 0, .int .i64 0, .string ⟨#[]⟩], .int .i64 0, .int .i64 E]) (by simp [results, Try.results10, go_sem, z0, z1, z2, z3, z4, z5, z6, z7, z8, z9, z10, z11, z12, z13, z14, z15]) rfl ?_
    rw [HE2.out.1, HE2.out.2, HE.out]
    exact ⟨rfl, HPB.out⟩
  exact absurd h0 hE
end Go.Proofs.Ytijmmfimkibgbaa

