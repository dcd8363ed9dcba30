import Derived.Test.YtjjepgkcgbbmhacGGcd
import Derived.Test.YtjjepgkcgbbmhacGVrd
namespace Go.Proofs.Ytjjepgkcgbbmhac
open Go.RowKit Go.Maps
set_option maxRecDepth 20000
set_option linter.unusedVariables false
set_option linter.unusedSimpArgs false

theorem putl16 {w : World} {c : Nat} {a0 a1 a2 a3 a4 a5 a6 a7 a8 a9 a10 a11 a12 a13 a14 a15 x0 x1 x2 x3 x4 x5 x6 x7 x8 x9 : Value} {t : TypeId} (h : w.heap[c]? = some (.cells #[a0, a1, a2, a3, a4, a5, a6, a7, a8, a9, a10, a11, a12, a13, a14, a15] t (0, 0))) :
    ((((((((((w.setCell ⟨c, 0, none⟩ x0).setCell ⟨c, 1, none⟩ x1).setCell ⟨c, 2, none⟩ x2).setCell ⟨c, 3, none⟩ x3).setCell ⟨c, 4, none⟩ x4).setCell ⟨c, 5, none⟩ x5).setCell ⟨c, 6, none⟩ x6).setCell ⟨c, 7, none⟩ x7).setCell ⟨c, 8, none⟩ x8).setCell ⟨c, 9, none⟩ x9).heap[c]? = some (.cells #[x0, x1, x2, x3, x4, x5, x6, x7, x8, x9, a10, a11, a12, a13, a14, a15] t (0, 0)) := by
  have h0 := (set16 h).1 x0
  have h1 := (set16 h0).2.1 x1
  have h2 := (set16 h1).2.2.1 x2
  have h3 := (set16 h2).2.2.2.1 x3
  have h4 := (set16 h3).2.2.2.2.1 x4
  have h5 := (set16 h4).2.2.2.2.2.1 x5
  have h6 := (set16 h5).2.2.2.2.2.2.1 x6
  have h7 := (set16 h6).2.2.2.2.2.2.2.1 x7
  have h8 := (set16 h7).2.2.2.2.2.2.2.2.1 x8
  have h9 := (set16 h8).2.2.2.2.2.2.2.2.2.1 x9
  exact h9

theorem putl_below {w w0 : World} {c B : Nat} {x0 x1 x2 x3 x4 x5 x6 x7 x8 x9 : Value} (h : Below B w0 w) (hB : B ≤ c) : Below B w0 ((((((((((w.setCell ⟨c, 0, none⟩ x0).setCell ⟨c, 1, none⟩ x1).setCell ⟨c, 2, none⟩ x2).setCell ⟨c, 3, none⟩ x3).setCell ⟨c, 4, none⟩ x4).setCell ⟨c, 5, none⟩ x5).setCell ⟨c, 6, none⟩ x6).setCell ⟨c, 7, none⟩ x7).setCell ⟨c, 8, none⟩ x8).setCell ⟨c, 9, none⟩ x9) :=
  ((((((((((h.setCell (p := ⟨c, 0, none⟩) hB _).setCell (p := ⟨c, 1, none⟩) hB _).setCell (p := ⟨c, 2, none⟩) hB _).setCell (p := ⟨c, 3, none⟩) hB _).setCell (p := ⟨c, 4, none⟩) hB _).setCell (p := ⟨c, 5, none⟩) hB _).setCell (p := ⟨c, 6, none⟩) hB _).setCell (p := ⟨c, 7, none⟩) hB _).setCell (p := ⟨c, 8, none⟩) hB _).setCell (p := ⟨c, 9, none⟩) hB _)

theorem putl_other {w : World} {c k : Nat} {o : Option Obj} {x0 x1 x2 x3 x4 x5 x6 x7 x8 x9 : Value} (h : w.heap[k]? = o) (hk : k ≠ c) : ((((((((((w.setCell ⟨c, 0, none⟩ x0).setCell ⟨c, 1, none⟩ x1).setCell ⟨c, 2, none⟩ x2).setCell ⟨c, 3, none⟩ x3).setCell ⟨c, 4, none⟩ x4).setCell ⟨c, 5, none⟩ x5).setCell ⟨c, 6, none⟩ x6).setCell ⟨c, 7, none⟩ x7).setCell ⟨c, 8, none⟩ x8).setCell ⟨c, 9, none⟩ x9).heap[k]? = o :=
  ((setCell_others _ _ _ _ _ hk).trans ((setCell_others _ _ _ _ _ hk).trans ((setCell_others _ _ _ _ _ hk).trans ((setCell_others _ _ _ _ _ hk).trans ((setCell_others _ _ _ _ _ hk).trans ((setCell_others _ _ _ _ _ hk).trans ((setCell_others _ _ _ _ _ hk).trans ((setCell_others _ _ _ _ _ hk).trans ((setCell_others _ _ _ _ _ hk).trans ((setCell_others _ _ _ _ _ hk).trans h))))))))))

set_option maxHeartbeats 16000000 in
theorem vgetCentral_bad (v : Value) (d : List Int) (at' : Int) (w : World) (h : SB w v d) (hB : Byt d) (h64 : Ok64 at') (hd : d.length ≤ 140737488355328) (hE : beE d at' 46 33639248 ≠ 0) :
    Calls Try.prog 10 #[v, .int .i64 at'] w fun e w' => e = .returned (.tuple #[(ceA d at').v, .int .i64 (ceP d at'), .int .i64 (ceE d at')]) ∧ Below w.heap.size w w' := by
  obtain ⟨ao, cap, rfl, q1, q2, q3⟩ := h.open11
  have HD := hide hd
  have HBy := hide hB
  have HS := hide h
  obtain ⟨wb, hwb⟩ : ∃ wb, w.alloc (.cells #[.int .i64 0, .int .i64 0, .int .i64 0, .int .i64 0, .int .i64 0, .int .u32 0, .int .i64 0, .int .i64 0, .string ⟨#[]⟩, .string ⟨#[]⟩, .int .i64 0, .int .i64 0, .int .i64 0, .int .i64 0, .int .i64 0, .string ⟨#[]⟩] 26) = wb := ⟨_, rfl⟩
  have HB : Hid (Below w.heap.size w wb) := by rw [← hwb]; exact (Below.refl _ _).alloc (Nat.le_refl _) _
  have HRB : Hid (wb.heap[w.heap.size]? = some (.cells #[.int .i64 0, .int .i64 0, .int .i64 0, .int .i64 0, .int .i64 0, .int .u32 0, .int .i64 0, .int .i64 0, .string ⟨#[]⟩, .string ⟨#[]⟩, .int .i64 0, .int .i64 0, .int .i64 0, .int .i64 0, .int .i64 0, .string ⟨#[]⟩] 26 (0, 0))) := by rw [← hwb]; exact heap_alloc_new w _
  have HBE := hide (vbegins_any _ d at' 46 33639248 wb (SB.below h HB.out) hB h64 hd (by omega) (by omega))
  obtain ⟨u0, u1⟩ := h64
  clear h q3 hB hd
  have HE : Hid (ceE d at' = beE d at' 46 33639248) := if_pos hE
  have HE2 := hide (ce_bad (d := d) (at' := at') (by rw [HE.out]; exact hE))
  obtain ⟨E, hEE⟩ : ∃ E, E = beE d at' 46 33639248 := ⟨_, rfl⟩
  rw [← hEE] at hE HE HBE
  have hne' : (E != 0) = true := by simpa using hE
  have HP := hide (put16 (x0 := .int .i64 0) (x1 := .int .i64 0) (x2 := .int .i64 0) (x3 := .int .i64 0) (x4 := .int .i64 0) (x5 := .int .u32 0) (x6 := .int .i64 0) (x7 := .int .i64 0) (x8 := .string ⟨#[]⟩) (x9 := .string ⟨#[]⟩) (x10 := .int .i64 0) (x11 := .int .i64 0) (x12 := .int .i64 0) (x13 := .int .i64 0) (x14 := .int .i64 0) (x15 := .string ⟨#[]⟩) HRB.out)
  have HPB := hide (put16_below (x0 := .int .i64 0) (x1 := .int .i64 0) (x2 := .int .i64 0) (x3 := .int .i64 0) (x4 := .int .i64 0) (x5 := .int .u32 0) (x6 := .int .i64 0) (x7 := .int .i64 0) (x8 := .string ⟨#[]⟩) (x9 := .string ⟨#[]⟩) (x10 := .int .i64 0) (x11 := .int .i64 0) (x12 := .int .i64 0) (x13 := .int .i64 0) (x14 := .int .i64 0) (x15 := .string ⟨#[]⟩) HB.out (Nat.le_refl _))
  clear hE hEE
  go_enter Try.func10, Try.ntmps10
  go_wp2_with fail
  refine HBE.out.mono ?_
  rintro e w1 ⟨rfl, rfl⟩
  obtain ⟨c0, c1, c2, c3, c4, c5, c6, c7, c8, c9, c10, c11, c12, c13, c14, c15⟩ := box16 HRB.out
  have hfz := box_free HRB.out
  clear hwb
  go_wp2
  obtain ⟨z0, z1, z2, z3, z4, z5, z6, z7, z8, z9, z10, z11, z12, z13, z14, z15⟩ := box16 HP.out
  refine bodyPost_ret (v := .tuple #[.agg #[.int .i64 0, .int .i64 0, .int .i64 0, .int .i64 0, .int .i64 0, .int .u32 0, .int .i64 0, .int .i64 0, .string ⟨#[]⟩, .string ⟨#[]⟩, .int .i64 0, .int .i64 0, .int .i64 0, .int .i64 0, .int .i64 0, .string ⟨#[]⟩], .int .i64 0, .int .i64 E]) (by simp [results, Try.results10, go_sem, z0, z1, z2, z3, z4, z5, z6, z7, z8, z9, z10, z11, z12, z13, z14, z15]) rfl ?_
  rw [HE2.out.1, HE2.out.2, HE.out]
  exact ⟨rfl, HPB.out⟩
end Go.Proofs.Ytjjepgkcgbbmhac

