import Derived.Test.YtjjepgkcgbbmhabGVgl
import Derived.Test.YtjjepgkcgbbmhabGPcm
import Derived.Test.YtjjepgkcgbbmhabGVlf
namespace Go.Proofs.Ytjjepgkcgbbmhab
open Go.RowKit Go.Maps
set_option maxRecDepth 20000
set_option linter.unusedVariables false
set_option linter.unusedSimpArgs false

set_option maxHeartbeats 8000000 in
theorem locals_walk (l : Loc) (ok : l.Ok) (v : Value) (d : List Int) (at' : Int) (w : World) (h : SB w v d) (hB : Byt d) (h64 : Ok64 at') (hd : d.length ≤ 140737488351232) :
    Calls Try.prog 8 #[l.v, v, .int .i64 at'] w fun e w' => e = .returned (.bool true) ∧ Below w.heap.size w w' := by
  obtain ⟨ao, cap, rfl, q1, q2, q3⟩ := h.open11
  have HS := hide h
  have HBy := hide hB
  have H64 := hide h64
  have HDl := hide hd
  have HDl2 : Hid (d.length ≤ 140737488355328) := Nat.le_trans hd (by omega)
  obtain ⟨wb, hwb⟩ : ∃ wb, w.alloc (.cells l.cs 30) = wb := ⟨_, rfl⟩
  have HB : Hid (Below w.heap.size w wb) := by rw [← hwb]; exact (Below.refl _ _).alloc (Nat.le_refl _) _
  have hN : wb.heap[w.heap.size]? = some (.cells l.cs 30 (0, 0)) := by rw [← hwb]; exact heap_alloc_new w _
  obtain ⟨lv, hlv⟩ : ∃ lv, lv = l := ⟨_, rfl⟩
  have HKL : Hid (lv.Ok) := by rw [hlv]; exact ok
  cases l with
  | mk a0 a1 a2 a3 a4 a5 a6 a7 a8 a9 =>
  simp only [Loc.cs] at hN hwb
  have HV : Hid (lv.v = .agg #[.int .i64 a0, .int .i64 a1, .int .i64 a2, .int .i64 a3, .int .i64 a4, .int .u32 a5, .int .i64 a6, .int .i64 a7, .string a8, .string a9]) := by rw [hlv]; rfl
  simp only [Loc.v, Loc.cs]
  clear ok hlv h hB h64 hd q3
  have HN := hide hN
  obtain ⟨c0, c1, c2, c3, c4, c5, c6, c7, c8, c9⟩ := box10 hN
  clear hN
  go_enter Try.func8, Try.ntmps8
  go_wp2_with fail
  rw [← HV.out]
  refine (putLocal_any lv HKL.out _).mono ?_
  rintro e w1 ⟨x1, y1, rfl, ho1, hb1⟩
  obtain ⟨R, HR⟩ : ∃ R, Hid (R = puL (loI lv)) := ⟨_, rfl⟩
  obtain ⟨E, HE⟩ : ∃ E, Hid (E = puE (loI lv)) := ⟨_, rfl⟩
  rw [← HR.out] at ho1
  rw [← HR.out, ← HE.out]
  have HN1 : Hid (w1.heap[w.heap.size]? = some (.cells #[.int .i64 a0, .int .i64 a1, .int .i64 a2, .int .i64 a3, .int .i64 a4, .int .u32 a5, .int .i64 a6, .int .i64 a7, .string a8, .string a9] 30 (0, 0))) := (hb1.block _ (Array.getElem?_eq_some_iff.1 HN.out).1).trans HN.out
  have HO1 := hide ho1
  have HB1 : Hid (Below w.heap.size w w1) := HB.out.trans (hb1.mono HB.out.size)
  clear ho1 hb1 hwb c0 c1 c2 c3 c4 c5 c6 c7 c8 c9 HN
  obtain ⟨c0, c1, c2, c3, c4, c5, c6, c7, c8, c9⟩ := box10 HN1.out
  go_wp2_with fail
  rw [← HV.out]
  refine (vputLocal_any lv HKL.out _).mono ?_
  rintro e w2 ⟨x2, y2, rfl, ho2, hb2⟩
  rw [← HR.out] at ho2
  rw [← HR.out, ← HE.out]
  have HSM : Hid (Calls Try.prog 14 #[.slice x1 R.length y1, .slice x2 R.length y2] w2 fun e w' => e = .returned (.bool true) ∧ ∃ n, w' = w2.drewN n) := by
    have := same_any _ _ R R w2 (HO1.out.sb.below hb2) ho2.sb
    rw [show eqB R R = true by simp [eqB]] at this
    exact this
  have HB2 : Hid (Below w.heap.size w w2) := HB1.out.trans (hb2.mono HB1.out.size)
  clear ho2 hb2 c0 c1 c2 c3 c4 c5 c6 c7 c8 c9 HN1 HO1 HB1
  go_wp2_with fail
  refine HSM.out.mono ?_
  rintro e w3 ⟨rfl, n3, rfl⟩
  go_wp2_with fail
  refine (num_any E _).mono ?_
  rintro e w4 ⟨rfl, rfl⟩
  have HB3 : Hid (Below w.heap.size w (w2.drewN n3)) := below_drewN HB2.out n3
  go_wp2_with fail
  refine (lent_any _ d _ (SB.below HS.out HB3.out) HDl.out).mono ?_
  rintro e w5 ⟨u5, rfl, hl5, hb5⟩
  have HB5 : Hid (Below w.heap.size w w5) := HB3.out.trans (hb5.mono HB3.out.size)
  have HL5 := hide hl5
  obtain ⟨pb, pc, hu5⟩ : ∃ a c, u5 = .slice a d.length c := hl5.sb.len
  subst hu5
  clear hl5 hb5 HB2 HB3 HSM
  obtain ⟨P, HP⟩ : ∃ P, Hid (P = loP d at') := ⟨_, rfl⟩
  obtain ⟨GE, HGE⟩ : ∃ G, Hid (G = loE d at') := ⟨_, rfl⟩
  obtain ⟨AA, hAA⟩ : ∃ A, A = loA d at' := ⟨_, rfl⟩
  have HAA : Hid (loA d at' = AA) := hAA.symm
  obtain ⟨e0, e1, e2, e3, e4, e5, e6, e7, e8, e9⟩ := AA
  have HAV : Hid ((loA d at').v = .agg #[.int .i64 e0, .int .i64 e1, .int .i64 e2, .int .i64 e3, .int .i64 e4, .int .u32 e5, .int .i64 e6, .int .i64 e7, .string e8, .string e9]) := by show _ = _; rw [HAA.out]; rfl
  clear hAA
  go_wp2_with fail
  refine (getLocal_any _ d at' w5 HL5.out.sb HBy.out H64.out HDl2.out).mono ?_
  rintro e w6 ⟨rfl, hb6⟩
  rw [HAV.out, ← HP.out, ← HGE.out]
  have HB6 : Hid (Below w.heap.size w w6) := HB5.out.trans (hb6.mono HB5.out.size)
  have HL6 : Hid (Lent w6 0 (.slice pb d.length pc) d) := HL5.out.below12 hb6
  clear hb6 HL5 HB5
  obtain ⟨w7, hw7⟩ : ∃ x, w6.alloc (.cells #[.int .i64 e0, .int .i64 e1, .int .i64 e2, .int .i64 e3, .int .i64 e4, .int .u32 e5, .int .i64 e6, .int .i64 e7, .string e8, .string e9] 30) = x := ⟨_, rfl⟩
  have HB7 : Hid (Below w.heap.size w w7) := by rw [← hw7]; exact HB6.out.alloc HB6.out.size _
  have HM7 : Hid (w7.heap[w6.heap.size]? = some (.cells #[.int .i64 e0, .int .i64 e1, .int .i64 e2, .int .i64 e3, .int .i64 e4, .int .u32 e5, .int .i64 e6, .int .i64 e7, .string e8, .string e9] 30 (0, 0))) := by rw [← hw7]; exact heap_alloc_new _ _
  have HL7 : Hid (Lent w7 0 (.slice pb d.length pc) d) := by rw [← hw7]; exact HL6.out.below12 ((Below.refl _ _).alloc (Nat.le_refl _) _)
  go_wp2_with fail
  clear hw7 HB6 HL6
  refine (vgetLocal_any _ d at' w7 (SB.below HS.out HB7.out) HBy.out H64.out HDl2.out).mono ?_
  rintro e w8 ⟨rfl, hb8⟩
  rw [HAV.out, ← HP.out, ← HGE.out]
  have HB8 : Hid (Below w.heap.size w w8) := HB7.out.trans (hb8.mono HB7.out.size)
  have HM8 : Hid (w8.heap[w6.heap.size]? = some (.cells #[.int .i64 e0, .int .i64 e1, .int .i64 e2, .int .i64 e3, .int .i64 e4, .int .u32 e5, .int .i64 e6, .int .i64 e7, .string e8, .string e9] 30 (0, 0))) := (hb8.block _ (Array.getElem?_eq_some_iff.1 HM7.out).1).trans HM7.out
  have HL8 : Hid (Lent w8 0 (.slice pb d.length pc) d) := HL7.out.below12 hb8
  obtain ⟨w9, hw9⟩ : ∃ x, w8.alloc (.cells #[.int .i64 e0, .int .i64 e1, .int .i64 e2, .int .i64 e3, .int .i64 e4, .int .u32 e5, .int .i64 e6, .int .i64 e7, .string e8, .string e9] 30) = x := ⟨_, rfl⟩
  have HB9 : Hid (Below w.heap.size w w9) := by rw [← hw9]; exact HB8.out.alloc HB8.out.size _
  have HM9 : Hid (w9.heap[w6.heap.size]? = some (.cells #[.int .i64 e0, .int .i64 e1, .int .i64 e2, .int .i64 e3, .int .i64 e4, .int .u32 e5, .int .i64 e6, .int .i64 e7, .string e8, .string e9] 30 (0, 0))) := by rw [← hw9]; exact (Below.heap_alloc _ _ _ (Array.getElem?_eq_some_iff.1 HM8.out).1).trans HM8.out
  have HQ9 : Hid (w9.heap[w8.heap.size]? = some (.cells #[.int .i64 e0, .int .i64 e1, .int .i64 e2, .int .i64 e3, .int .i64 e4, .int .u32 e5, .int .i64 e6, .int .i64 e7, .string e8, .string e9] 30 (0, 0))) := by rw [← hw9]; exact heap_alloc_new _ _
  have HL9 : Hid (Lent w9 0 (.slice pb d.length pc) d) := by rw [← hw9]; exact HL8.out.below12 ((Below.refl _ _).alloc (Nat.le_refl _) _)
  obtain ⟨c0, c1, c2, c3, c4, c5, c6, c7, c8, c9⟩ := box10 HM9.out
  obtain ⟨r0, r1, r2, r3, r4, r5, r6, r7, r8, r9⟩ := box10 HQ9.out
  clear hb8 HB7 HM7 HL7 HB8 HM8 HL8
  go_wp2_with fail
  refine (num_any GE _).mono ?_
  rintro e w10 ⟨rfl, rfl⟩
  clear c0 c1 c2 c3 c4 c5 c6 c7 c8 c9 r0 r1 r2 r3 r4 r5 r6 r7 r8 r9 hw9
  go_wp2_with fail
  refine (still_any _ _ d _ 0 HL9.out (SB.below HS.out HB9.out) HDl.out).mono ?_
  rintro e w11 ⟨rfl, n9, rfl⟩
  go_wp2
  go_ret
  exact ⟨rfl, below_drewN HB9.out n9⟩
end Go.Proofs.Ytjjepgkcgbbmhab

