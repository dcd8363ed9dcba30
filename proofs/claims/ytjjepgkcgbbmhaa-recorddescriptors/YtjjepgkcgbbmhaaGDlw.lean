import Derived.Test.YtjjepgkcgbbmhaaGGdv
import Derived.Deep.QuietTactic
namespace Go.Proofs.Ytjjepgkcgbbmhaa
open Go.RowKit Go.Maps
set_option maxRecDepth 20000
set_option linter.unusedVariables false

set_option maxHeartbeats 4000000 in
theorem descriptors_walk (l : Loc) (ok : l.Ok) (b : Bool) (v : Value) (d : List Int) (at' : Int) (w : World) (h : SB w v d) (hB : Byt d) (h64 : Ok64 at') (hd : d.length ≤ 140737488351232) :
    Calls Try.prog 5 #[l.v, .bool b, v, .int .i64 at'] w fun e w' => e = .returned (.bool true) ∧ Below w.heap.size w w' := by
  obtain ⟨ao, cap, rfl, q1, q2, q3⟩ := h.open11
  have HS := hide h
  have HBy := hide hB
  have H64 := hide h64
  have HDl := hide hd
  have HDl2 : Hid (d.length ≤ 140737488355328) := Nat.le_trans hd (by omega)
  obtain ⟨wb, hwb⟩ : ∃ wb, w.alloc (.cells l.cs 25) = wb := ⟨_, rfl⟩
  have HB : Hid (Below w.heap.size w wb) := by rw [← hwb]; exact (Below.refl _ _).alloc (Nat.le_refl _) _
  have hN : wb.heap[w.heap.size]? = some (.cells l.cs 25 (0, 0)) := by rw [← hwb]; exact heap_alloc_new w _
  obtain ⟨lv, hlv⟩ : ∃ lv, lv = l := ⟨_, rfl⟩
  have HKL : Hid (lv.Ok) := by rw [hlv]; exact ok
  cases l with
  | mk a0 a1 a2 a3 a4 a5 a6 a7 a8 a9 =>
  simp only [Loc.cs] at hN hwb
  have HV : Hid (lv.v = .agg #[.int .i64 a0, .int .i64 a1, .int .i64 a2, .int .i64 a3, .int .i64 a4, .int .u32 a5, .int .i64 a6, .int .i64 a7, .string a8, .string a9]) := by rw [hlv]; rfl
  simp only [Loc.v, Loc.cs]
  clear ok hlv h hB h64 hd q3
  have HN := hide hN
  have HSb : Hid (SB wb (.slice ao d.length cap) d) := SB.below HS.out HB.out
  obtain ⟨c0, c1, c2, c3, c4, c5, c6, c7, c8, c9⟩ := box10 hN
  clear hN HS
  go_enter Try.func5, Try.ntmps5
  go_wp2_with fail
  rw [← HV.out]
  refine (putDescriptor_any lv HKL.out b _).mono ?_
  rintro e w1 ⟨x1, y1, rfl, ho1, hb1⟩
  obtain ⟨R, HR⟩ : ∃ R, Hid (R = puL (dsI lv b)) := ⟨_, rfl⟩
  obtain ⟨E, HE⟩ : ∃ E, Hid (E = puE (dsI lv b)) := ⟨_, rfl⟩
  rw [← HR.out] at ho1
  rw [← HR.out, ← HE.out]
  have HN1 : Hid (w1.heap[w.heap.size]? = some (.cells #[.int .i64 a0, .int .i64 a1, .int .i64 a2, .int .i64 a3, .int .i64 a4, .int .u32 a5, .int .i64 a6, .int .i64 a7, .string a8, .string a9] 25 (0, 0))) := (hb1.block _ (Array.getElem?_eq_some_iff.1 HN.out).1).trans HN.out
  have HO1 := hide ho1
  have HB1 : Hid (Below w.heap.size w w1) := HB.out.trans (hb1.mono HB.out.size)
  have HS1 : Hid (SB w1 (.slice ao d.length cap) d) := SB.below HSb.out hb1
  clear ho1 hb1 hwb c0 c1 c2 c3 c4 c5 c6 c7 c8 c9 HSb HN
  obtain ⟨c0, c1, c2, c3, c4, c5, c6, c7, c8, c9⟩ := box10 HN1.out
  go_wp2_with fail
  rw [← HV.out]
  refine (vputDescriptor_any lv HKL.out b _).mono ?_
  rintro e w2 ⟨x2, y2, rfl, ho2, hb2⟩
  rw [← HR.out] at ho2
  rw [← HR.out, ← HE.out]
  have HN2 : Hid (w2.heap[w.heap.size]? = some (.cells #[.int .i64 a0, .int .i64 a1, .int .i64 a2, .int .i64 a3, .int .i64 a4, .int .u32 a5, .int .i64 a6, .int .i64 a7, .string a8, .string a9] 25 (0, 0))) := (hb2.block _ (Array.getElem?_eq_some_iff.1 HN1.out).1).trans HN1.out
  have HSM : Hid (Calls Try.prog 16 #[.slice x1 R.length y1, .slice x2 R.length y2] w2 fun e w' => e = .returned (.bool true) ∧ ∃ n, w' = w2.drewN n) := by
    have := same_any _ _ R R w2 (HO1.out.sb.below hb2) ho2.sb
    rw [show eqB R R = true by simp [eqB]] at this
    exact this
  have HB2 : Hid (Below w.heap.size w w2) := HB1.out.trans (hb2.mono HB1.out.size)
  have HS2 : Hid (SB w2 (.slice ao d.length cap) d) := SB.below HS1.out hb2
  clear ho2 hb2 c0 c1 c2 c3 c4 c5 c6 c7 c8 c9 HS1 HN1 HO1 HB1
  go_wp2_with fail
  refine HSM.out.mono ?_
  rintro e w3 ⟨rfl, n3, rfl⟩
  go_wp2_with fail
  refine (num_any E _).mono ?_
  rintro e w4 ⟨rfl, rfl⟩
  have HSn : Hid (SB (w2.drewN n3) (.slice ao d.length cap) d) := HS2.out
  go_wp2_with fail
  refine (lent_any _ d _ HSn.out HDl.out).mono ?_
  rintro e w5 ⟨u5, rfl, hl5, hb5⟩
  have HB3 : Hid (Below w.heap.size w (w2.drewN n3)) := below_drewN HB2.out n3
  have HB5 : Hid (Below w.heap.size w w5) := HB3.out.trans (hb5.mono HB3.out.size)
  have HN5 : Hid (w5.heap[w.heap.size]? = some (.cells #[.int .i64 a0, .int .i64 a1, .int .i64 a2, .int .i64 a3, .int .i64 a4, .int .u32 a5, .int .i64 a6, .int .i64 a7, .string a8, .string a9] 25 (0, 0))) := (hb5.block _ (Array.getElem?_eq_some_iff.1 HN2.out).1).trans HN2.out
  have HS5 : Hid (SB w5 (.slice ao d.length cap) d) := SB.below HSn.out hb5
  have HL5 := hide hl5
  obtain ⟨pb, pc, hu5⟩ : ∃ a c, u5 = .slice a d.length c := hl5.sb.len
  subst hu5
  obtain ⟨c0, c1, c2, c3, c4, c5, c6, c7, c8, c9⟩ := box10 HN5.out
  clear hl5 hb5 HN2 HS2 HSn HB2 HB3 HSM
  go_wp2_with fail
  rw [← HV.out]
  refine (getDescriptor_any _ d at' lv HKL.out w5 HL5.out.sb HBy.out H64.out HDl2.out).mono ?_
  rintro e w6 ⟨rfl, hb6⟩
  obtain ⟨GN, HGN⟩ : ∃ G, Hid (G = gdN d at' lv) := ⟨_, rfl⟩
  obtain ⟨GE, HGE⟩ : ∃ G, Hid (G = gdE d at' lv) := ⟨_, rfl⟩
  rw [← HGN.out, ← HGE.out]
  have HB6 : Hid (Below w.heap.size w w6) := HB5.out.trans (hb6.mono HB5.out.size)
  have HN6 : Hid (w6.heap[w.heap.size]? = some (.cells #[.int .i64 a0, .int .i64 a1, .int .i64 a2, .int .i64 a3, .int .i64 a4, .int .u32 a5, .int .i64 a6, .int .i64 a7, .string a8, .string a9] 25 (0, 0))) := (hb6.block _ (Array.getElem?_eq_some_iff.1 HN5.out).1).trans HN5.out
  have HS6 : Hid (SB w6 (.slice ao d.length cap) d) := SB.below HS5.out hb6
  have HL6 : Hid (Lent w6 0 (.slice pb d.length pc) d) := HL5.out.below12 hb6
  clear hb6 c0 c1 c2 c3 c4 c5 c6 c7 c8 c9 HN5 HS5 HL5 HB5
  obtain ⟨c0, c1, c2, c3, c4, c5, c6, c7, c8, c9⟩ := box10 HN6.out
  go_wp2_with fail
  rw [← HV.out]
  refine (vgetDescriptor_any _ d at' lv HKL.out w6 HS6.out HBy.out H64.out HDl2.out).mono ?_
  rintro e w7 ⟨rfl, hb7⟩
  rw [← HGN.out, ← HGE.out]
  have HB7 : Hid (Below w.heap.size w w7) := HB6.out.trans (hb7.mono HB6.out.size)
  have HS7 : Hid (SB w7 (.slice ao d.length cap) d) := SB.below HS6.out hb7
  have HL7 : Hid (Lent w7 0 (.slice pb d.length pc) d) := HL6.out.below12 hb7
  clear hb7 c0 c1 c2 c3 c4 c5 c6 c7 c8 c9 HN6 HS6 HL6 HB6
  go_wp2_with fail
  refine (num_any GE _).mono ?_
  rintro e w8 ⟨rfl, rfl⟩
  go_wp2_with fail
  refine (still_any _ _ d _ 0 HL7.out HS7.out HDl.out).mono ?_
  rintro e w9 ⟨rfl, n9, rfl⟩
  go_wp2
  go_ret
  exact ⟨rfl, below_drewN HB7.out n9⟩
end Go.Proofs.Ytjjepgkcgbbmhaa

