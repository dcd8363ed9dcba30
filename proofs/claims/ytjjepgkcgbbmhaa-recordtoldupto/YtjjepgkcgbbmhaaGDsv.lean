import Derived.Test.YtjjepgkcgbbmhaaGDsc
import Derived.Test.YtjjepgkcgbbmhaaGVdx
namespace Go.Proofs.Ytjjepgkcgbbmhaa
open Go.RowKit Go.Maps
set_option maxRecDepth 20000
set_option linter.unusedVariables false

theorem notwide4 {v : Int} (h0 : 0 ≤ v) (h1 : v < 4294967296) : ¬ wide v 4 := by unfold wide; omega

theorem fit_ds {l : Loc} (ok : l.Ok) (b : Bool) : fitI (dsI l b) ↔ (w32 l.packed && w32 l.size) = true := by
  have hs : ¬ wide l.sum 4 := notwide4 ok.sum0 ok.sum1
  have hc : ¬ wide 134695760 4 := notwide4 (by omega) (by omega)
  unfold w32
  simp only [Bool.and_eq_true, decide_eq_true_eq]
  refine ⟨fun h => ⟨h (.num l.packed 4) (by cases b <;> simp [dsI, dsT]), h (.num l.size 4) (by cases b <;> simp [dsI, dsT])⟩, fun ⟨h1, h2⟩ i hi => ?_⟩
  cases b with
  | true =>
    simp only [dsI, dsT, if_true, List.mem_cons, List.not_mem_nil, or_false] at hi
    rcases hi with rfl | rfl | rfl | rfl
    · exact hc
    · exact hs
    · exact h1
    · exact h2
  | false =>
    simp only [dsI, dsT, Bool.false_eq_true, if_false, List.mem_cons, List.not_mem_nil, or_false] at hi
    rcases hi with rfl | rfl | rfl
    · exact hs
    · exact h1
    · exact h2

theorem row_ds (l : Loc) (b : Bool) : rowI (dsI l b) = ((((if b then [] ++ bytesLE 134695760 4 else []) ++ bytesLE l.sum 4) ++ bytesLE l.packed 4) ++ bytesLE l.size 4) := by
  cases b <;> simp [dsI, dsT, rowI, itB, List.append_assoc]

set_option maxHeartbeats 2000000 in
theorem vputDescriptor_any (l : Loc) (ok : l.Ok) (b : Bool) (w : World) :
    Calls Try.prog 15 #[l.v, .bool b] w fun e w' => ∃ a c, e = .returned (.tuple #[.slice a (puL (dsI l b)).length c, .int .i64 (puE (dsI l b))]) ∧ OB w' w.heap.size (.slice a (puL (dsI l b)).length c) (puL (dsI l b)) ∧ Below w.heap.size w w' := by
  have HF := hide (fit_ds ok b)
  have HRW := hide (row_ds l b)
  obtain ⟨wb, hwb⟩ : ∃ wb, w.alloc (.cells l.cs 25) = wb := ⟨_, rfl⟩
  have HB : Hid (Below w.heap.size w wb) := by rw [← hwb]; exact (Below.refl _ _).alloc (Nat.le_refl _) _
  have hN : wb.heap[w.heap.size]? = some (.cells l.cs 25 (0, 0)) := by rw [← hwb]; exact heap_alloc_new w _
  obtain ⟨x0, x1, x2, x3, x4, s0, s1, x6, x7, x8, x9⟩ := ok
  obtain ⟨e, he⟩ : ∃ e, e = puE (dsI l b) := ⟨_, rfl⟩
  obtain ⟨R, hR⟩ : ∃ R, R = puL (dsI l b) := ⟨_, rfl⟩
  rw [← he, ← hR]
  cases l with
  | mk a0 a1 a2 a3 a4 a5 a6 a7 a8 a9 =>
  simp only [Loc.cs] at hN hwb
  simp only at HF HRW s0 s1
  simp only [Loc.v, Loc.cs]
  have HN := hide hN
  obtain ⟨c0, c1, c2, c3, c4, c5, c6, c7, c8, c9⟩ := box10 hN
  clear c0 c1 c2 c3 c4 c8 c9 hN x0 x1 x2 x3 x4 x6 x7 x8 x9
  have g5 : IntKind.i64.wrap a5 = a5 := by rw [IntKind.wrap_i64]; omega
  by_cases h6 : w32 a6 = true
  case neg =>
    have h6' : w32 a6 = false := by simpa using h6
    have hnf : ¬ fitI (dsI ⟨a0, a1, a2, a3, a4, a5, a6, a7, a8, a9⟩ b) := fun h => by have := HF.out.1 h; rw [h6'] at this; simp at this
    have HE : Hid (e = 124) := by show _ = _; rw [he]; exact if_neg hnf
    have HR : Hid (R = []) := by show _ = _; rw [hR]; exact if_neg hnf
    clear hnf he hR h6 HF HRW
    go_enter Try.func15, Try.ntmps15
    go_wp2_with fail
    refine (vis32_any a6 _).mono ?_
    rintro e1 w1 ⟨rfl, rfl⟩
    rw [h6']
    go_wp2_with fail
    refine (vis32_any a7 _).mono ?_
    rintro e2 w2 ⟨rfl, rfl⟩
    go_wp2
    go_ret2
    rw [HE.out, HR.out]
    exact ⟨none, 0, rfl, World.ownsRow_nil _ _ _ _, HB.out⟩
  case pos =>
  by_cases h7 : w32 a7 = true
  case neg =>
    have h7' : w32 a7 = false := by simpa using h7
    have hnf : ¬ fitI (dsI ⟨a0, a1, a2, a3, a4, a5, a6, a7, a8, a9⟩ b) := fun h => by have := HF.out.1 h; rw [h7'] at this; simp at this
    have HE : Hid (e = 124) := by show _ = _; rw [he]; exact if_neg hnf
    have HR : Hid (R = []) := by show _ = _; rw [hR]; exact if_neg hnf
    clear hnf he hR HF HRW
    go_enter Try.func15, Try.ntmps15
    go_wp2_with fail
    refine (vis32_any a6 _).mono ?_
    rintro e1 w1 ⟨rfl, rfl⟩
    rw [h6]
    go_wp2_with fail
    refine (vis32_any a7 _).mono ?_
    rintro e2 w2 ⟨rfl, rfl⟩
    rw [h7']
    go_wp2
    go_ret2
    rw [HE.out, HR.out]
    exact ⟨none, 0, rfl, World.ownsRow_nil _ _ _ _, HB.out⟩
  case pos =>
  have hf : fitI (dsI ⟨a0, a1, a2, a3, a4, a5, a6, a7, a8, a9⟩ b) := HF.out.2 (by rw [h6, h7]; rfl)
  have HE : Hid (e = 0) := by show _ = _; rw [he]; exact if_pos hf
  have HR : Hid (R = rowI (dsI ⟨a0, a1, a2, a3, a4, a5, a6, a7, a8, a9⟩ b)) := by show _ = _; rw [hR]; exact if_pos hf
  have q6 : ¬ wide a6 4 := of_decide_eq_true h6
  have q7 : ¬ wide a7 4 := of_decide_eq_true h7
  have y60 : 0 ≤ a6 := by unfold wide at q6; omega
  have y61 : a6 ≤ 4294967295 := by unfold wide at q6; omega
  have y70 : 0 ≤ a7 := by unfold wide at q7; omega
  have y71 : a7 ≤ 4294967295 := by unfold wide at q7; omega
  have H0 := hide (Dx.nil HN.out)
  clear hf he hR HF q6 q7
  cases b with
  | true =>
    go_enter Try.func15, Try.ntmps15
    go_wp2_with fail
    refine (vis32_any a6 _).mono ?_
    rintro e1 w1 ⟨rfl, rfl⟩
    rw [h6]
    go_wp2_with fail
    refine (vis32_any a7 _).mono ?_
    rintro e2 w2 ⟨rfl, rfl⟩
    rw [h7]
    clear h6 h7 hwb
    go_wp2_with fail
    refine (dput_any H0.out 134695760 4 (by omega) (by omega) (by omega) (by omega)).mono ?_
    rintro e3 w3 ⟨p1, q1, rfl, hx⟩
    have H1 := hide hx
    clear c5 c6 c7
    obtain ⟨c0, c1, c2, c3, c4, c5, c6, c7, c8, c9⟩ := box10 hx.box
    clear c0 c1 c2 c3 c4 c6 c7 c8 c9 hx H0
    go_wp2_with fail
    refine (dput_any H1.out a5 4 (by omega) (by omega) (by omega) (by omega)).mono ?_
    rintro e3 w4 ⟨p2, q2, rfl, hx⟩
    have H2 := hide hx
    clear c5
    obtain ⟨c0, c1, c2, c3, c4, c5, c6, c7, c8, c9⟩ := box10 hx.box
    clear c0 c1 c2 c3 c4 c5 c7 c8 c9 hx H1
    go_wp2_with fail
    refine (dput_any H2.out a6 4 (by omega) (by omega) (by omega) (by omega)).mono ?_
    rintro e3 w5 ⟨p3, q3, rfl, hx⟩
    have H3 := hide hx
    clear c6
    obtain ⟨c0, c1, c2, c3, c4, c5, c6, c7, c8, c9⟩ := box10 hx.box
    clear c0 c1 c2 c3 c4 c5 c6 c8 c9 hx H2
    go_wp2_with fail
    refine (dput_any H3.out a7 4 (by omega) (by omega) (by omega) (by omega)).mono ?_
    rintro e3 w6 ⟨p4, q4, rfl, hx⟩
    have H4 := hide hx
    clear c7 hx H3
    go_wp2
    go_ret2
    rw [HE.out, HR.out, HRW.out]
    have hl := H4.out.len
    have ho := H4.out.ob
    rw [hl] at ho
    refine ⟨p4, q4, ?_, ho.base HB.out.size, HB.out.trans (H4.out.bel.mono HB.out.size)⟩
    exact congrArg (fun n => Ending.returned (.tuple #[.slice p4 n q4, .int .i64 0])) hl
  | false =>
    go_enter Try.func15, Try.ntmps15
    go_wp2_with fail
    refine (vis32_any a6 _).mono ?_
    rintro e1 w1 ⟨rfl, rfl⟩
    rw [h6]
    go_wp2_with fail
    refine (vis32_any a7 _).mono ?_
    rintro e2 w2 ⟨rfl, rfl⟩
    rw [h7]
    clear h6 h7 hwb
    go_wp2_with fail
    refine (dput_any H0.out a5 4 (by omega) (by omega) (by omega) (by omega)).mono ?_
    rintro e3 w4 ⟨p2, q2, rfl, hx⟩
    have H2 := hide hx
    clear c5 c6 c7
    obtain ⟨c0, c1, c2, c3, c4, c5, c6, c7, c8, c9⟩ := box10 hx.box
    clear c0 c1 c2 c3 c4 c5 c7 c8 c9 hx H0
    go_wp2_with fail
    refine (dput_any H2.out a6 4 (by omega) (by omega) (by omega) (by omega)).mono ?_
    rintro e3 w5 ⟨p3, q3, rfl, hx⟩
    have H3 := hide hx
    clear c6
    obtain ⟨c0, c1, c2, c3, c4, c5, c6, c7, c8, c9⟩ := box10 hx.box
    clear c0 c1 c2 c3 c4 c5 c6 c8 c9 hx H2
    go_wp2_with fail
    refine (dput_any H3.out a7 4 (by omega) (by omega) (by omega) (by omega)).mono ?_
    rintro e3 w6 ⟨p4, q4, rfl, hx⟩
    have H4 := hide hx
    clear c7 hx H3
    go_wp2
    go_ret2
    rw [HE.out, HR.out, HRW.out]
    have hl := H4.out.len
    have ho := H4.out.ob
    rw [hl] at ho
    refine ⟨p4, q4, ?_, ho.base HB.out.size, HB.out.trans (H4.out.bel.mono HB.out.size)⟩
    exact congrArg (fun n => Ending.returned (.tuple #[.slice p4 n q4, .int .i64 0])) hl
end Go.Proofs.Ytjjepgkcgbbmhaa

