import Derived.Test.YtjjepgkcgbbmhaaGTln
import Derived.Test.YtjjepgkcgbbmhaaGJnd
import Derived.Test.YtjjepgkcgbbmhaaGGdw
import Derived.Test.YtjjepgkcgbbmhaaGXor
namespace Go.Proofs.Ytjjepgkcgbbmhaa
open Go.RowKit Go.Maps
set_option maxRecDepth 20000
set_option linter.unusedVariables false
set_option linter.unusedSimpArgs false

theorem lis32_any (v : Int) (w : World) : Calls Try.prog 8 #[.int .i64 v] w fun e w' => e = .returned (.bool (w32 v)) ∧ w' = w := by
  by_cases h0 : 0 ≤ v
  · by_cases h1 : v ≤ 4294967295
    · have HE : Hid (w32 v = true) := decide_eq_true (fun h => by unfold wide at h; omega)
      go_enter Try.func8, Try.ntmps8
      go_wp2
      go_ret
      rw [HE.out]
      exact ⟨rfl, rfl⟩
    · have HE : Hid (w32 v = false) := decide_eq_false (fun h => h (by unfold wide; omega))
      go_enter Try.func8, Try.ntmps8
      go_wp2
      go_ret
      rw [HE.out]
      exact ⟨rfl, rfl⟩
  · have HE : Hid (w32 v = false) := decide_eq_false (fun h => h (by unfold wide; omega))
    go_enter Try.func8, Try.ntmps8
    go_wp2
    go_ret
    rw [HE.out]
    exact ⟨rfl, rfl⟩

set_option maxHeartbeats 4000000 in
theorem told_noa (v0 v3 : Value) (A Z : List Int) (l : Loc) (ok : l.Ok) (b : Bool) (w : World) (h0 : SB w v0 A) (h3 : SB w v3 Z) (hw : w32 l.packed = false) :
    Calls Try.prog 3 #[v0, l.v, .bool b, v3] w fun e w' => e = .returned (.bool true) ∧ Below w.heap.size w w' := by
  obtain ⟨ao, cap, rfl, q1, q2, q3⟩ := h0.open11
  obtain ⟨bo, bap, rfl, r1, r2, r3⟩ := h3.open11
  have HS0 := hide h0
  have HS3 := hide h3
  have HKL := hide ok
  obtain ⟨wb, hwb⟩ : ∃ wb, w.alloc (.cells l.cs 25) = wb := ⟨_, rfl⟩
  have HB : Hid (Below w.heap.size w wb) := by rw [← hwb]; exact (Below.refl _ _).alloc (Nat.le_refl _) _
  have HN : Hid (wb.heap[w.heap.size]? = some (.cells l.cs 25 (0, 0))) := by rw [← hwb]; exact heap_alloc_new w _
  have hnf : ¬ fitI (dsI l b) := fun h => by have := (fit_ds ok b).1 h; rw [hw] at this; simp at this
  have HP : Hid (puE (dsI l b) = 124 ∧ puL (dsI l b) = []) := ⟨if_neg hnf, if_neg hnf⟩
  have HPD := hide (putDescriptor_any l ok b wb)
  rw [HP.out.1, HP.out.2] at HPD
  cases l with
  | mk a0 a1 a2 a3 a4 a5 a6 a7 a8 a9 =>
  simp only [Loc.cs] at HN hwb
  simp only at hw
  simp only [Loc.v, Loc.cs] at HPD ⊢
  obtain ⟨c0, c1, c2, c3, c4, c5, c6, c7, c8, c9⟩ := box10 HN.out
  clear h0 h3 q3 r3 ok hnf HP
  go_enter Try.func3, Try.ntmps3
  go_wp2_with fail
  refine HPD.out.mono ?_
  rintro e w1 ⟨x1, y1, rfl, ho1, hb1⟩
  have HN1 : Hid (w1.heap[w.heap.size]? = some (.cells #[.int .i64 a0, .int .i64 a1, .int .i64 a2, .int .i64 a3, .int .i64 a4, .int .u32 a5, .int .i64 a6, .int .i64 a7, .string a8, .string a9] 25 (0, 0))) := (hb1.block _ (Array.getElem?_eq_some_iff.1 HN.out).1).trans HN.out
  have HB1 : Hid (Below w.heap.size w w1) := HB.out.trans (hb1.mono HB.out.size)
  clear ho1 hb1 hwb c0 c1 c2 c3 c4 c5 c6 c7 c8 c9 HN
  obtain ⟨c0, c1, c2, c3, c4, c5, c6, c7, c8, c9⟩ := box10 HN1.out
  go_wp2_with fail
  refine (lis32_any a6 _).mono ?_
  rintro e w2 ⟨rfl, rfl⟩
  rw [hw]
  go_wp2
  go_ret
  exact ⟨rfl, HB1.out⟩

set_option maxHeartbeats 4000000 in
theorem told_nob (v0 v3 : Value) (A Z : List Int) (l : Loc) (ok : l.Ok) (b : Bool) (w : World) (h0 : SB w v0 A) (h3 : SB w v3 Z) (hw : w32 l.packed = true ∧ w32 l.size = false) :
    Calls Try.prog 3 #[v0, l.v, .bool b, v3] w fun e w' => e = .returned (.bool true) ∧ Below w.heap.size w w' := by
  obtain ⟨ao, cap, rfl, q1, q2, q3⟩ := h0.open11
  obtain ⟨bo, bap, rfl, r1, r2, r3⟩ := h3.open11
  have HS0 := hide h0
  have HS3 := hide h3
  have HKL := hide ok
  obtain ⟨wb, hwb⟩ : ∃ wb, w.alloc (.cells l.cs 25) = wb := ⟨_, rfl⟩
  have HB : Hid (Below w.heap.size w wb) := by rw [← hwb]; exact (Below.refl _ _).alloc (Nat.le_refl _) _
  have HN : Hid (wb.heap[w.heap.size]? = some (.cells l.cs 25 (0, 0))) := by rw [← hwb]; exact heap_alloc_new w _
  have hnf : ¬ fitI (dsI l b) := fun h => by have := (fit_ds ok b).1 h; rw [hw.2] at this; simp at this
  have HP : Hid (puE (dsI l b) = 124 ∧ puL (dsI l b) = []) := ⟨if_neg hnf, if_neg hnf⟩
  have HPD := hide (putDescriptor_any l ok b wb)
  rw [HP.out.1, HP.out.2] at HPD
  cases l with
  | mk a0 a1 a2 a3 a4 a5 a6 a7 a8 a9 =>
  simp only [Loc.cs] at HN hwb
  simp only at hw
  simp only [Loc.v, Loc.cs] at HPD ⊢
  obtain ⟨c0, c1, c2, c3, c4, c5, c6, c7, c8, c9⟩ := box10 HN.out
  clear h0 h3 q3 r3 ok hnf HP
  go_enter Try.func3, Try.ntmps3
  go_wp2_with fail
  refine HPD.out.mono ?_
  rintro e w1 ⟨x1, y1, rfl, ho1, hb1⟩
  have HN1 : Hid (w1.heap[w.heap.size]? = some (.cells #[.int .i64 a0, .int .i64 a1, .int .i64 a2, .int .i64 a3, .int .i64 a4, .int .u32 a5, .int .i64 a6, .int .i64 a7, .string a8, .string a9] 25 (0, 0))) := (hb1.block _ (Array.getElem?_eq_some_iff.1 HN.out).1).trans HN.out
  have HB1 : Hid (Below w.heap.size w w1) := HB.out.trans (hb1.mono HB.out.size)
  clear ho1 hb1 hwb c0 c1 c2 c3 c4 c5 c6 c7 c8 c9 HN
  obtain ⟨c0, c1, c2, c3, c4, c5, c6, c7, c8, c9⟩ := box10 HN1.out
  go_wp2_with fail
  refine (lis32_any a6 _).mono ?_
  rintro e w2 ⟨rfl, rfl⟩
  rw [hw.1]
  go_wp2_with fail
  refine (lis32_any a7 _).mono ?_
  rintro e w3 ⟨rfl, rfl⟩
  rw [hw.2]
  go_wp2
  go_ret
  exact ⟨rfl, HB1.out⟩

end Go.Proofs.Ytjjepgkcgbbmhaa

