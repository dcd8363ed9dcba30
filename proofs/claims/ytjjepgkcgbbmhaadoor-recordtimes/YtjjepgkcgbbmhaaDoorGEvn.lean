import Derived.Test.YtjjepgkcgbbmhaaDoorGUps
namespace Go.Proofs.YtjjepgkcgbbmhaaDoor
open Go.RowKit
set_option maxRecDepth 20000
set_option linter.unusedVariables false
set_option linter.unusedSimpArgs false

theorem setCell_others (w : World) (g o : Nat) (u : Value) : ∀ k, k ≠ g → (w.setCell ⟨g, o, none⟩ u).heap[k]? = w.heap[k]? := fun k hk => Below.heap_setCell w _ u k hk

/-- The time with an even second. -/
def evn (t : Stp) : Stp := { t with s := t.s / 2 * 2 }

set_option maxHeartbeats 2000000 in
theorem even_any (t : Stp) (w : World) (h0 : 0 ≤ t.s) (h1 : t.s ≤ 59) : Calls Tryd.prog 7 #[t.v] w fun e w' => e = .returned (evn t).v ∧ Below w.heap.size w w' := by
  obtain ⟨RV, hRV⟩ : ∃ V, V = (evn t).v := ⟨_, rfl⟩
  rw [← hRV]
  have HRV := hide hRV
  obtain ⟨a0, a1, a2, a3, a4, a5⟩ := t
  simp only at h0 h1
  obtain ⟨f, hf⟩ : ∃ f, a5 / 2 * 2 = f := ⟨_, rfl⟩
  have HV : Hid (RV = .agg #[.int .i64 a0, .int .i64 a1, .int .i64 a2, .int .i64 a3, .int .i64 a4, .int .i64 f]) := by show _ = _; rw [HRV.out, ← hf]; rfl
  simp only [Stp.v, Stp.cs]
  obtain ⟨wa, hwa⟩ : ∃ x, w.alloc (.cells #[.int .i64 a0, .int .i64 a1, .int .i64 a2, .int .i64 a3, .int .i64 a4, .int .i64 a5] 23) = x := ⟨_, rfl⟩
  have hsz : wa.heap.size = w.heap.size + 1 := by rw [← hwa]; exact size_alloc' _ _
  have HNA : Hid (wa.heap[w.heap.size]? = some (.cells #[.int .i64 a0, .int .i64 a1, .int .i64 a2, .int .i64 a3, .int .i64 a4, .int .i64 a5] 23 (0, 0))) := by rw [← hwa]; exact heap_alloc_new _ _
  have HBA : Hid (Below w.heap.size w wa) := by rw [← hwa]; exact (Below.refl _ _).alloc (Nat.le_refl _) _
  obtain ⟨wb, hwb⟩ : ∃ x, wa.alloc (.cells #[.int .i64 0, .int .i64 0, .int .i64 0, .int .i64 0, .int .i64 0, .int .i64 0] 23) = x := ⟨_, rfl⟩
  have hnb : wb.heap[w.heap.size]? = some (.cells #[.int .i64 a0, .int .i64 a1, .int .i64 a2, .int .i64 a3, .int .i64 a4, .int .i64 a5] 23 (0, 0)) := by rw [← hwb]; exact (Below.heap_alloc _ _ _ (Array.getElem?_eq_some_iff.1 HNA.out).1).trans HNA.out
  have hrb : wb.heap[wa.heap.size]? = some (.cells #[.int .i64 0, .int .i64 0, .int .i64 0, .int .i64 0, .int .i64 0, .int .i64 0] 23 (0, 0)) := by rw [← hwb]; exact heap_alloc_new _ _
  have HBB : Hid (Below w.heap.size w wb) := by rw [← hwb]; exact HBA.out.alloc HBA.out.size _
  obtain ⟨c, hc⟩ : ∃ c, wa.heap.size = c := ⟨_, rfl⟩
  rw [hc] at hrb
  have hcw : w.heap.size < c := by omega
  obtain ⟨wc, hwc⟩ : ∃ x, wb.setCell ⟨w.heap.size, 5, none⟩ (.int .i64 f) = x := ⟨_, rfl⟩
  have hnc : wc.heap[w.heap.size]? = some (.cells #[.int .i64 a0, .int .i64 a1, .int .i64 a2, .int .i64 a3, .int .i64 a4, .int .i64 f] 23 (0, 0)) := by rw [← hwc]; exact (set6 hnb).2.2.2.2.2 _
  have hrc : wc.heap[c]? = some (.cells #[.int .i64 0, .int .i64 0, .int .i64 0, .int .i64 0, .int .i64 0, .int .i64 0] 23 (0, 0)) := by rw [← hwc]; exact (setCell_others _ _ _ _ _ (by omega)).trans hrb
  have HBC : Hid (Below w.heap.size w wc) := by rw [← hwc]; exact HBB.out.setCell (p := ⟨w.heap.size, 5, none⟩) (Nat.le_refl _) _
  have d5 := (box6 hnb).2.2.2.2.2
  have df := box_free hnb
  obtain ⟨c0, c1, c2, c3, c4, c5⟩ := box6 hnc
  obtain ⟨r0, r1, r2, r3, r4, r5⟩ := box6 hrc
  have rf := box_free hrc
  have HP := hide (put6 (x0 := .int .i64 a0) (x1 := .int .i64 a1) (x2 := .int .i64 a2) (x3 := .int .i64 a3) (x4 := .int .i64 a4) (x5 := .int .i64 f) hrc)
  have HPB := hide (put6_below (x0 := .int .i64 a0) (x1 := .int .i64 a1) (x2 := .int .i64 a2) (x3 := .int .i64 a3) (x4 := .int .i64 a4) (x5 := .int .i64 f) HBC.out (Nat.le_of_lt hcw))
  clear hnb hrb hnc hrc hsz hRV
  go_enter Tryd.func7, Tryd.ntmps7
  go_wp2
  obtain ⟨z0, z1, z2, z3, z4, z5⟩ := box6 HP.out
  refine bodyPost_ret (v := .agg #[.int .i64 a0, .int .i64 a1, .int .i64 a2, .int .i64 a3, .int .i64 a4, .int .i64 f]) (by simp [results, Tryd.results7, go_sem, z0, z1, z2, z3, z4, z5]) rfl ?_
  rw [HV.out]
  exact ⟨rfl, HPB.out⟩

/-- Is one time ahead of another? -/
def fAt (t : Stp) (i : Nat) : Int := [t.y, t.mo, t.d, t.h, t.mi, t.s].getD i 0

def erl (a b : Stp) : Nat → Bool
  | 0 => false
  | k + 1 => if fAt a (5 - k) ≠ fAt b (5 - k) then decide (fAt a (5 - k) < fAt b (5 - k)) else erl a b k
end Go.Proofs.YtjjepgkcgbbmhaaDoor

