import Derived.Test.YtjdgeonlbjokaaaGTcl
import Derived.Test.YtjdgeonlbjokaaaGBp
namespace Go.Proofs.Ytjdgeonlbjokaaa
open Go.RowKit Go.Maps
set_option maxRecDepth 20000
set_option linter.unusedVariables false

set_option maxHeartbeats 1000000 in
/-- Each tells a loop over a copy of its own. -/
theorem each_yes (v : Value) (D : List Int) (x y : Int) (z : Bool) (w : World) (h : SB w v D) (hn : D.length ≤ 16777216) (hm : mbb D.length x y = true) :
    Calls Try.prog 15 #[v, .agg #[.int .i64 x, .int .i64 y, .bool z]] w fun e w' => ∃ u, e = .returned (.func (.func 26) #[] #[.pointer (some ⟨w.heap.size, 0, none⟩), .pointer (some ⟨w.heap.size + 1, 0, none⟩)]) ∧ OB w' (w.heap.size + 2) u D ∧
      w'.heap[w.heap.size]? = some (.cells #[u] 22 (0, 0)) ∧ w'.heap[w.heap.size + 1]? = some (.cells #[.int .i64 x, .int .i64 y, .bool z] 24 (0, 0)) ∧ Below w.heap.size w w' := by
  have HM := hide hm
  have b1 : Below w.heap.size w (w.alloc (.cells #[v] 22)) := (Below.refl _ _).alloc (Nat.le_refl _) _
  have HB2 := hide (b1.alloc (by have := b1.size; omega) (.cells #[.int .i64 x, .int .i64 y, .bool z] 24))
  have e1 := heap_alloc_new w (.cells #[v] 22)
  have e2 := heap_alloc_new (w.alloc (.cells #[v] 22)) (.cells #[.int .i64 x, .int .i64 y, .bool z] 24)
  obtain ⟨w2, hw2⟩ : ∃ w2, (w.alloc (.cells #[v] 22)).alloc (.cells #[.int .i64 x, .int .i64 y, .bool z] 24) = w2 := ⟨_, rfl⟩
  have hs2 : w2.heap.size = w.heap.size + 2 := by rw [← hw2]; simp
  have s1 : (w.alloc (.cells #[v] 22)).heap.size = w.heap.size + 1 := by simp
  rw [hw2] at HB2 e2
  rw [s1] at e2
  have g1 : w2.heap[w.heap.size]? = some (.cells #[v] 22 (0, 0)) := by rw [← hw2]; exact (Below.heap_alloc _ _ _ (by simp)).trans e1
  have HG1 := hide g1
  have HG2 := hide e2
  have c0 : w2.cell? ⟨w.heap.size, 0, none⟩ = some v := cellIn g1 rfl
  have d0 : w2.cell? ⟨w.heap.size + 1, 0, none⟩ = some (.int .i64 x) := cellIn e2 rfl
  have d1 : w2.cell? ⟨w.heap.size + 1, 1, none⟩ = some (.int .i64 y) := cellIn e2 rfl
  have d2 : w2.cell? ⟨w.heap.size + 1, 2, none⟩ = some (.bool z) := cellIn e2 rfl
  have HS2 := hide (h.below HB2.out)
  obtain ⟨ao, cap, rfl, hlc, hcm⟩ := h.open
  have HMB := hide (mayBe_any D ao cap x y z w2)
  rw [HM.out] at HMB
  clear h e1 b1 hm s1
  have hmf : ∀ (fn : Fn) (first cap : Array Value) (w : World), (Instr.makeFunc fn first cap).run Try.prog w = .ok (.func fn first cap) w := fun _ _ _ _ => rfl
  go_enter Try.func15, Try.ntmps15
  go_wp2_with fail
  refine HMB.out.mono ?_
  rintro e w3 ⟨rfl, b3⟩
  have hs3 := b3.size
  have c3 : w3.cell? ⟨w.heap.size, 0, none⟩ = some (.slice ao D.length cap) := (b3.cell (by show w.heap.size < w2.heap.size; omega)).trans c0
  have HG3 := hide ((b3.block w.heap.size (by omega)).trans HG1.out)
  have HH3 := hide ((b3.block (w.heap.size + 1) (by omega)).trans HG2.out)
  have HC := hide (bclone_any _ D w3 (HS2.out.below b3) hn)
  have HB3 := hide (HB2.out.trans (b3.mono (by omega)))
  clear hw2 b3 HMB c0 d0 d1 d2 g1 e2
  go_wp2_with fail
  refine HC.out.mono ?_
  rintro e w4 ⟨u, rfl, ho4, b4⟩
  have hs4 := b4.size
  have g4 := (b4.block w.heap.size (by omega)).trans HG3.out
  have h4 := (b4.block (w.heap.size + 1) (by omega)).trans HH3.out
  have c4 : w4.cell? ⟨w.heap.size, 0, none⟩ = some (.slice ao D.length cap) := cellIn g4 rfl
  have f4 : w4.frozen? ⟨w.heap.size, 0, none⟩ = false := by unfold World.frozen?; simp [g4]
  have b40 := HB3.out.trans (b4.mono (by omega))
  have HFN : Hid (OB (w4.setCell ⟨w.heap.size, 0, none⟩ u) (w.heap.size + 2) u D ∧ (w4.setCell ⟨w.heap.size, 0, none⟩ u).heap[w.heap.size]? = some (.cells #[u] 22 (0, 0)) ∧ (w4.setCell ⟨w.heap.size, 0, none⟩ u).heap[w.heap.size + 1]? = some (.cells #[.int .i64 x, .int .i64 y, .bool z] 24 (0, 0)) ∧ Below w.heap.size w (w4.setCell ⟨w.heap.size, 0, none⟩ u)) := by
    refine ⟨?_, ?_, ?_, ⟨b40.os, b40.tape, b40.output, by rw [size_setCell]; exact b40.size, fun k hk => (setCell_others _ _ _ _ k (by omega)).trans (b40.block k hk)⟩⟩
    · have := ho4.move (w' := w4.setCell ⟨w.heap.size, 0, none⟩ u) fun k hk => setCell_others _ _ _ _ k (by have := (ho4.lt k hk).1; omega)
      exact this.base (by omega)
    · rw [heap_setCell_at _ g4]; rfl
    · exact (setCell_others _ _ _ _ _ (by omega)).trans h4
  obtain ⟨au, pu, hu⟩ := ho4.shape
  subst hu
  clear ho4 b4 g4 h4 b40
  go_wp2
  go_ret
  exact ⟨_, rfl, HFN.out⟩
end Go.Proofs.Ytjdgeonlbjokaaa

