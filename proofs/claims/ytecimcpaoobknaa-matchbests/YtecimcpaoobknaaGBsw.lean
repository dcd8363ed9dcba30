import Derived.Test.YtecimcpaoobknaaGBbw
import Derived.Test.YtecimcpaoobknaaGLnb
import Derived.Test.YtecimcpaoobknaaGEx
namespace Go.Proofs.Ytecimcpaoobknaa
open Go.RowKit Go.Maps
set_option maxRecDepth 20000
set_option linter.unusedVariables false

theorem Lent.below {w w' : World} {base : Nat} {v : Value} {l : List Int} (h : Lent w base v l) (hb : Below w.heap.size w w') : Lent w' base v l := by
  obtain ⟨B, c, e, ho⟩ := h
  exact ⟨B, c, e, ho.below hb (Nat.le_refl _)⟩

set_option maxHeartbeats 4000000 in
theorem matchBests_walk (v : Value) (D : List Int) (a x y : Int) (z : Bool) (w : World) (h : SB w v D) (hB : Byt D) (hr : D.length ≤ 140737488351232) :
    Calls Try.prog 7 #[v, .int .i64 a, .agg #[.int .i64 x, .int .i64 y, .bool z]] w fun e w' => e = .returned (.bool true) ∧ Below w.heap.size w w' := by
  have HB : Hid (Below w.heap.size w (w.alloc (.cells #[.int .i64 x, .int .i64 y, .bool z] 41))) := (Below.refl _ _).alloc (Nat.le_refl _) _
  have HS := hide (h.below ((Below.refl _ _).alloc (Nat.le_refl _) (.cells #[.int .i64 x, .int .i64 y, .bool z] 41)))
  obtain ⟨wb, hwb⟩ : ∃ wb, w.alloc (.cells #[.int .i64 x, .int .i64 y, .bool z] 41) = wb := ⟨_, rfl⟩
  have hbl : w.heap.size < wb.heap.size := by rw [← hwb]; simp
  have d1 : wb.cell? ⟨w.heap.size, 0, none⟩ = some (.int .i64 x) := by rw [← hwb]; unfold World.cell?; simp only [heap_alloc_new]; rfl
  have d2 : wb.cell? ⟨w.heap.size, 1, none⟩ = some (.int .i64 y) := by rw [← hwb]; unfold World.cell?; simp only [heap_alloc_new]; rfl
  have d3 : wb.cell? ⟨w.heap.size, 2, none⟩ = some (.bool z) := by rw [← hwb]; unfold World.cell?; simp only [heap_alloc_new]; rfl
  rw [hwb] at HB HS
  have HBT := hide hB
  have HC : Hid (∀ wx, Below wb.heap.size wb wx → wx.cell? ⟨w.heap.size, 0, none⟩ = some (.int .i64 x) ∧ wx.cell? ⟨w.heap.size, 1, none⟩ = some (.int .i64 y) ∧ wx.cell? ⟨w.heap.size, 2, none⟩ = some (.bool z)) := fun wx q => ⟨(q.cell hbl).trans d1, (q.cell hbl).trans d2, (q.cell hbl).trans d3⟩
  obtain ⟨ao, cap, rfl, hlc, hcm⟩ := h.open
  clear h hB
  have HLE := hide (lent_any _ D wb HS.out hr)
  go_enter Try.func7, Try.ntmps7
  go_wp2_with fail
  refine HLE.out.mono ?_
  rintro e w2 ⟨u2, rfl, l2, b2⟩
  have hu2 := l2
  obtain ⟨gB, cB, hub, _⟩ := hu2
  subst hub
  have HL2 := hide l2
  have HB2 := hide b2
  obtain ⟨f1, f2, f3⟩ := HC.out _ b2
  have HBE := hide (best_any _ D a x y z w2 l2.sb HBT.out)
  clear l2 b2 hwb d1 d2 d3 HLE
  obtain ⟨L, HL⟩ : ∃ L, Hid (L = bL D a x y) := ⟨_, rfl⟩
  obtain ⟨Q, HQ⟩ : ∃ L, Hid (L = bD D a x y) := ⟨_, rfl⟩
  obtain ⟨E, HE⟩ : ∃ L, Hid (L = bE D a x y) := ⟨_, rfl⟩
  rw [← HL.out, ← HQ.out, ← HE.out] at HBE
  go_wp2_with fail
  refine HBE.out.mono ?_
  rintro e w3 ⟨rfl, b3⟩
  have HB3 := hide (HB2.out.trans (b3.mono HB2.out.size))
  have HL3 := hide (HL2.out.below b3)
  obtain ⟨g1, g2, g3⟩ := HC.out _ HB3.out
  have HXB := hide (xBest_any _ D a x y z w3 (HS.out.below HB3.out))
  rw [← HL.out, ← HQ.out, ← HE.out] at HXB
  clear b3 f1 f2 f3 HBE HL2 HB2
  go_wp2_with fail
  refine HXB.out.mono ?_
  rintro e w4 ⟨rfl, b4⟩
  have HB4 := hide (HB3.out.trans (b4.mono HB3.out.size))
  have HL4 := hide (HL3.out.below b4)
  have HST := hide (still_any _ _ D w4 _ HL4.out (HS.out.below HB4.out) hr)
  have qe : (E == E) = true := by simp
  have ql : ((L : Int) == (L : Int)) = true := by simp
  have qq : ((Q : Int) == (Q : Int)) = true := by simp
  clear b4 g1 g2 g3 HXB HL3
  go_wp2_with fail
  refine (lnum_any w4 E).mono ?_
  rintro e w5 ⟨rfl, hw5⟩
  subst hw5
  go_wp2_with fail
  refine HST.out.mono ?_
  rintro e w6 ⟨rfl, n6, hw6⟩
  have HB6 : Hid (Below w.heap.size w w6) := by rw [hw6]; exact below_drewN (HB.out.trans (HB4.out.mono HB.out.size)) _
  clear hw6
  go_wp2
  go_ret
  exact ⟨rfl, HB6.out⟩
end Go.Proofs.Ytecimcpaoobknaa

