import Derived.Test.YtecimcpaoobknabGTtw
import Derived.Test.YtecimcpaoobknabGLnb
import Derived.Test.YtecimcpaoobknabGEx
namespace Go.Proofs.Ytecimcpaoobknab
open Go.RowKit Go.Maps
set_option maxRecDepth 20000
set_option linter.unusedVariables false

theorem Lent.low {w w' : World} {base : Nat} {v : Value} {l : List Int} (h : Lent w base v l) (hb : Below w.heap.size w w') : Lent w' base v l := by
  obtain ⟨B, c, e, ho⟩ := h
  exact ⟨B, c, e, ho.below hb (Nat.le_refl _)⟩

set_option maxHeartbeats 4000000 in
theorem matchTokens_walk (v : Value) (D : List Int) (x y : Int) (z : Bool) (w : World) (h : SB w v D) (hB : Byt D) (hr : D.length ≤ 140737488351232) :
    Calls Try.prog 4 #[v, .agg #[.int .i64 x, .int .i64 y, .bool z]] w fun e w' => e = .returned (.bool true) ∧ Below w.heap.size w w' := by
  have HB : Hid (Below w.heap.size w (w.alloc (.cells #[.int .i64 x, .int .i64 y, .bool z] 24))) := (Below.refl _ _).alloc (Nat.le_refl _) _
  have HS := hide (h.below ((Below.refl _ _).alloc (Nat.le_refl _) (.cells #[.int .i64 x, .int .i64 y, .bool z] 24)))
  obtain ⟨wb, hwb⟩ : ∃ wb, w.alloc (.cells #[.int .i64 x, .int .i64 y, .bool z] 24) = wb := ⟨_, rfl⟩
  have hbl : w.heap.size < wb.heap.size := by rw [← hwb]; simp
  have d1 : wb.cell? ⟨w.heap.size, 0, none⟩ = some (.int .i64 x) := by rw [← hwb]; unfold World.cell?; simp only [heap_alloc_new]; rfl
  have d2 : wb.cell? ⟨w.heap.size, 1, none⟩ = some (.int .i64 y) := by rw [← hwb]; unfold World.cell?; simp only [heap_alloc_new]; rfl
  have d3 : wb.cell? ⟨w.heap.size, 2, none⟩ = some (.bool z) := by rw [← hwb]; unfold World.cell?; simp only [heap_alloc_new]; rfl
  rw [hwb] at HB HS
  have HBT := hide hB
  have HC : Hid (∀ wx, Below wb.heap.size wb wx → wx.cell? ⟨w.heap.size, 0, none⟩ = some (.int .i64 x) ∧ wx.cell? ⟨w.heap.size, 1, none⟩ = some (.int .i64 y) ∧ wx.cell? ⟨w.heap.size, 2, none⟩ = some (.bool z)) := fun wx q => ⟨(q.cell hbl).trans d1, (q.cell hbl).trans d2, (q.cell hbl).trans d3⟩
  obtain ⟨ao, cap, rfl, hlc, hcm⟩ := h.open
  clear h hB
  have HLE := hide (lent_any _ D wb HS.out hr)
  go_enter Try.func4, Try.ntmps4
  go_wp2_with fail
  refine HLE.out.mono ?_
  rintro e w2 ⟨u2, rfl, l2, b2⟩
  have hu2 := l2
  obtain ⟨gB, cB, hub, _⟩ := hu2
  subst hub
  have HL2 := hide l2
  have HB2 := hide b2
  obtain ⟨f1, f2, f3⟩ := HC.out _ b2
  have HTO := hide (tokens_any _ D x y z w2 l2.sb HBT.out)
  clear l2 b2 hwb d1 d2 d3 HLE
  obtain ⟨L, HL⟩ : ∃ L, Hid (L = tL D x y z) := ⟨_, rfl⟩
  obtain ⟨E, HE⟩ : ∃ L, Hid (L = tE D x y) := ⟨_, rfl⟩
  rw [← HL.out, ← HE.out] at HTO
  go_wp2_with fail
  refine HTO.out.mono ?_
  rintro e w3 ⟨u3, rfl, o3, b3⟩
  have HB3 := hide (HB2.out.trans (b3.mono HB2.out.size))
  have HL3 := hide (HL2.out.low b3)
  have HO3 := hide o3
  obtain ⟨a3, c3, hu3, _⟩ := o3.shape
  subst hu3
  obtain ⟨g1, g2, g3⟩ := HC.out _ HB3.out
  have HXB := hide (xTokens_any _ D x y z w3 (HS.out.below HB3.out))
  rw [← HL.out, ← HE.out] at HXB
  clear b3 o3 f1 f2 f3 HTO HL2 HB2
  go_wp2_with fail
  refine HXB.out.mono ?_
  rintro e w4 ⟨u4, rfl, o4, b4⟩
  have HB4 := hide (HB3.out.trans (b4.mono HB3.out.size))
  have HL4 := hide (HL3.out.low b4)
  have HAL := hide (alike_any _ _ L L w4 (HO3.out.below b4 (Nat.le_refl _)).sk o4.sk)
  rw [eqK_self] at HAL
  obtain ⟨a4, c4, hu4, _⟩ := o4.shape
  subst hu4
  have qe : (E == E) = true := by simp
  clear b4 o4 g1 g2 g3 HXB HL3 HO3
  go_wp2_with fail
  refine HAL.out.mono ?_
  rintro e w5 ⟨rfl, n5, hw5⟩
  have HB5 : Hid (Below wb.heap.size wb w5) := by rw [hw5]; exact below_drewN HB4.out _
  have HL5 : Hid (Lent w5 _ _ D) := hide (HL4.out.low (by rw [hw5]; exact below_drewN (Below.refl _ _) _))
  have HST := hide (still_any _ _ D w5 _ HL5.out (HS.out.below HB5.out) hr)
  clear hw5 HAL HL4 HB4
  go_wp2_with fail
  refine (lnum_any w5 E).mono ?_
  rintro e w6 ⟨rfl, hw6⟩
  subst hw6
  go_wp2_with fail
  refine HST.out.mono ?_
  rintro e w7 ⟨rfl, n7, hw7⟩
  have HB7 : Hid (Below w.heap.size w w7) := by rw [hw7]; exact below_drewN (HB.out.trans (HB5.out.mono HB.out.size)) _
  clear hw7
  go_wp2
  go_ret
  exact ⟨rfl, HB7.out⟩
end Go.Proofs.Ytecimcpaoobknab

