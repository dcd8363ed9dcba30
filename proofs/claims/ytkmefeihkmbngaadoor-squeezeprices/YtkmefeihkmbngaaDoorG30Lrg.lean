import Derived.Test.YtkmefeihkmbngaaDoorG29Lrf
import Derived.Test.YtkmefeihkmbngaaDoorG05Pks
namespace Go.Proofs.YtkmefeihkmbngaaDoor
open Go.RowKit Go.Maps
set_option maxRecDepth 20000
set_option linter.unusedVariables false

theorem prices_walk (v : Value) (R : List Tk) (w : World) (h : SK w v R) (hb : ∀ t ∈ R, Bt t) (hn : R.length ≤ 5864062014800) (T : Ltab w ∧ Dtab w) :
    Calls Tryd.prog 4 #[v] w fun e w' => e = .returned (.bool true) ∧ Below w.heap.size w w' := by
  have HS := hide h
  have HT := hide T
  have HBT := hide hb
  obtain ⟨ao, cap, rfl, hlc, hcm⟩ := h.open
  have HL := hide (list_any _ R w h (by omega))
  have HNM := hide (fun x w0 => num_any x w0)
  clear h hb T
  go_enter Tryd.func4, Tryd.ntmps4
  go_wp2_with fail
  refine HL.out.mono ?_
  rintro e w1 ⟨u, rfl, o1, b1⟩
  have hsk := o1.sk
  obtain ⟨ac, cc, rfl, _, _⟩ := hsk.open
  have HO1 := hide hsk
  have HB1 := hide b1
  have HC := hide (qPrices_any _ R w1 hsk HBT.out ⟨HT.out.1.low b1, HT.out.2.low b1⟩)
  clear o1 b1 hsk HL
  go_wp2_with fail
  refine HC.out.mono ?_
  rintro e w2 ⟨vl, vd, rfl, o2, o3, o4, b2⟩
  have HB2 := hide (HB1.out.trans (b2.mono HB1.out.size))
  have HX := hide (vPrices_any _ R w2 (HS.out.below HB2.out) HBT.out)
  have HO2 := hide (HO1.out.below b2)
  have HL2 := hide o2
  have HD2 := hide o3
  clear o2 o3 o4 b2 HC HO1
  go_wp2_with fail
  refine HX.out.mono ?_
  rintro e w3 ⟨vl3, vd3, rfl, o2, o3, o4, b3⟩
  have HB3 := hide (HB2.out.trans (b3.mono HB2.out.size))
  have HO3 := hide (HO2.out.below b3)
  have HL3 := hide ((HL2.out.move fun k hk => b3.block k (HL2.out.lt k hk).2).sb)
  have HD3 := hide ((HD2.out.move fun k hk => b3.block k (HD2.out.lt k hk).2).sb)
  have HL4 := hide o2.sb
  have HD4 := hide o3.sb
  have HS3 := hide (HS.out.below HB3.out)
  clear o2 o3 o4 b3 HX HO2 HL2 HD2
  go_wp2_with fail
  refine (HNM.out _ _).mono ?_
  rintro e w4 ⟨rfl, rfl⟩
  have HQ := hide (isame_any _ _ _ _ _ HL3.out HL4.out)
  rw [eqI_self] at HQ
  go_wp2_with fail
  refine HQ.out.mono ?_
  rintro e w5 ⟨rfl, n5, hw5⟩
  subst hw5
  have HQ2 := hide (isame_any _ _ _ _ _ (HD3.out.below (below_drewN (Below.refl _ _) n5)) (HD4.out.below (below_drewN (Below.refl _ _) n5)))
  rw [eqI_self] at HQ2
  go_wp2_with fail
  refine HQ2.out.mono ?_
  rintro e w6 ⟨rfl, n6, hw6⟩
  subst hw6
  have HQ3 := hide (alike_any _ _ _ _ _ (HO3.out.below (below_drewN (Below.refl _ _) (n5 + n6))) (HS3.out.below (below_drewN (Below.refl _ _) (n5 + n6))))
  rw [show eqK R R = true by simp [eqK]] at HQ3
  go_wp2_with fail
  refine HQ3.out.mono ?_
  rintro e w7 ⟨rfl, n7, hw7⟩
  subst hw7
  have HB7 := hide (fun m => below_drewN HB3.out m)
  clear HQ HQ2 HQ3
  go_wp2
  go_ret
  exact ⟨rfl, HB7.out _⟩
end Go.Proofs.YtkmefeihkmbngaaDoor

