import Derived.Test.YtiabhmdefaabgaaDoorGRla
namespace Go.Proofs.YtiabhmdefaabgaaDoor
open Go.RowKit Go.Maps
set_option maxRecDepth 20000
set_option linter.unusedVariables false

theorem eqR_self (l : List Rn) : eqR l l = true := by simp [eqR]
theorem eqI_self (l : List Int) : eqI l l = true := by simp [eqI]

theorem Spare.below {w w' : World} {v : Value} {n : Nat} (h : Spare w v n) (hb : Below w.heap.size w w') : Spare w' v n := by
  obtain ⟨g, rfl, h⟩ := h
  exact ⟨g, rfl, fun j hj => (hb.cell (World.block_lt_of_cell? w _ (h j hj))).trans (h j hj)⟩

set_option maxHeartbeats 1000000 in
theorem headerRuns_walk (v : Value) (l : List Int) (w : World) (h : SI w v l) (T : Tab w) (hn : l.length ≤ 1048576) :
    Calls Tryd.prog 5 #[v] w fun e w' => e = .returned (.bool true) ∧ Below w.heap.size w w' := by
  have HS := hide h
  have HT := hide T
  obtain ⟨ao, cap, rfl, hlc, hcm⟩ := h.open
  clear h T
  go_enter Tryd.func5, Tryd.ntmps5
  go_wp2_with fail
  refine (roomy_any _ l w HS.out (by omega)).mono ?_
  rintro e w1 ⟨v1, rfl, hv1, o1, sp1, b1⟩
  subst hv1
  have HO1 := hide o1
  have HP1 := hide sp1
  have HB1 := hide b1
  clear o1 sp1 b1
  go_wp2_with fail
  refine (runs_any _ l w1 HO1.out.sb (HT.out.mono HB1.out) hn).mono ?_
  rintro e w2 ⟨u2, rfl, o2, b2⟩
  obtain ⟨a2, c2, hu2, _⟩ := o2.shape
  subst hu2
  have HB2 := hide (HB1.out.trans (b2.mono HB1.out.size))
  have HO2 := hide o2
  have HP2 := hide (HP1.out.below b2)
  have HI2 := hide (HO1.out.sb.below b2)
  clear o2 b2 HP1 HO1
  go_wp2_with fail
  refine (xruns_any _ l w2 (HS.out.below HB2.out) hn).mono ?_
  rintro e w3 ⟨u3, rfl, o3, b3⟩
  obtain ⟨a3, c3, hu3, _⟩ := o3.shape
  subst hu3
  have HB3 := hide (HB2.out.trans (b3.mono HB2.out.size))
  have HA3 := hide (alike_any _ _ _ _ w3 ((HO2.out.below b3 (Nat.le_refl _)).sr) o3.sr)
  have HP3 := hide (HP2.out.below b3)
  have HI3 := hide (HI2.out.below b3)
  rw [eqR_self] at HA3
  have HS3 := hide (HS.out.below HB3.out)
  clear o3 b3 HP2 HI2 HO2
  go_wp2_with fail
  refine (lnum_any w3 (rnE l)).mono ?_
  rintro e w4 ⟨rfl, hw4⟩
  subst hw4
  go_wp2_with fail
  refine HA3.out.mono ?_
  rintro e w5 ⟨rfl, n5, hw5⟩
  have b5 : Below w4.heap.size w4 w5 := by rw [hw5]; exact below_drewN (Below.refl _ _) n5
  have HB5 := hide (HB3.out.trans (b5.mono HB3.out.size))
  have HQ5 := hide (isame_any _ _ l l w5 (HI3.out.below b5) (HS3.out.below b5))
  rw [eqI_self] at HQ5
  have HP5 := hide (HP3.out.below b5)
  clear hw5 b5
  go_wp2_with fail
  refine HQ5.out.mono ?_
  rintro e w6 ⟨rfl, n6, hw6⟩
  have b6 : Below w5.heap.size w5 w6 := by rw [hw6]; exact below_drewN (Below.refl _ _) n6
  have HB6 := hide (HB5.out.trans (b6.mono HB5.out.size))
  have HP6 := hide (HP5.out.below b6)
  clear hw6 b6
  go_wp2_with fail
  refine (spared_any _ _ w6 HP6.out (by omega)).mono ?_
  rintro e w7 ⟨rfl, hw7⟩
  subst hw7
  go_wp2
  go_ret
  exact ⟨rfl, HB6.out⟩
end Go.Proofs.YtiabhmdefaabgaaDoor

