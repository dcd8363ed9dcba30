import Derived.Test.YtgengoffkoonfaaGXlm
import Derived.Test.YtgengoffkoonfaaGLmw
namespace Go.Proofs.Ytgengoffkoonfaa
open Go.RowKit Go.Maps
set_option maxRecDepth 20000

theorem build_limited_walk (vf : Value) (f : List Int) (lim : Int) (w : World) (hf : SI w vf f) (rf : f.length ≤ 17592186043904) (hlim : -9223372036854775808 ≤ lim ∧ lim ≤ 9223372036854775807) :
    Calls Try.prog 7 #[vf, .int .i64 lim] w fun e w' => e = .returned (.bool true) ∧ Below w.heap.size w w' := by
  have HF := hide hf
  obtain ⟨af, cf, rfl, hlf, hmf⟩ := hf.open
  clear hf
  go_enter Try.func7, Try.ntmps7
  go_wp2_with fail
  refine (lent_any _ f w HF.out rf).mono ?_
  rintro e w1 ⟨g1, c1, rfl, hl1, hb1⟩
  have HL1 := hide hl1
  have HB1 := hide hb1
  clear hl1 hb1
  have hs1 := HL1.out.cap
  obtain ⟨y, HY⟩ : ∃ x, Hid (x = lmE f lim) := ⟨_, hide rfl⟩
  obtain ⟨D, HDL⟩ : ∃ x, Hid (x = lmL f lim) := ⟨_, hide rfl⟩
  have HDC := hide (limited_any _ f lim w1 HL1.out.si (fun k hk => (OI.lt HL1.out k hk).2) hlim)
  rw [← HY.out, ← HDL.out] at HDC
  go_wp2_with fail
  refine HDC.out.mono ?_
  rintro e w2 ⟨a2, c2, rfl, ho2, hb2⟩
  have HL2 := hide (HL1.out.below hb2 (Nat.le_refl _))
  have HO2 := hide ho2
  have HB2 := hide (HB1.out.trans (hb2.mono HB1.out.size))
  have HF2 := hide (HF.out.below HB2.out)
  clear ho2 hb2 HL1 HB1 HDC
  have HXC := hide (xlimited_any _ f lim w2 HF2.out hlim)
  rw [← HY.out, ← HDL.out] at HXC
  go_wp2_with fail
  refine HXC.out.mono ?_
  rintro e w3 ⟨a3, c3, rfl, ho3, hb3⟩
  have HL3 := hide (HL2.out.below hb3 (Nat.le_refl _))
  have HO23 := hide (HO2.out.below hb3 (Nat.le_refl _))
  have HO3 := hide ho3
  have HB3 := hide (HB2.out.trans (hb3.mono HB2.out.size))
  clear ho3 hb3 HL2 HB2 HXC HO2 HF2
  have HBx : ∀ q, Hid (Below w3.heap.size w3 (w3.drewN q)) := fun q => below_drewN (Below.refl _ _) q
  have HL5 : Hid (∀ q, Lent (w3.drewN q) w.heap.size g1 c1 f) := fun q => HL3.out.below (HBx q).out (Nat.le_refl _)
  have HF5 : Hid (∀ q, SI (w3.drewN q) (.slice af f.length cf) f) := fun q => HF.out.below (below_drewN HB3.out q)
  go_wp2_with fail
  refine (num_any _ _).mono ?_
  rintro e w5 ⟨rfl, rfl⟩
  go_wp2_with fail
  refine (isame_any _ _ D D _ HO23.out.sb HO3.out.sb).mono ?_
  rintro e w6 ⟨rfl, q6, rfl⟩
  rw [show eqI D D = true by simp [eqI]]
  go_wp2_with fail
  refine (still_any _ _ _ f _ _ (HL5.out _) (HF5.out _) rf).mono ?_
  rintro e w7 ⟨rfl, q7, rfl⟩
  simp only [World.drewN_drewN]
  have HBF := hide (below_drewN HB3.out (q6 + q7))
  go_wp2
  go_ret
  exact ⟨rfl, HBF.out⟩
end Go.Proofs.Ytgengoffkoonfaa

