import Derived.Test.YtgengoffkoonfaaGLgd
import Derived.Test.YtgengoffkoonfaaGKr
namespace Go.Proofs.Ytgengoffkoonfaa
open Go.RowKit Go.Maps
set_option maxRecDepth 20000
set_option linter.unusedVariables false

set_option maxHeartbeats 4000000 in
theorem complete_walk (vf : Value) (f : List Int) (lim : Int) (w : World) (hf : SI w vf f) (rf : f.length ≤ 17592186043904) (hlim : -9223372036854775808 ≤ lim ∧ lim ≤ 9223372036854775807) :
    Calls Try.prog 8 #[vf, .int .i64 lim] w fun e w' => e = .returned (.bool true) ∧ Below w.heap.size w w' := by
  have HF := hide hf
  obtain ⟨af, cf, rfl, hlf, hmf⟩ := hf.open
  have HSC := hide (sound_any _ f w HF.out)
  clear hf
  cases hb : (decide (f.length ≤ 288) && bnb f 4294967296) with
  | false =>
    rw [hb] at HSC
    clear hb
    go_enter Try.func8, Try.ntmps8
    go_wp2_with fail
    refine HSC.out.mono ?_
    rintro e w' ⟨rfl, hw'⟩
    rw [hw']
    clear hw'
    go_wp2
    go_ret
    exact ⟨rfl, Below.refl _ _⟩
  | true =>
    rw [hb] at HSC
    have HS := hide (Sound.ofB hb)
    have h288 := HS.out.len
    clear hb
    by_cases hl1 : lim < 1
    · go_enter Try.func8, Try.ntmps8
      go_wp2_with fail
      refine HSC.out.mono ?_
      rintro e w' ⟨rfl, hw'⟩
      rw [hw']
      clear hw'
      go_wp2
      go_ret
      exact ⟨rfl, Below.refl _ _⟩
    by_cases hl2 : 15 < lim
    · go_enter Try.func8, Try.ntmps8
      go_wp2_with fail
      refine HSC.out.mono ?_
      rintro e w' ⟨rfl, hw'⟩
      rw [hw']
      clear hw'
      go_wp2
      go_ret
      exact ⟨rfl, Below.refl _ _⟩
    obtain ⟨L, rfl⟩ : ∃ L : Nat, lim = L := ⟨lim.toNat, by omega⟩
    have hL : 1 ≤ L ∧ L ≤ 15 := by omega
    have hul := us_le (l := f)
    obtain ⟨p, hp⟩ : ∃ p, p = 2 ^ L := ⟨_, rfl⟩
    obtain ⟨p1, p2, p3, p4⟩ := pow15 hL.2 hp
    have HUC := hide (uses_any _ f w HF.out HS.out.len)
    have HPP := hide hp
    clear hp
    have HG0 := hide (gd_dpt HS.out)
    have hlim2 : ((L : Int) ≤ 9223372036854775807 ∧ -9223372036854775808 ≤ (L : Int)) := by omega
    by_cases h60 : p < (us f).length
    · have HLE : Hid (lmL f L = [] ∧ lmE f L = 60) := by
        obtain ⟨q1, q2⟩ := HS.out.lmE hL
        rw [if_pos (by rw [← HPP.out]; exact h60)] at q1 q2
        exact ⟨q2, q1⟩
      obtain ⟨u, HU⟩ : ∃ u, Hid (u = (us f).length) := ⟨_, rfl⟩
      rw [← HU.out] at h60 hul HUC
      have h60' : (p : Int) < (u : Int) := by omega
      go_enter Try.func8, Try.ntmps8
      go_wp2_with fail
      refine HSC.out.mono ?_
      rintro e w' ⟨rfl, hw'⟩
      rw [hw']
      clear hw'
      go_wp2_with fail
      refine (copied_any _ f _ HF.out rf).mono ?_
      rintro e w2 ⟨a2, c2, rfl, ho2, hb2⟩
      have HO2 := hide ho2
      have HB2 := hide hb2
      clear ho2 hb2
      go_wp2_with fail
      refine (depths_ok HS.out _ _ HO2.out.sb).mono ?_
      rintro e w3 ⟨a3, c3, rfl, ho3, hb3⟩
      have HO3 := hide ho3
      have HB3 := hide (HB2.out.trans (hb3.mono HB2.out.size))
      have HF3 := hide (HF.out.below HB3.out)
      clear ho3 hb3
      go_wp2_with fail
      refine (good_gd _ _ f (dpt f) 60 _ HF3.out HO3.out.sb HS.out HG0.out (by omega)).mono ?_
      rintro e w4 ⟨rfl, hw4⟩
      rw [hw4]
      clear hw4
      go_wp2_with fail
      refine (copied_any _ f _ HF3.out rf).mono ?_
      rintro e w4 ⟨a4, c4, rfl, ho4, hb4⟩
      have HO4 := hide ho4
      have HB4 := hide (HB3.out.trans (hb4.mono HB3.out.size))
      clear ho4 hb4
      have HLC := hide (limited_any (.slice a4 f.length c4) f L w4 HO4.out.sb HO4.out.blk (by omega))
      rw [HLE.out.1, HLE.out.2] at HLC
      go_wp2_with fail
      refine HLC.out.mono ?_
      rintro e w5 ⟨a5, c5, rfl, ho5, hb5⟩
      have HB5 := hide (HB4.out.trans (hb5.mono HB4.out.size))
      have HUC5 := hide (uses_any _ f w5 (HF.out.below HB5.out) HS.out.len)
      rw [← HU.out] at HUC5
      clear ho5 hb5
      go_wp2_with fail
      refine HUC5.out.mono ?_
      rintro e w6 ⟨rfl, hw6⟩
      rw [hw6]
      clear hw6
      go_wp2
      go_ret
      exact ⟨rfl, HB5.out⟩

    · have HU2 : Hid ((us f).length ≤ 2 ^ L) := by rw [← HPP.out]; exact Nat.le_of_not_lt h60
      have HG := hide (gd_lmt HS.out hL HU2.out)
      obtain ⟨u, HU⟩ : ∃ u, Hid (u = (us f).length) := ⟨_, rfl⟩
      rw [← HU.out] at h60 hul HUC
      have h60' : ¬ (p : Int) < (u : Int) := by omega
      go_enter Try.func8, Try.ntmps8
      go_wp2_with fail
      refine HSC.out.mono ?_
      rintro e w' ⟨rfl, hw'⟩
      rw [hw']
      clear hw'
      go_wp2_with fail
      refine (copied_any _ f _ HF.out rf).mono ?_
      rintro e w2 ⟨a2, c2, rfl, ho2, hb2⟩
      have HO2 := hide ho2
      have HB2 := hide hb2
      clear ho2 hb2
      go_wp2_with fail
      refine (depths_ok HS.out _ _ HO2.out.sb).mono ?_
      rintro e w3 ⟨a3, c3, rfl, ho3, hb3⟩
      have HO3 := hide ho3
      have HB3 := hide (HB2.out.trans (hb3.mono HB2.out.size))
      have HF3 := hide (HF.out.below HB3.out)
      clear ho3 hb3
      go_wp2_with fail
      refine (good_gd _ _ f (dpt f) 60 _ HF3.out HO3.out.sb HS.out HG0.out (by omega)).mono ?_
      rintro e w4 ⟨rfl, hw4⟩
      rw [hw4]
      clear hw4
      go_wp2_with fail
      refine (copied_any _ f _ HF3.out rf).mono ?_
      rintro e w4 ⟨a4, c4, rfl, ho4, hb4⟩
      have HO4 := hide ho4
      have HB4 := hide (HB3.out.trans (hb4.mono HB3.out.size))
      clear ho4 hb4
      go_wp2_with fail
      refine (limited_ok HS.out hL HU2.out _ _ HO4.out.sb HO4.out.blk).mono ?_
      rintro e w5 ⟨a5, c5, rfl, ho5, hb5⟩
      have HO5 := hide ho5
      have HB5 := hide (HB4.out.trans (hb5.mono HB4.out.size))
      have HF5 := hide (HF.out.below HB5.out)
      have HUC5 := hide (uses_any _ f w5 HF5.out HS.out.len)
      rw [← HU.out] at HUC5
      clear ho5 hb5
      go_wp2_with fail
      refine HUC5.out.mono ?_
      rintro e w6 ⟨rfl, hw6⟩
      rw [hw6]
      clear hw6
      go_wp2_with fail
      refine (good_gd _ _ f (lmt f L) L _ HF5.out HO5.out.sb HS.out HG.out hlim2).mono ?_
      rintro e w6 ⟨rfl, hw6⟩
      rw [hw6]
      clear hw6
      go_wp2
      go_ret
      exact ⟨rfl, HB5.out⟩

end Go.Proofs.Ytgengoffkoonfaa

