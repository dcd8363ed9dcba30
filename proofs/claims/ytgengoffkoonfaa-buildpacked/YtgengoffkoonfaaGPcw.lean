import Derived.Test.YtgengoffkoonfaaGLgd
import Derived.Test.YtgengoffkoonfaaGKr
namespace Go.Proofs.Ytgengoffkoonfaa
open Go.RowKit Go.Maps
set_option maxRecDepth 20000
set_option linter.unusedVariables false

set_option maxHeartbeats 4000000 in
theorem packed_walk (vf : Value) (f : List Int) (lim : Int) (vn : Value) (n : List Int) (h64 : ∀ x ∈ n, -9223372036854775808 ≤ x ∧ x ≤ 9223372036854775807) (w : World) (hf : SI w vf f) (hn : SI w vn n) (rf : f.length ≤ 17592186043904) (hlim : -9223372036854775808 ≤ lim ∧ lim ≤ 9223372036854775807) :
    Calls Try.prog 6 #[vf, .int .i64 lim, vn] w fun e w' => e = .returned (.bool true) ∧ Below w.heap.size w w' := by
  have HF := hide hf
  obtain ⟨af, cf, rfl, hlf, hmf⟩ := hf.open
  have HSC := hide (sound_any _ f w HF.out)
  have HN := hide hn
  have H64 := hide h64
  obtain ⟨an, cn, rfl, hln, hmn⟩ := hn.open
  clear hf hn h64
  cases hb : (decide (f.length ≤ 288) && bnb f 4294967296) with
  | false =>
    rw [hb] at HSC
    clear hb
    go_enter Try.func6, Try.ntmps6
    go_wp2_with fail
    refine HSC.out.mono ?_
    rintro e w' ⟨rfl, hw'⟩
    rw [hw']
    clear hw'
    go_wp2
    go_ret
    exact ⟨rfl, Below.refl _ _⟩
  | true =>
    rw [hb] at HSC
    have HS := hide (Sound.ofB hb)
    have h288 := HS.out.len
    clear hb
    by_cases hl1 : lim < 1
    · go_enter Try.func6, Try.ntmps6
      go_wp2_with fail
      refine HSC.out.mono ?_
      rintro e w' ⟨rfl, hw'⟩
      rw [hw']
      clear hw'
      go_wp2
      go_ret
      exact ⟨rfl, Below.refl _ _⟩
    by_cases hl2 : 15 < lim
    · go_enter Try.func6, Try.ntmps6
      go_wp2_with fail
      refine HSC.out.mono ?_
      rintro e w' ⟨rfl, hw'⟩
      rw [hw']
      clear hw'
      go_wp2
      go_ret
      exact ⟨rfl, Below.refl _ _⟩
    obtain ⟨L, rfl⟩ : ∃ L : Nat, lim = L := ⟨lim.toNat, by omega⟩
    have hL : 1 ≤ L ∧ L ≤ 15 := by omega
    have hul := us_le (l := f)
    obtain ⟨p, hp⟩ : ∃ p, p = 2 ^ L := ⟨_, rfl⟩
    obtain ⟨p1, p2, p3, p4⟩ := pow15 hL.2 hp
    have HUC := hide (uses_any _ f w HF.out HS.out.len)
    have HPP := hide hp
    clear hp
    by_cases h60 : p < (us f).length
    · obtain ⟨u, HU⟩ : ∃ u, Hid (u = (us f).length) := ⟨_, rfl⟩
      rw [← HU.out] at h60 hul HUC
      have h60' : (p : Int) < (u : Int) := by omega
      go_enter Try.func6, Try.ntmps6
      go_wp2_with fail
      refine HSC.out.mono ?_
      rintro e w' ⟨rfl, hw'⟩
      rw [hw']
      clear hw'
      go_wp2_with fail
      refine HUC.out.mono ?_
      rintro e w' ⟨rfl, hw'⟩
      rw [hw']
      clear hw'
      go_wp2
      go_ret
      exact ⟨rfl, Below.refl _ _⟩
    have HU2 : Hid ((us f).length ≤ 2 ^ L) := by rw [← HPP.out]; exact Nat.le_of_not_lt h60
    obtain ⟨u, HU⟩ : ∃ u, Hid (u = (us f).length) := ⟨_, rfl⟩
    rw [← HU.out] at h60 hul HUC
    have h60' : ¬ (p : Int) < (u : Int) := by omega
    have HG := hide (gd_lmt HS.out hL HU2.out)
    have hlim2 : ((L : Int) ≤ 9223372036854775807 ∧ -9223372036854775808 ≤ (L : Int)) := by omega
    go_enter Try.func6, Try.ntmps6
    go_wp2_with fail
    refine HSC.out.mono ?_
    rintro e w' ⟨rfl, hw'⟩
    rw [hw']
    clear hw'
    go_wp2_with fail
    refine HUC.out.mono ?_
    rintro e w' ⟨rfl, hw'⟩
    rw [hw']
    clear hw'
    go_wp2_with fail
    refine (copied_any _ f _ HF.out rf).mono ?_
    rintro e w2 ⟨a2, c2, rfl, ho2, hb2⟩
    have HO2 := hide ho2
    have HB2 := hide hb2
    clear ho2 hb2
    go_wp2_with fail
    refine (limited_ok HS.out hL HU2.out _ _ HO2.out.sb HO2.out.blk).mono ?_
    rintro e w3 ⟨a3, c3, rfl, ho3, hb3⟩
    have HO3 := hide ho3
    have HB3 := hide (HB2.out.trans (hb3.mono HB2.out.size))
    have HF3 := hide (HF.out.below HB3.out)
    have HN3 := hide (HN.out.below HB3.out)
    clear ho3 hb3
    go_wp2_with fail
    refine (good_gd _ _ f (lmt f L) L _ HF3.out HO3.out.sb HS.out HG.out hlim2).mono ?_
    rintro e w4 ⟨rfl, hw4⟩
    rw [hw4]
    clear hw4
    have HK := hide (kraft_any _ _ f n L w3 HF3.out HN3.out HS.out.len hlim2 (in64 H64.out))
    by_cases hk : krV f n L < 0
    · obtain ⟨kv, HKV⟩ : ∃ kv, Hid (kv = krV f n L) := ⟨_, rfl⟩
      rw [← HKV.out] at HK hk
      go_wp2_with fail
      refine HK.out.mono ?_
      rintro e w5 ⟨rfl, hw5⟩
      rw [hw5]
      clear hw5
      go_wp2
      go_ret
      exact ⟨rfl, HB3.out⟩
    · obtain ⟨k1, k2, k3⟩ := krV_facts HS.out hk
      have hbest := lm_best HS.out hL HU2.out k2 k3
      have HL1 := hide (lcost_ok _ _ f (lmt f L) L w3 HF3.out HO3.out.sb HS.out HG.out.len HG.out.ok)
      have HL2 : Hid (∀ q, Calls Try.prog 19 #[.slice af f.length cf, .slice an n.length cn] (w3.drewN q) fun e w' => e = .returned (.int .i64 ((fl (fq f) (nn n) (us f) : Nat) : Int)) ∧ ∃ q', w' = (w3.drewN q).drewN q') := fun q =>
        lcost_ok _ _ f n L _ (HF3.out.below (below_drewN (Below.refl _ _) q)) (HN3.out.below (below_drewN (Below.refl _ _) q)) HS.out k1 k2
      obtain ⟨x, HX⟩ : ∃ x, Hid (x = fl (fq f) (nn (lmt f L)) (us f)) := ⟨_, rfl⟩
      obtain ⟨y, HY⟩ : ∃ x, Hid (x = fl (fq f) (nn n) (us f)) := ⟨_, rfl⟩
      rw [← HX.out] at hbest HL1
      rw [← HY.out] at hbest HL2
      obtain ⟨kv, HKV⟩ : ∃ kv, Hid (kv = krV f n L) := ⟨_, rfl⟩
      rw [← HKV.out] at HK hk
      clear k1 k2 k3
      have hxy : (x : Int) ≤ (y : Int) := by omega
      go_wp2_with fail
      refine HK.out.mono ?_
      rintro e w5 ⟨rfl, hw5⟩
      rw [hw5]
      clear hw5
      go_wp2_with fail
      refine HL1.out.mono ?_
      rintro e w6 ⟨rfl, q6, rfl⟩
      go_wp2_with fail
      refine (HL2.out q6).mono ?_
      rintro e w7 ⟨rfl, q7, rfl⟩
      go_wp2
      go_ret
      exact ⟨rfl, below_drewN HB3.out _⟩
end Go.Proofs.Ytgengoffkoonfaa

