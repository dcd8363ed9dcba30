import Derived.Test.YtgengoffkoonfabGOdr
namespace Go.Proofs.Ytgengoffkoonfab
open Go.RowKit Go.Maps
set_option maxRecDepth 20000
set_option linter.unusedVariables false

set_option maxHeartbeats 4000000 in
theorem order_walk (vf : Value) (f : List Int) (lim : Int) (w : World) (hf : SI w vf f) (rf : f.length ≤ 17592186043904) (hlim : -9223372036854775808 ≤ lim ∧ lim ≤ 9223372036854775807) :
    Calls Try.prog 3 #[vf, .int .i64 lim] w fun e w' => e = .returned (.bool true) ∧ Below w.heap.size w w' := by
  have HF := hide hf
  obtain ⟨af, cf, rfl, hlf, hmf⟩ := hf.open
  have HSC := hide (sound_any _ f w HF.out)
  clear hf
  cases hb : (decide (f.length ≤ 288) && bnb f 4294967296) with
  | false =>
    rw [hb] at HSC
    clear hb
    go_enter Try.func3, Try.ntmps3
    go_wp2_with fail
    refine HSC.out.mono ?_
    rintro e w' ⟨rfl, hw'⟩
    rw [hw']
    clear hw'
    go_wp2
    go_ret
    exact ⟨rfl, Below.refl _ _⟩
  | true =>
    rw [hb] at HSC
    have HS := hide (Sound.ofB hb)
    have h288 := HS.out.len
    clear hb
    by_cases hl1 : lim < 1
    · go_enter Try.func3, Try.ntmps3
      go_wp2_with fail
      refine HSC.out.mono ?_
      rintro e w' ⟨rfl, hw'⟩
      rw [hw']
      clear hw'
      go_wp2
      go_ret
      exact ⟨rfl, Below.refl _ _⟩
    by_cases hl2 : 15 < lim
    · go_enter Try.func3, Try.ntmps3
      go_wp2_with fail
      refine HSC.out.mono ?_
      rintro e w' ⟨rfl, hw'⟩
      rw [hw']
      clear hw'
      go_wp2
      go_ret
      exact ⟨rfl, Below.refl _ _⟩
    obtain ⟨L, rfl⟩ : ∃ L : Nat, lim = L := ⟨lim.toNat, by omega⟩
    have hL : 1 ≤ L ∧ L ≤ 15 := by omega
    have hul := us_le (l := f)
    obtain ⟨p, hp⟩ : ∃ p, p = 2 ^ L := ⟨_, rfl⟩
    obtain ⟨p1, p2, p3, p4⟩ := pow15 hL.2 hp
    have HUC := hide (uses_any _ f w HF.out HS.out.len)
    have HPP := hide hp
    clear hp
    by_cases h60 : p < (us f).length
    · obtain ⟨u, HU⟩ : ∃ u, Hid (u = (us f).length) := ⟨_, rfl⟩
      rw [← HU.out] at h60 hul HUC
      have h60' : (p : Int) < (u : Int) := by omega
      go_enter Try.func3, Try.ntmps3
      go_wp2_with fail
      refine HSC.out.mono ?_
      rintro e w' ⟨rfl, hw'⟩
      rw [hw']
      clear hw'
      go_wp2_with fail
      refine HUC.out.mono ?_
      rintro e w' ⟨rfl, hw'⟩
      rw [hw']
      clear hw'
      go_wp2
      go_ret
      exact ⟨rfl, Below.refl _ _⟩
    have HU2 : Hid ((us f).length ≤ 2 ^ L) := by rw [← HPP.out]; exact Nat.le_of_not_lt h60
    obtain ⟨u, HU⟩ : ∃ u, Hid (u = (us f).length) := ⟨_, rfl⟩
    rw [← HU.out] at h60 hul HUC
    have h60' : ¬ (p : Int) < (u : Int) := by omega
    have HG := hide (gd_lmt HS.out hL HU2.out)
    have HG0 := hide (gd_dpt HS.out)
    have hlim2 : ((L : Int) ≤ 9223372036854775807 ∧ -9223372036854775808 ≤ (L : Int)) := by omega
    go_enter Try.func3, Try.ntmps3
    go_wp2_with fail
    refine HSC.out.mono ?_
    rintro e w' ⟨rfl, hw'⟩
    rw [hw']
    clear hw'
    go_wp2_with fail
    refine HUC.out.mono ?_
    rintro e w' ⟨rfl, hw'⟩
    rw [hw']
    clear hw'
    go_wp2_with fail
    refine (copied_any _ f _ HF.out rf).mono ?_
    rintro e w2 ⟨a2, c2, rfl, ho2, hb2⟩
    have HO2 := hide ho2
    have HB2 := hide hb2
    clear ho2 hb2
    go_wp2_with fail
    refine (depths_ok HS.out _ _ HO2.out.sb).mono ?_
    rintro e w3 ⟨a3, c3, rfl, ho3, hb3⟩
    have HO3 := hide ho3
    have HB3 := hide (HB2.out.trans (hb3.mono HB2.out.size))
    have HF3 := hide (HF.out.below HB3.out)
    clear ho3 hb3
    go_wp2_with fail
    refine (copied_any _ f _ HF3.out rf).mono ?_
    rintro e w4 ⟨a4, c4, rfl, ho4, hb4⟩
    have HO4 := hide ho4
    have HB4 := hide (HB3.out.trans (hb4.mono HB3.out.size))
    have HO34 := hide (HO3.out.below hb4 (Nat.le_refl _))
    clear ho4 hb4
    go_wp2_with fail
    refine (limited_ok HS.out hL HU2.out _ _ HO4.out.sb HO4.out.blk).mono ?_
    rintro e w5 ⟨a5, c5, rfl, ho5, hb5⟩
    have HO5 := hide ho5
    have HB5 := hide (HB4.out.trans (hb5.mono HB4.out.size))
    have HO35 := hide (HO34.out.below hb5 (Nat.le_refl _))
    have HF5 := hide (HF.out.below HB5.out)
    clear ho5 hb5
    go_wp2_with fail
    refine (good_gd _ _ f (dpt f) 60 _ HF5.out HO35.out.sb HS.out HG0.out (by omega)).mono ?_
    rintro e w6 ⟨rfl, hw6⟩
    rw [hw6]
    clear hw6
    go_wp2_with fail
    refine (good_gd _ _ f (lmt f L) L _ HF5.out HO5.out.sb HS.out HG.out hlim2).mono ?_
    rintro e w6 ⟨rfl, hw6⟩
    rw [hw6]
    clear hw6
    have HSF : Hid (∀ q, SI (w5.drewN q) (.slice af f.length cf) f) := fun q => HF5.out.below (below_drewN (Below.refl _ _) q)
    have HSD : Hid (∀ q, SI (w5.drewN q) (.slice a3 (dpt f).length c3) (dpt f)) := fun q => by rw [dpt_len]; exact HO35.out.sb.below (below_drewN (Below.refl _ _) q)
    have HSL : Hid (∀ q, SI (w5.drewN q) (.slice a5 (lmt f L).length c5) (lmt f L)) := fun q => by rw [lmt_len]; exact HO5.out.sb.below (below_drewN (Below.refl _ _) q)
    go_wp2
    go_loopw [9] (fun vs wr => ∃ s : Nat, s ≤ f.length ∧ vs = .int .i64 s ∧ Hid (∃ q, wr = w5.drewN q)) (fun vs _ => f.length - (intOf vs).toNat)
    case atStart => exact ⟨0, Nat.zero_le _, rfl, 0, rfl⟩
    case round =>
      obtain ⟨s, hs, rfl, HQ⟩ := hrel
      by_cases hsl : s < f.length
      · have hsl' : (s : Int) < (f.length : Int) := by omega
        go_wp2
        go_loopw [10] (fun vt wr => ∃ t : Nat, t ≤ f.length ∧ vt = .int .i64 t ∧ Hid (∃ q, wr = w5.drewN q)) (fun vt _ => f.length - (intOf vt).toNat)
        case atStart => exact ⟨0, Nat.zero_le _, rfl, HQ⟩
        case round =>
          clear HQ
          obtain ⟨t, ht, rfl, HQ⟩ := hrel
          by_cases htl : t < f.length
          · have htl' : (t : Int) < (f.length : Int) := by omega
            obtain ⟨q, hq⟩ := HQ.out
            have hsf := HSF.out q
            have hsd := HSD.out q
            have hsl2 := HSL.out q
            rw [← hq] at hsf hsd hsl2
            clear hq
            obtain ⟨b1, o1, rfl, x1⟩ := hsf.get (Below.refl _ _) hsl
            obtain ⟨b1', o1', he1, x2⟩ := hsf.get (Below.refl _ _) htl
            simp only [Option.some.injEq, Addr.mk.injEq, and_true] at he1
            obtain ⟨rfl, rfl⟩ := he1
            obtain ⟨b2, o2, rfl, y1⟩ := hsd.get (Below.refl _ _) (k := s) (by rw [dpt_len]; exact hsl)
            obtain ⟨b2', o2', he2, y2⟩ := hsd.get (Below.refl _ _) (k := t) (by rw [dpt_len]; exact htl)
            simp only [Option.some.injEq, Addr.mk.injEq, and_true] at he2
            obtain ⟨rfl, rfl⟩ := he2
            obtain ⟨b3, o3, rfl, z1⟩ := hsl2.get (Below.refl _ _) (k := s) (by rw [lmt_len]; exact hsl)
            obtain ⟨b3', o3', he3, z2⟩ := hsl2.get (Below.refl _ _) (k := t) (by rw [lmt_len]; exact htl)
            simp only [Option.some.injEq, Addr.mk.injEq, and_true] at he3
            obtain ⟨rfl, rfl⟩ := he3
            rw [dpt_get hsl] at y1
            rw [dpt_get htl] at y2
            rw [lmt_get hsl] at z1
            rw [lmt_get htl] at z2
            have hns := HS.out.nn s
            have hnt := HS.out.nn t
            have HQN : Hid (∀ k, ∃ q, wr.drewN k = w5.drewN q) := fun k => by obtain ⟨q, hq⟩ := HQ.out; exact ⟨q + k, by rw [hq, World.drewN_drewN]⟩
            have O1 : Hid (0 < f.getD s 0 → 0 < f.getD t 0 → f.getD t 0 < f.getD s 0 → dp f s ≤ dp f t ∧ lm f L s ≤ lm f L t) := fun a b c => ⟨dp_order HS.out (mem_us.2 ⟨hsl, a⟩) (mem_us.2 ⟨htl, b⟩) c, lm_order (mem_us.2 ⟨hsl, a⟩) (mem_us.2 ⟨htl, b⟩) (.inl c)⟩
            have O2 : Hid (0 < f.getD s 0 → 0 < f.getD t 0 → f.getD s 0 = f.getD t 0 → s < t → lm f L t ≤ lm f L s) := fun a b c d => lm_order (mem_us.2 ⟨htl, b⟩) (mem_us.2 ⟨hsl, a⟩) (.inr ⟨c, d⟩)
            obtain ⟨xs, hxs⟩ : ∃ x, x = f.getD s 0 := ⟨_, rfl⟩
            obtain ⟨xt, hxt⟩ : ∃ x, x = f.getD t 0 := ⟨_, rfl⟩
            rw [← hxs] at x1 hns O1 O2
            rw [← hxt] at x2 hnt O1 O2
            obtain ⟨ds, hds⟩ : ∃ x, x = dp f s := ⟨_, rfl⟩
            obtain ⟨dt, hdt⟩ : ∃ x, x = dp f t := ⟨_, rfl⟩
            rw [← hds] at y1 O1
            rw [← hdt] at y2 O1
            obtain ⟨ls, hls⟩ : ∃ x, x = lm f L s := ⟨_, rfl⟩
            obtain ⟨lt, hlt⟩ : ∃ x, x = lm f L t := ⟨_, rfl⟩
            rw [← hls] at z1 O1 O2
            rw [← hlt] at z2 O1 O2
            clear hsf hsd hsl2 hxs hxt hds hdt hls hlt HQ
            by_cases e1 : xs = 0
            · have e1' : (xs == 0) = true := by simp [e1]
              clear e1
              go_wp2
              go_roundw
              case rel => exact ⟨t + 1, by omega, by go_num, HQN.out 0⟩
              case measure => simp [intOf]; omega
            · have e1' : (xs == 0) = false := by simp [e1]
              by_cases e2 : xt = 0
              · have e2' : (xt == 0) = true := by simp [e2]
                clear e1 e2
                go_wp2
                go_roundw
                case rel => exact ⟨t + 1, by omega, by go_num, HQN.out 0⟩
                case measure => simp [intOf]; omega
              · have e2' : (xt == 0) = false := by simp [e2]
                have hxs0 : 0 < xs := by omega
                have hxt0 : 0 < xt := by omega
                clear e1 e2
                by_cases g1 : xt < xs
                · obtain ⟨i1, i2⟩ := O1.out hxs0 hxt0 g1
                  have n1 : ¬ (dt : Int) < (ds : Int) := by omega
                  have n2 : ¬ (lt : Int) < (ls : Int) := by omega
                  have d0 : decide (xt < xs) = true := decide_eq_true g1
                  have d1 : decide ((dt : Int) < (ds : Int)) = false := decide_eq_false n1
                  have d2 : decide ((lt : Int) < (ls : Int)) = false := decide_eq_false n2
                  have d1' : decide (dt < ds) = false := decide_eq_false (by omega)
                  have d2' : decide (lt < ls) = false := decide_eq_false (by omega)
                  have g2 : (xs == xt) = false := by simp; omega
                  have g3 : ¬ xs = xt := by omega
                  clear O1 O2
                  go_wp2
                  go_quiet (fail)
                  go_wp2
                  go_quiet (fail)
                  go_wp2
                  go_roundw
                  case rel => exact ⟨t + 1, by omega, by go_num, by (try simp only [World.drewN_drewN]); exact HQN.out _⟩
                  case measure => simp [intOf]; omega
                · have d0 : decide (xt < xs) = false := decide_eq_false g1
                  by_cases g2 : xs = xt
                  · have g2' : (xs == xt) = true := by simp [g2]
                    by_cases g3 : s < t
                    · have i1 := O2.out hxs0 hxt0 g2 g3
                      have g3' : (s : Int) < (t : Int) := by omega
                      have d3 : decide ((s : Int) < (t : Int)) = true := decide_eq_true g3'
                      have d4 : decide ((ls : Int) < (lt : Int)) = false := decide_eq_false (by omega)
                      have d4' : decide (ls < lt) = false := decide_eq_false (by omega)
                      have d3' : decide (s < t) = true := decide_eq_true g3
                      clear O1 O2 g2
                      go_wp2
                      go_quiet (fail)
                      go_wp2
                      go_quiet (fail)
                      go_wp2
                      go_roundw
                      case rel => exact ⟨t + 1, by omega, by go_num, by (try simp only [World.drewN_drewN]); exact HQN.out _⟩
                      case measure => simp [intOf]; omega
                    · have g3' : ¬ (s : Int) < (t : Int) := by omega
                      have d3 : decide ((s : Int) < (t : Int)) = false := decide_eq_false g3'
                      have d3' : decide (s < t) = false := decide_eq_false g3
                      clear O1 O2 g2
                      go_wp2
                      go_quiet (fail)
                      go_wp2
                      go_quiet (fail)
                      go_wp2
                      go_roundw
                      case rel => exact ⟨t + 1, by omega, by go_num, by (try simp only [World.drewN_drewN]); exact HQN.out _⟩
                      case measure => simp [intOf]; omega
                  · have g2' : (xs == xt) = false := by simp [g2]
                    clear O1 O2
                    go_wp2
                    go_quiet (fail)
                    go_wp2
                    go_quiet (fail)
                    go_wp2
                    go_roundw
                    case rel => exact ⟨t + 1, by omega, by go_num, by (try simp only [World.drewN_drewN]); exact HQN.out _⟩
                    case measure => simp [intOf]; omega
          · obtain rfl : t = f.length := by omega
            have htl' : ¬ (f.length : Int) < (f.length : Int) := by omega
            go_wp2
            go_roundw
            case rel => exact ⟨s + 1, by omega, by go_num, HQ⟩
            case measure => simp [intOf]; omega
      · obtain rfl : s = f.length := by omega
        have hsl' : ¬ (f.length : Int) < (f.length : Int) := by omega
        have HFB : Hid (Below w.heap.size w wr) := by obtain ⟨q, hq⟩ := HQ.out; rw [hq]; exact below_drewN HB5.out q
        go_wp2
        go_ret
        exact ⟨rfl, HFB.out⟩
end Go.Proofs.Ytgengoffkoonfab

