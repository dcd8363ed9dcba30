import Derived.Test.YtgengoffkoonfabGScl
namespace Go.Proofs.Ytgengoffkoonfab
open Go.RowKit Go.Maps
set_option maxRecDepth 20000
set_option linter.unusedVariables false

set_option maxHeartbeats 4000000 in
theorem scaled_walk (vf : Value) (f : List Int) (lim : Int) (byy : Int) (w : World) (hf : SI w vf f) (rf : f.length ≤ 17592186043904) (hlim : -9223372036854775808 ≤ lim ∧ lim ≤ 9223372036854775807) :
    Calls Try.prog 5 #[vf, .int .i64 lim, .int .i64 byy] w fun e w' => e = .returned (.bool true) ∧ Below w.heap.size w w' := by
  have HF := hide hf
  obtain ⟨af, cf, rfl, hlf, hmf⟩ := hf.open
  have HSC := hide (sound_any _ f w HF.out)
  clear hf
  cases hb : (decide (f.length ≤ 288) && bnb f 4294967296) with
  | false =>
    rw [hb] at HSC
    clear hb
    go_enter Try.func5, Try.ntmps5
    go_wp2_with fail
    refine HSC.out.mono ?_
    rintro e w' ⟨rfl, hw'⟩
    rw [hw']
    clear hw'
    go_wp2
    go_ret
    exact ⟨rfl, Below.refl _ _⟩
  | true =>
    rw [hb] at HSC
    have HS := hide (Sound.ofB hb)
    have h288 := HS.out.len
    clear hb
    by_cases hl1 : lim < 1
    · go_enter Try.func5, Try.ntmps5
      go_wp2_with fail
      refine HSC.out.mono ?_
      rintro e w' ⟨rfl, hw'⟩
      rw [hw']
      clear hw'
      go_wp2
      go_ret
      exact ⟨rfl, Below.refl _ _⟩
    by_cases hl2 : 15 < lim
    · go_enter Try.func5, Try.ntmps5
      go_wp2_with fail
      refine HSC.out.mono ?_
      rintro e w' ⟨rfl, hw'⟩
      rw [hw']
      clear hw'
      go_wp2
      go_ret
      exact ⟨rfl, Below.refl _ _⟩
    obtain ⟨L, rfl⟩ : ∃ L : Nat, lim = L := ⟨lim.toNat, by omega⟩
    have hL : 1 ≤ L ∧ L ≤ 15 := by omega
    by_cases hx0 : byy < 1
    · go_enter Try.func5, Try.ntmps5
      go_wp2_with fail
      refine HSC.out.mono ?_
      rintro e w' ⟨rfl, hw'⟩
      rw [hw']
      clear hw'
      go_wp2
      go_ret
      exact ⟨rfl, Below.refl _ _⟩
    by_cases hx1 : 4294967296 < byy
    · go_enter Try.func5, Try.ntmps5
      go_wp2_with fail
      refine HSC.out.mono ?_
      rintro e w' ⟨rfl, hw'⟩
      rw [hw']
      clear hw'
      go_wp2
      go_ret
      exact ⟨rfl, Below.refl _ _⟩
    obtain ⟨b, rfl⟩ : ∃ b : Nat, byy = b := ⟨byy.toNat, by omega⟩
    have hb : 1 ≤ b ∧ b ≤ 4294967296 := by omega
    have hul := us_le (l := f)
    obtain ⟨p, hp⟩ : ∃ p, p = 2 ^ L := ⟨_, rfl⟩
    obtain ⟨p1, p2, p3, p4⟩ := pow15 hL.2 hp
    have HUC := hide (uses_any _ f w HF.out HS.out.len)
    have HPP := hide hp
    clear hp
    by_cases h60 : p < (us f).length
    · obtain ⟨u, HU⟩ : ∃ u, Hid (u = (us f).length) := ⟨_, rfl⟩
      rw [← HU.out] at h60 hul HUC
      have h60' : (p : Int) < (u : Int) := by omega
      go_enter Try.func5, Try.ntmps5
      go_wp2_with fail
      refine HSC.out.mono ?_
      rintro e w' ⟨rfl, hw'⟩
      rw [hw']
      clear hw'
      go_wp2_with fail
      refine HUC.out.mono ?_
      rintro e w' ⟨rfl, hw'⟩
      rw [hw']
      clear hw'
      go_wp2
      go_ret
      exact ⟨rfl, Below.refl _ _⟩
    have HU2 : Hid ((us f).length ≤ 2 ^ L) := by rw [← HPP.out]; exact Nat.le_of_not_lt h60
    obtain ⟨u, HU⟩ : ∃ u, Hid (u = (us f).length) := ⟨_, rfl⟩
    rw [← HU.out] at h60 hul HUC
    have h60' : ¬ (p : Int) < (u : Int) := by omega
    have HG := hide (gd_lmt HS.out hL HU2.out)
    have HG0 := hide (gd_dpt HS.out)
    have hlim2 : ((L : Int) ≤ 9223372036854775807 ∧ -9223372036854775808 ≤ (L : Int)) := by omega
    obtain ⟨bq, hbq⟩ : ∃ bq, bq = 4294967296 / b := ⟨_, rfl⟩
    have d1 : Int.tdiv 4294967296 (b : Int) = (bq : Int) := by rw [Int.tdiv_eq_ediv_of_nonneg (by omega), hbq]; rfl
    have d2 : (4294967296 : Int) / (b : Int) = (bq : Int) := by rw [hbq]; rfl
    have d3 : ¬ (b : Int) = 0 := by omega
    have hbq2 : bq ≤ 4294967296 := by rw [hbq]; exact Nat.div_le_self _ _
    have HSS : Hid ((∀ i, i < f.length → f.getD i 0 ≤ (bq : Int)) → Sound (scl b f)) := fun hh => scl_sound HS.out (by rw [← hbq]; exact hh)
    have HBM : Hid (∀ i, i < f.length → f.getD i 0 ≤ (bq : Int) → 0 ≤ (b : Int) * f.getD i 0 ∧ (b : Int) * f.getD i 0 ≤ 4294967296) := fun i hi hh => by
      have h0 := HS.out.nn i
      refine ⟨Int.mul_nonneg (by omega) h0, ?_⟩
      have e : f.getD i 0 = ((f.getD i 0).toNat : Int) := by omega
      rw [e] at hh ⊢
      rw [← Int.natCast_mul]
      have h3 : b * (f.getD i 0).toNat ≤ 4294967296 := Nat.le_trans (Nat.mul_le_mul_left b (show (f.getD i 0).toNat ≤ 4294967296 / b by rw [← hbq]; omega)) (Nat.mul_div_le 4294967296 b)
      omega
    have HED := hide (scl_dpt hb.1 HS.out)
    have HEL := hide (scl_lmt (L := L) hb.1 HS.out)
    have HEU := hide (scl_us hb.1 f)
    have HLN := hide (scl_len b f)
    clear hbq
    go_enter Try.func5, Try.ntmps5
    go_wp2_with fail
    refine HSC.out.mono ?_
    rintro e w' ⟨rfl, hw'⟩
    rw [hw']
    clear hw'
    go_wp2_with fail
    refine HUC.out.mono ?_
    rintro e w' ⟨rfl, hw'⟩
    rw [hw']
    clear hw'
    go_wp2
    go_loopw [7, 8] (fun u i wr => ∃ k : Nat, k ≤ f.length ∧ i = .int .i64 k ∧ Hid (∀ i, i < k → f.getD i 0 ≤ (bq : Int)) ∧ Hid (OI wr w.heap.size u ((scl b f).take k)) ∧ Hid (Below w.heap.size w wr)) (fun _ i _ => f.length - (intOf i).toNat)
    case atStart => exact ⟨0, Nat.zero_le _, rfl, (fun i hi => by omega), hide (show OI _ _ _ [] from World.ownsRow_nil _ _ _ _), Below.refl _ _⟩
    case round =>
      obtain ⟨k, hk, rfl, HLE, HO, HB⟩ := hrel
      by_cases hlt : k < f.length
      · have hlt' : (k : Int) < (f.length : Int) := by omega
        obtain ⟨b1, o1, rfl, hc⟩ := HF.out.get HB.out hlt
        have HBM1 := hide (HBM.out k hlt)
        have HD := hide (scl_take b f hlt)
        obtain ⟨y, HY⟩ : ∃ y, Hid (y = f.getD k 0) := ⟨_, rfl⟩
        rw [← HY.out] at hc HD HBM1
        by_cases hg : (bq : Int) < y
        · have HBR : Hid (∀ q, Below w.heap.size w (wr.drewN q)) := fun q => below_drewN HB.out q
          go_wp2
          go_quiet (fail)
          go_wp2
          go_ret
          exact ⟨rfl, HBR.out _⟩
        · obtain ⟨m1, m2⟩ := HBM1.out (by omega)
          have HLE2 : Hid (∀ i, i < k + 1 → f.getD i 0 ≤ (bq : Int)) := fun i hi => by
            by_cases e : i = k
            · rw [e, ← HY.out]; omega
            · exact HLE.out i (by omega)
          obtain ⟨z, hz⟩ : ∃ z, (b : Int) * y = z := ⟨_, rfl⟩
          rw [hz] at m1 m2 HD
          have hwz : IntKind.i64.wrap ((b : Int) * y) = z := by rw [hz, IntKind.wrap_i64]; omega
          obtain ⟨E, HEE⟩ : ∃ D, Hid (D = (scl b f).take k) := ⟨_, rfl⟩
          have hDl : E.length ≤ k := by rw [HEE.out, List.length_take]; omega
          rw [← HEE.out] at HO HD
          obtain ⟨a1, p5, hu⟩ := HO.out.shape
          subst hu
          have HOW : Hid (∀ q, OI (wr.drewN q) w.heap.size (.slice a1 E.length p5) E) := fun q => HO.out.move fun _ _ => rfl
          have HBW : Hid (∀ q, Below w.heap.size w (wr.drewN q)) := fun q => below_drewN HB.out q
          have hcw : Hid (∀ q, (wr.drewN q).cell? ⟨b1, o1 + k, none⟩ = some (.int .i64 y)) := fun q => hc
          clear hz
          go_wp2
          go_quiet (fail)
          obtain ⟨wq, HWQ⟩ : ∃ wq, Hid (wq = wr.drewN nq) := ⟨_, rfl⟩
          have hO2 := HOW.out nq
          have hB2 := HBW.out nq
          have hc2 := hcw.out nq
          rw [← HWQ.out] at hO2 hB2 hc2 ⊢
          have HO2 := hide hO2
          have HB2 := hide hB2
          have hBw := hB2.size
          have HALC : Hid (OI (wq.alloc (.cells #[.int .i64 z] 3)) w.heap.size (.slice a1 E.length p5) E) := HO2.out.alloc _
          have HSR : Hid (Src Try.prog 1 22 (.slice (some ⟨wq.heap.size, 0, none⟩) 1 1) ([z] : List Int).length (([z] : List Int).map (Value.int .i64)) (wq.alloc (.cells #[.int .i64 z] 3))) := built_srcI wq [z]
          clear hO2 hB2 hc
          go_wp2_with (at_builtin; refine wpList_appI rfl _ _ 22 rfl w.heap.size _ _ E [z] rfl HALC.out rfl HSR.out (by simp; omega) (by simp; omega) ?_)
          intro v3 w3 ho3 hgr3
          have HN : Hid (OI w3 w.heap.size v3 ((scl b f).take (k + 1)) ∧ Below w.heap.size w w3) := ⟨by rw [HD.out]; exact ho3, grow_one HB2.out HO2.out hgr3⟩
          clear ho3 hgr3
          go_wp2
          go_roundw
          case rel => exact ⟨k + 1, by omega, by go_num, HLE2, HN.out.1, HN.out.2⟩
          case measure => simp [intOf]; omega
      · obtain rfl : k = f.length := by omega
        have hlt' : ¬ (f.length : Int) < (f.length : Int) := by omega
        have HSC2 := hide (HSS.out HLE.out)
        have HUU : Hid ((us (scl b f)).length ≤ 2 ^ L) := by rw [HEU.out]; exact HU2.out
        have HGO : Hid (OI wr w.heap.size u7 (scl b f)) := by have := HO.out; rwa [List.take_of_length_le (by rw [HLN.out]; exact Nat.le_refl _)] at this
        obtain ⟨ag, pg, hug⟩ := HGO.out.shape
        rw [HLN.out] at hug
        subst hug
        have HGI : Hid (∀ W, Below wr.heap.size wr W → SI W (.slice ag f.length pg) (scl b f)) := fun W hW => HGO.out.sb.below hW
        have HFR := hide (HF.out.below HB.out)
        have rg : (scl b f).length ≤ 17592186043904 := by rw [HLN.out]; exact rf
        clear HO HLE
        go_wp2_with fail
        refine (copied_any _ f _ HFR.out rf).mono ?_
        rintro e w2 ⟨a2, c2, rfl, ho2, hb2⟩
        have HO2 := hide ho2
        have HB2 := hide hb2
        clear ho2 hb2
        go_wp2_with fail
        refine (depths_ok HS.out _ _ HO2.out.sb).mono ?_
        rintro e w3 ⟨a3, c3, rfl, ho3, hb3⟩
        have HO3 := hide ho3
        have HB3 := hide (HB2.out.trans (hb3.mono HB2.out.size))
        have HF3 := hide (HFR.out.below HB3.out)
        clear ho3 hb3
        go_wp2_with fail
        refine (copied_any _ f _ HF3.out rf).mono ?_
        rintro e w4 ⟨a4, c4, rfl, ho4, hb4⟩
        have HO4 := hide ho4
        have HB4 := hide (HB3.out.trans (hb4.mono HB3.out.size))
        have HO34 := hide (HO3.out.below hb4 (Nat.le_refl _))
        clear ho4 hb4
        go_wp2_with fail
        refine (limited_ok HS.out hL HU2.out _ _ HO4.out.sb HO4.out.blk).mono ?_
        rintro e w5 ⟨a5, c5, rfl, ho5, hb5⟩
        have HO5 := hide ho5
        have HB5 := hide (HB4.out.trans (hb5.mono HB4.out.size))
        have HO35 := hide (HO34.out.below hb5 (Nat.le_refl _))
        have HF5 := hide (HFR.out.below HB5.out)
        clear ho5 hb5
        go_wp2_with fail
        refine (good_gd _ _ f (dpt f) 60 _ HF5.out HO35.out.sb HS.out HG0.out (by omega)).mono ?_
        rintro e w6 ⟨rfl, hw6⟩
        rw [hw6]
        clear hw6
        go_wp2_with fail
        refine (good_gd _ _ f (lmt f L) L _ HF5.out HO5.out.sb HS.out HG.out hlim2).mono ?_
        rintro e w6 ⟨rfl, hw6⟩
        rw [hw6]
        clear hw6

        have HCM := hide (copied_any (.slice ag f.length pg) (scl b f) w5 (HGI.out _ HB5.out) rg)
        rw [HLN.out] at HCM
        go_wp2_with fail
        refine HCM.out.mono ?_
        rintro e w7 ⟨a7, c7, rfl, ho7, hb7⟩
        have HO7 := hide ho7
        have HB7 := hide (HB5.out.trans (hb7.mono HB5.out.size))
        have HO37 := hide (HO35.out.below hb7 (Nat.le_refl _))
        have HO57 := hide (HO5.out.below hb7 (Nat.le_refl _))
        have HDC := hide (depths_ok HSC2.out (.slice a7 f.length c7) w7 ho7.sb)
        rw [HLN.out, HED.out] at HDC
        clear ho7 hb7
        go_wp2_with fail
        refine HDC.out.mono ?_
        rintro e w8 ⟨a8, c8, rfl, ho8, hb8⟩
        have HO8 := hide ho8
        have HB8 := hide (HB7.out.trans (hb8.mono HB7.out.size))
        have HO38 := hide (HO37.out.below hb8 (Nat.le_refl _))
        have HO58 := hide (HO57.out.below hb8 (Nat.le_refl _))
        have HCM2 := hide (copied_any (.slice ag f.length pg) (scl b f) w8 (HGI.out _ HB8.out) rg)
        rw [HLN.out] at HCM2
        clear ho8 hb8
        go_wp2_with fail
        refine HCM2.out.mono ?_
        rintro e w9 ⟨a9, c9, rfl, ho9, hb9⟩
        have HO9 := hide ho9
        have HB9 := hide (HB8.out.trans (hb9.mono HB8.out.size))
        have HO39 := hide (HO38.out.below hb9 (Nat.le_refl _))
        have HO59 := hide (HO58.out.below hb9 (Nat.le_refl _))
        have HO89 := hide (HO8.out.below hb9 (Nat.le_refl _))
        have HLC := hide (limited_ok HSC2.out hL HUU.out (.slice a9 f.length c9) w9 ho9.sb ho9.blk)
        rw [HLN.out, HEL.out] at HLC
        clear ho9 hb9
        go_wp2_with fail
        refine HLC.out.mono ?_
        rintro e w10 ⟨a10, c10, rfl, ho10, hb10⟩
        have HO10 := hide ho10
        have HB10 := hide (HB9.out.trans (hb10.mono HB9.out.size))
        have HO3a := hide (HO39.out.below hb10 (Nat.le_refl _))
        have HO5a := hide (HO59.out.below hb10 (Nat.le_refl _))
        have HO8a := hide (HO89.out.below hb10 (Nat.le_refl _))
        have HBF := hide (HB.out.trans (HB10.out.mono HB.out.size))
        clear ho10 hb10
        have HSM1 := hide (isame_any (.slice a8 f.length c8) (.slice a3 f.length c3) (dpt f) (dpt f) w10 HO8a.out.sb HO3a.out.sb)
        have HSM2 : Hid (∀ q, Calls Try.prog 15 #[.slice a10 f.length c10, .slice a5 f.length c5] (w10.drewN q) fun e w' => e = .returned (.bool (eqI (lmt f L) (lmt f L))) ∧ ∃ n, w' = (w10.drewN q).drewN n) := fun q =>
          isame_any _ _ (lmt f L) (lmt f L) (w10.drewN q) (HO10.out.sb.below (below_drewN (Below.refl _ _) q)) (HO5a.out.sb.below (below_drewN (Below.refl _ _) q))
        have q1 : eqI (dpt f) (dpt f) = true := by simp [eqI]
        have q2 : eqI (lmt f L) (lmt f L) = true := by simp [eqI]
        rw [q1] at HSM1
        rw [q2] at HSM2
        clear q1 q2
        go_wp2_with fail
        refine HSM1.out.mono ?_
        rintro e w11 ⟨rfl, q11, rfl⟩
        go_wp2_with fail
        refine (HSM2.out q11).mono ?_
        rintro e w12 ⟨rfl, q12, rfl⟩
        go_wp2
        go_ret
        exact ⟨rfl, below_drewN HBF.out _⟩
end Go.Proofs.Ytgengoffkoonfab

