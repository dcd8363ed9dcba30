import Derived.Test.YteiajeeincapoacLayP
import Derived.Deep.AppendLies
import Derived.Deep.DeepCutAuto
namespace Go.Proofs.Yteiajeeincapoac
open Go.RowKit Go.Maps

set_option maxHeartbeats 4000000 in
theorem lay_any {w : World} {K : Nat → Nat} {g : Nat} {st : St} {vd : Value} {at' z : Nat} {d : List Int} (h : Rep w K g st) (hc : st.cap ≤ 16777216) (hn : st.now.length ≤ st.cap) (hz : st.sizes.length ≤ 10000000000000 - 1) (hents : st.ents ≤ 1000000000000000000) (hpl : ∀ s, (st.pcs s).length ≤ 3000000000000)
    (hsb : SB w vd d) (hk6 : Role K vd 6) (he : at' + z + d.length ≤ st.cap) :
    Calls Try.prog 46 #[.pointer (some ⟨g, 0, none⟩), .agg #[.int .i64 at', .int .i64 z, vd]] w fun e w' => e = .returned (.tuple #[]) ∧ ∃ K', Rep w' K' g (laySt (putSt st (at', z, d)) (at', z, d) (endP (at', z, d))) ∧ Fr K K' w w' := by
  have HR := hide h
  have HSB := hide hsb
  obtain ⟨ad, cd, hv, _⟩ := hsb
  subst hv
  obtain ⟨W0, hW0⟩ : ∃ W0, W0 = w.alloc (.cells #[.int .i64 at', .int .i64 z, .slice ad d.length cd] 73) := ⟨_, rfl⟩
  have hb0 : Below w.heap.size w W0 := by rw [hW0]; exact (Below.refl _ _).alloc (Nat.le_refl _) _
  have hs0 : W0.heap.size = w.heap.size + 1 := by rw [hW0]; exact size_alloc' _ _
  have hbx0 : W0.heap[w.heap.size]? = some (.cells #[.int .i64 at', .int .i64 z, .slice ad d.length cd] 73 (0, 0)) := by rw [hW0]; exact heap_alloc_new _ _
  have hR0 := HR.out.below hb0
  have HR0 := hide hR0
  obtain ⟨vn, vdd, m, vs, D, hV⟩ := hR0
  obtain ⟨_, q1, _⟩ := hV.dc.at
  obtain ⟨an, cn, hvn⟩ := hV.hn.shape
  have hcn : st.now.length ≤ cn ∧ cn ≤ 9223372036854775807 := by
    obtain ⟨a, c, e, h1, h2, _⟩ := hV.hn.sb
    rw [hvn] at e
    simp only [Value.slice.injEq] at e
    obtain ⟨-, -, rfl⟩ := e
    unfold maxLen at h2
    exact ⟨h1, h2⟩
  obtain ⟨hcn1, hcn2⟩ := hcn
  subst hvn
  have b0 : W0.cell? ⟨w.heap.size, 0, none⟩ = some (.int .i64 at') := by simp [World.cell?, hbx0]
  have b1 : W0.cell? ⟨w.heap.size, 1, none⟩ = some (.int .i64 z) := by simp [World.cell?, hbx0]
  have b2 : W0.cell? ⟨w.heap.size, 2, none⟩ = some (.slice ad d.length cd) := by simp [World.cell?, hbx0]
  have HSB0 := hide (HSB.out.below hb0)
  have HW0 := hide hW0
  have HS0 := hide hs0
  have HB0 := hide hb0
  have HBX := hide hbx0
  have HV := hide hV
  clear hV hbx0 hb0 hs0 hW0
  have HSBd : Hid (SB W0.drew (.slice ad d.length cd) d) := HSB0.out
  go_enter Try.func46, Try.ntmps46
  go_wp2
  rw [← HW0.out]
  go_region_held3 (fun w' => w'.cell? ⟨g, 1, none⟩ = some (.slice an st.now.length cn) ∧ w'.cell? ⟨w.heap.size, 0, none⟩ = some (.int .i64 at') ∧ w'.cell? ⟨w.heap.size, 1, none⟩ = some (.int .i64 z) ∧ w'.cell? ⟨w.heap.size, 2, none⟩ = some (.slice ad d.length cd)) (go_keep)
    (first
      | (go_at_call 55; refine (end_any HSBd.out (by exact Nat.le_trans he hc)).mono ?_; rintro e w1 ⟨rfl, hb1⟩; have n0 := keep1 hb1 q1; have n1 := keep1 hb1 b0; have n2 := keep1 hb1 b1; have n3 := keep1 hb1 b2))
  have hR1 := hide (HR0.out.below ((Below.refl W0.heap.size W0).drew.trans hb1))
  have hF1 : Hid (Fr K K W0 w1) := Fr.of_below ((Below.refl W0.heap.size W0).drew.trans hb1)
  have HSB1 := hide ((HSB0.out.below ((Below.refl W0.heap.size W0).drew)).below hb1)
  clear n0 q1
  go_upto_if 14 with (fail)
  go_cut [] (fun wc => ∃ K1, Hid (Rep wc K1 g (growSt st (at' + z + d.length))) ∧ Hid (Fr K K1 W0 wc))
  case first =>
    by_cases hgt : st.now.length < at' + z + d.length
    · have hgt' : (st.now.length : Int) < (at' : Int) + (z : Int) + (d.length : Int) := by omega
      have HE : Hid (growSt st (at' + z + d.length) = { st with now := resz st.now (at' + z + d.length), sizes := st.sizes ++ [at' + z + d.length] }) := by show _ = _; unfold growSt; rw [if_pos hgt]
      clear hgt
      go_wp2_with fail
      refine (end_any HSB1.out (Nat.le_trans he hc)).mono ?_
      rintro e w2 ⟨rfl, hb2⟩
      have hR2 := hide (hR1.out.below hb2)
      have hF2 : Hid (Fr K K W0 w2) := hF1.out.trans (Fr.of_below hb2)
      clear n1 n2 n3
      go_wp2_with fail
      refine (resize_any (at' + z + d.length) hR2.out (by omega) (by omega) (by omega)).mono ?_
      rintro e w3 ⟨rfl, K3, hR3, hF3⟩
      have HR3 := hide hR3
      have HF3 := hide (hF2.out.trans hF3)
      clear hR3 hF3
      go_wp2_with fail
      go_meet
      case rel => exact ⟨K3, by rw [HE.out]; exact HR3, HF3⟩
    · have hgt' : ¬ (st.now.length : Int) < (at' : Int) + (z : Int) + (d.length : Int) := by omega
      have HE : Hid (growSt st (at' + z + d.length) = st) := by show _ = _; unfold growSt; rw [if_neg hgt]
      clear hgt
      go_wp2_with fail
      go_meet
      case rel => exact ⟨K, by rw [HE.out]; exact hR1, hF1⟩
  case rest =>
    clear n1 n2 n3 hR1 hF1 HSB1 hb1
    obtain ⟨K1, HR1, HF1⟩ := hcut
    obtain ⟨st1, hst1⟩ : ∃ st1, growSt st (at' + z + d.length) = st1 := ⟨_, rfl⟩
    rw [hst1] at HR1
    have hn1 : st1.now.length ≤ 16777216 := by rw [← hst1]; exact growSt_now st _ hc hn he
    have HST := hide hst1
    clear hst1
    have hV1 := HR1.out
    obtain ⟨vn1, vd1, m1, vs1, D1, hV1⟩ := hV1
    obtain ⟨a1, c1, hvn1⟩ := hV1.hn.shape
    subst hvn1
    have K0 : K w.heap.size = 0 := by
      obtain ⟨_, _, _, _, _, hv⟩ := HR.out
      by_cases hk : K w.heap.size = 0
      · exact hk
      · have := hv.sup _ hk; omega
    have hbxc : wc.heap[w.heap.size]? = some (.cells #[.int .i64 at', .int .i64 z, .slice ad d.length cd] 73 (0, 0)) := (HF1.out.block w.heap.size (by rw [HS0.out]; omega) (.inl K0)).trans HBX.out
    have KL : ∀ k, (Value.slice ad d.length cd).ownBlock = some k → k < w.heap.size := by
      intro k hk
      obtain ⟨_, _, _, _, _, hv⟩ := HR.out
      exact hv.sup k (by rw [hk6 k hk]; omega)
    have hsbc : SB wc (.slice ad d.length cd) d := HSB0.out.same fun k hk => HF1.out.block k (by rw [HS0.out]; have := KL k hk; omega) (.inr (hk6 k hk))
    obtain ⟨_, p1, _⟩ := hV1.dc.at
    have d0 : wc.cell? ⟨w.heap.size, 0, none⟩ = some (.int .i64 at') := by simp [World.cell?, hbxc]
    have d1 : wc.cell? ⟨w.heap.size, 1, none⟩ = some (.int .i64 z) := by simp [World.cell?, hbxc]
    have d2 : wc.cell? ⟨w.heap.size, 2, none⟩ = some (.slice ad d.length cd) := by simp [World.cell?, hbxc]
    have HV1 := hide hV1
    have HBXc := hide hbxc
    have HSBc : Hid (SB wc.drew (.slice ad d.length cd) d) := hsbc
    have HNc : Hid (OB wc.drew 0 (.slice a1 st1.now.length c1) st1.now) := hV1.hn
    have HK0 := hide K0
    have HKL := hide KL
    have hNE : Hid (∀ k, (Value.slice a1 st1.now.length c1).ownBlock = some k → (Value.slice ad d.length cd).ownBlock ≠ some k) := fun k hk1 hk2 => by
      have e1 := hV1.kn k hk1
      have e2 := hk6 k hk2
      have e3 := HF1.out.role k (by rw [HS0.out]; have := KL k hk2; omega)
      omega
    have HKP : Hid (∀ w', wc.drew.grownBy w' (Value.slice a1 st1.now.length c1).ownBlock → w'.cell? ⟨g, 1, none⟩ = some (.slice a1 st1.now.length c1) ∧ w'.cell? ⟨w.heap.size, 0, none⟩ = some (.int .i64 at') ∧ w'.cell? ⟨w.heap.size, 1, none⟩ = some (.int .i64 z) ∧ w'.cell? ⟨w.heap.size, 2, none⟩ = some (.slice ad d.length cd)) := by
      intro w' hg
      have n1 : some g ≠ (Value.slice a1 st1.now.length c1).ownBlock := fun e => by have := hV1.kn g e.symm; rw [hV1.kg] at this; omega
      have n2 : some w.heap.size ≠ (Value.slice a1 st1.now.length c1).ownBlock := fun e => by
        have := hV1.kn _ e.symm
        rw [HF1.out.role _ (by rw [HS0.out]; omega), K0] at this
        omega
      have l1 : g < wc.drew.heap.size := hV1.dc.lt
      have l2 : w.heap.size < wc.drew.heap.size := (Array.getElem?_eq_some_iff.1 hbxc).1
      exact ⟨(hg.cell_far ⟨g, 1, none⟩ l1 n1).trans p1, (hg.cell_far ⟨w.heap.size, 0, none⟩ l2 n2).trans d0, (hg.cell_far ⟨w.heap.size, 1, none⟩ l2 n2).trans d1, (hg.cell_far ⟨w.heap.size, 2, none⟩ l2 n2).trans d2⟩
    clear hV1 hbxc hsbc K0 KL
    go_wp2_with fail
    go_region_held3 (fun w' => w'.cell? ⟨g, 1, none⟩ = some (.slice a1 st1.now.length c1) ∧ w'.cell? ⟨w.heap.size, 0, none⟩ = some (.int .i64 at') ∧ w'.cell? ⟨w.heap.size, 1, none⟩ = some (.int .i64 z) ∧ w'.cell? ⟨w.heap.size, 2, none⟩ = some (.slice ad d.length cd)) (go_keep)
      (first
        | (go_at_call 53; refine (paint_any HNc.out (by exact hn1) (by exact Nat.le_trans (Nat.le_trans (Nat.le_add_right _ _) he) hc) HSBc.out (by exact hNE.out)).mono ?_; rintro e w2 ⟨rfl, hob2, hgr2⟩; obtain ⟨n0, n1, n2, n3⟩ := HKP.out w2 hgr2))
    have hgr3 : wc.grownBy w2 (Value.slice a1 st1.now.length c1).ownBlock := ⟨hgr2.os, hgr2.tape, hgr2.output, hgr2.size, hgr2.block⟩
    obtain ⟨hR2, hF2⟩ := Rep.paintNow HV1.out hob2 hgr3
    have HR2 := hide (show Rep w2 K1 g { st1 with now := paintL st1.now (at', z, d) } from ⟨_, _, _, _, _, hR2⟩)
    have HF2 := hide (HF1.out.trans hF2)
    clear hgr2 hgr3 hob2 hR2 hF2 n0 p1 d0 d1 d2 n2 n3
    obtain ⟨st2, hst2⟩ : ∃ st2, { st1 with now := paintL st1.now (at', z, d) } = st2 := ⟨_, rfl⟩
    rw [hst2] at HR2
    have hpl2 : ∀ s, (st2.pcs s).length ≤ 3000000000000 := by rw [← hst2, ← HST.out]; intro s; show ((growSt st _).pcs s).length ≤ _; unfold growSt; split <;> exact hpl s
    have hen2 : st2.ents ≤ 1000000000000000000 := by rw [← hst2, ← HST.out]; show (growSt st _).ents ≤ _; unfold growSt; split <;> exact hents
    have HPL := hide hpl2
    have HST2 := hide hst2
    clear hst2 hpl hpl2 hents
    obtain ⟨i0, hi, hz0, hz1, hz2⟩ := info_parts infoStretch
    have hstart : Hid (Rep w2 K1 g (laySt st2 (at', z, d) at')) := by
      have e : laySt st2 (at', z, d) at' = st2 := by
        unfold laySt rnds
        simp only [if_true, Nat.add_zero]
        have : pcsTo st2.pcs (at', z, d) at' = st2.pcs := by funext s; unfold pcsTo; rw [if_neg (by simp)]
        rw [this]
      rw [e]; exact HR2
    go_wp2_with fail
    go_loopw [4] (fun i wr => ∃ (a : Nat) (K' : Nat → Nat), i = .int .i64 a ∧ at' ≤ a ∧ a ≤ at' + z + d.length ∧ (a = at' ∨ a % 512 = 0 ∨ a = at' + z + d.length) ∧ Hid (Rep wr K' g (laySt st2 (at', z, d) a)) ∧ Hid (Fr K K' W0 wr)) (fun i _ => at' + z + d.length - (intOf i).toNat)
    case atStart => exact ⟨at', K1, rfl, Nat.le_refl _, by omega, .inl rfl, hstart, HF2⟩
    case round =>
      obtain ⟨a, K', rfl, ha1, ha2, ha3, HRa, HFa⟩ := hrel
      have HA3 := hide ha3
      clear hstart ha3 n1 HR2 HF2 HV1 HNc hNE HKP HSBc HBXc
      have hbxr : wr.heap[w.heap.size]? = some (.cells #[.int .i64 at', .int .i64 z, .slice ad d.length cd] 73 (0, 0)) := (HFa.out.block w.heap.size (by rw [HS0.out]; omega) (.inl HK0.out)).trans HBX.out
      have hsbr : SB wr (.slice ad d.length cd) d := HSB0.out.same fun k hk => HFa.out.block k (by rw [HS0.out]; have := HKL.out k hk; omega) (.inr (hk6 k hk))
      have d0 : wr.cell? ⟨w.heap.size, 0, none⟩ = some (.int .i64 at') := by simp [World.cell?, hbxr]
      have d1 : wr.cell? ⟨w.heap.size, 1, none⟩ = some (.int .i64 z) := by simp [World.cell?, hbxr]
      have d2 : wr.cell? ⟨w.heap.size, 2, none⟩ = some (.slice ad d.length cd) := by simp [World.cell?, hbxr]
      have HSBr := hide hsbr
      clear hbxr hsbr
      by_cases hlt : a < at' + z + d.length
      · have hlt' : (a : Int) < (at' : Int) + (z : Int) + (d.length : Int) := by omega
        have HQ : Hid ((a : Int) / 512 = ((a / 512 : Nat) : Int)) := by show _ = _; omega
        go_wp2_with fail
        refine (end_any HSBr.out (Nat.le_trans he hc)).mono ?_
        rintro e w3 ⟨rfl, hb3⟩
        have f0 := keep1 hb3 d0
        have f1 := keep1 hb3 d1
        have f2 := keep1 hb3 d2
        have HSB3 := hide (HSBr.out.below hb3)
        clear d0 d1 d2
        obtain ⟨nx, hnx⟩ : ∃ nx, min ((a / 512 + 1) * 512) (at' + z + d.length) = nx := ⟨_, rfl⟩
        have hnx1 : a < nx := by omega
        have hnx2 : nx ≤ at' + z + d.length := by omega
        have HNX := hide hnx
        clear hnx
        go_upto_region 7 with (fail)
        go_cut [6] (fun s6 wd => s6 = .int .i64 nx ∧ Hid (Below w3.heap.size w3 wd))
        case first =>
          by_cases hmin : (a / 512 + 1) * 512 ≤ at' + z + d.length
          · have hm1 : ((a : Int) / 512 + 1) * 512 ≤ (at' : Int) + (z : Int) + (d.length : Int) := by omega
            have HM2 : Hid (((a : Int) / 512 + 1) * 512 = (nx : Int)) := by have := HNX.out; show _ = _; omega
            clear hmin
            go_wp2_with fail
            refine (end_any HSB3.out (Nat.le_trans he hc)).mono ?_
            rintro e w4 ⟨rfl, hb4⟩
            clear f0 f1 f2
            go_wp2_with fail
            go_meet
            case rel => exact ⟨by rw [HM2.out], hb4⟩
          · have hm1 : ¬ ((a : Int) / 512 + 1) * 512 ≤ (at' : Int) + (z : Int) + (d.length : Int) := by omega
            have HM2 : Hid ((at' : Int) + (z : Int) + (d.length : Int) = (nx : Int)) := by have := HNX.out; show _ = _; omega
            clear hmin
            go_wp2_with fail
            refine (end_any HSB3.out (Nat.le_trans he hc)).mono ?_
            rintro e w4 ⟨rfl, hb4⟩
            clear f0 f1 f2
            go_wp2_with fail
            go_meet
            case rel => exact ⟨by rw [HM2.out], hb4⟩
        case rest =>
        obtain ⟨rfl, HB4⟩ := hcut
        obtain ⟨w4, hw4⟩ : ∃ w4 : World, w4 = wc := ⟨_, rfl⟩
        have hb4 : Below w3.heap.size w3 w4 := by rw [hw4]; exact HB4.out
        rw [← hw4]
        clear HB4 hw4
        have g0 := keep1 hb4 f0
        have g1 := keep1 hb4 f1
        have g2 := keep1 hb4 f2
        clear f0 f1 f2
        have HRA := hide ((HRa.out.below hb3).below hb4)
        have HFA := hide (HFa.out.trans ((Fr.of_below hb3).trans (Fr.of_below (K := K') hb4)))
        have HSB4 : Hid (SB w4.drew (.slice ad d.length cd) d) := show SB w4 _ _ from HSB3.out.below hb4
        clear hb3 hb4 HSB3 HSBr HRa HFa
        have hV4 := HRA.out
        obtain ⟨vn4, vd4, m4, vs4, D4, hV4⟩ := hV4
        obtain ⟨_, _, _, g3, _⟩ := hV4.dc.at
        obtain ⟨n4, hn4, hm4⟩ := hV4.hm
        obtain ⟨vr, hvr, hrole, cs0, hpok, hprow⟩ := hV4.rows (a / 512)
        have hcur : (laySt st2 (at', z, d) a).pcs (a / 512) = st2.pcs (a / 512) := pcsTo_cur (p := (at', z, d)) HA3.out hlt
        obtain ⟨nr, hnr⟩ : ∃ nr, ((laySt st2 (at', z, d) a).pcs (a / 512)).length = nr := ⟨_, rfl⟩
        have hnr2 : nr ≤ 3000000000000 := by rw [← hnr, hcur]; exact HPL.out _
        obtain ⟨ar, cr, hvs⟩ : ∃ ar cr, vr = .slice ar nr cr := by
          rcases hprow.2 with ⟨e1, e2⟩ | ⟨b, c, cur, e1, _⟩
          · exact ⟨none, 0, by rw [e1, ← hnr, e2]⟩
          · exact ⟨_, _, by rw [e1, hnr]⟩
        subst hvs
        rw [hnr] at hprow
        have hsc40 : a / 512 ≤ 40000 := by omega
        obtain ⟨sc, hsc⟩ : ∃ sc, a / 512 = sc := ⟨_, rfl⟩
        rw [hsc] at hvr hrole hpok hsc40 hnr
        have HSC := hide hsc
        have HSI : Hid ((a : Int) / 512 = (sc : Int)) := by show _ = _; omega
        clear hsc
        have HPK := hide hpok
        have HRO := hide hrole
        have HRW := hide hprow
        have HNR := hide hnr
        have HV4 := hide hV4
        have HN4 := hide hn4
        have HM4 := hide hm4
        have hml : m4 < w4.heap.size := hV4.sup m4 (by rw [hV4.km]; omega)
        have hgl : g < w4.heap.size := hV4.dc.lt
        have hbl : w.heap.size < w4.heap.size := World.block_lt_of_cell? _ _ g0
        have hK'0 : K' w.heap.size = 0 := by rw [HFA.out.role _ (by rw [HS0.out]; omega)]; exact HK0.out
        have HK6 : Hid (Role K' (.slice ad d.length cd) 6) := fun k hk => by
          rw [HFA.out.role k (by rw [HS0.out]; have := HKL.out k hk; omega)]
          exact hk6 k hk
        have HLK : Hid (∀ W : World, W.heap[m4]? = w4.heap[m4]? → (Instr.lookup 59 (.map (some m4)) (.int .i64 sc) false).run Try.prog W = .ok (.slice ar nr cr) W) := fun W hW => lookup_row (ownsMap_same hm4 hW) (by omega) hvr
        have HFAR : Hid (∀ (W V : World) (row : Option Nat), Below w4.heap.size w4 W → W.grownBy V row → (row = (Value.slice ar nr cr).ownBlock ∨ row = some m4) → V.cell? ⟨g, 3, none⟩ = some (.map (some m4)) ∧ V.cell? ⟨w.heap.size, 0, none⟩ = some (.int .i64 at') ∧ V.cell? ⟨w.heap.size, 1, none⟩ = some (.int .i64 z) ∧ V.cell? ⟨w.heap.size, 2, none⟩ = some (.slice ad d.length cd)) := by
          intro W V row hW hV hrow
          have hs := hW.size
          have n1 : some g ≠ row := fun e => by
            rcases hrow with e2 | e2
            · have := hrole g (by rw [← e2, ← e]); rw [hV4.kg] at this; omega
            · rw [e2] at e; have := hV4.km; rw [← Option.some.inj e, hV4.kg] at this; omega
          have n2 : some w.heap.size ≠ row := fun e => by
            rcases hrow with e2 | e2
            · have := hrole _ (by rw [← e2, ← e]); rw [hK'0] at this; omega
            · rw [e2] at e; have := hV4.km; rw [← Option.some.inj e, hK'0] at this; omega
          exact ⟨(hV.cell_far ⟨g, 3, none⟩ (by simp only []; omega) n1).trans (keep1 hW g3), (hV.cell_far ⟨w.heap.size, 0, none⟩ (by simp only []; omega) n2).trans (keep1 hW g0), (hV.cell_far ⟨w.heap.size, 1, none⟩ (by simp only []; omega) n2).trans (keep1 hW g1), (hV.cell_far ⟨w.heap.size, 2, none⟩ (by simp only []; omega) n2).trans (keep1 hW g2)⟩
        have HGM : Hid (g ≠ m4) := fun e => by have := hV4.km; rw [← e, hV4.kg] at this; omega
        have HBM : Hid (w.heap.size ≠ m4) := fun e => by have := hV4.km; rw [← e, hK'0] at this; omega
        have hmr : some m4 ≠ (Value.slice ar nr cr).ownBlock := fun e => by have := hrole m4 e.symm; rw [hV4.km] at this; omega
        have hne4 : n4 < maxLen := by
          unfold maxLen
          have h1 := hn4
          have h2 : (laySt st2 (at', z, d) a).ents ≤ st2.ents + 40000 := by show st2.ents + rnds at' a ≤ _; unfold rnds; split <;> omega
          omega
        have HUPD : Hid (∀ (W V : World) (gg cap : Nat), Below w4.heap.size w4 W → W.grownBy V (Value.slice ar nr cr).ownBlock → ∃ w7, (Instr.mapUpdate 59 (.map (some m4)) (.int .i64 sc) (.slice (some ⟨gg, 0, none⟩) (nr + 1) cap)).run Try.prog V = .ok () w7 ∧ w7.ownsMap Try.prog 3 tokR m4 (n4 + 1) (D4.put (.int .i64 sc) (.agg [.lit (.int .i64 gg), .lit (.int .i64 (nr + 1 : Nat)), .lit (.int .i64 cap)])) ∧ V.grownBy w7 (some m4)) := by
          intro W V gg cap hW hV
          have hs := hW.size
          have hb : V.heap[m4]? = w4.heap[m4]? := (hV.block m4 (by omega) hmr).trans (hW.block m4 hml)
          exact (ownsMap_same hm4 hb).update lawK Try.underlying59 hne4 (keyOf_int_mk Try.underlying3 (wf_nat (by omega))) rfl
        have HROW : Hid (∀ W : World, Below w4.heap.size w4 W → W.ownsRow 0 73 3 (.slice ar nr cr) nr cs0) := fun W hW => ownsRow_same hprow fun k hk => hW.block k (hV4.sup k (by rw [hrole k hk]; omega))
        have hlk0 := HLK.out w4.drew rfl
        have HMR := hide hmr
        clear hV4 hpok hrole hprow hm4 hn4 hvr hmr hcur hnr hne4 hK'0
        go_wp2_with fail
        rw [HSI.out]
        go_region_held3 (fun w' => w'.cell? ⟨g, 3, none⟩ = some (.map (some m4)) ∧ w'.cell? ⟨w.heap.size, 0, none⟩ = some (.int .i64 at') ∧ w'.cell? ⟨w.heap.size, 1, none⟩ = some (.int .i64 z) ∧ w'.cell? ⟨w.heap.size, 2, none⟩ = some (.slice ad d.length cd)) (go_keep)
          (first
            | (go_at_call 56; refine (part_any' HSB4.out (by exact Nat.le_trans he hc) (by exact ha1) (by exact hnx1) (by exact hnx2)).mono ?_; rintro e w5 ⟨ap, np, cp, rfl, hsp, hop, hb5⟩; have k0 := keep1 hb5 g3; have k1 := keep1 hb5 g0; have k2 := keep1 hb5 g1; have k3 := keep1 hb5 g2; have hlk5 := HLK.out w5 (hb5.block m4 hml); have hlk6 := fun o => HLK.out (w5.alloc o) ((Below.heap_alloc w5 o m4 (Nat.lt_of_lt_of_le hml hb5.size)).trans (hb5.block m4 hml)); have hb6 : Below w4.heap.size w4 w5 := (Below.refl w4.heap.size w4).drew.trans hb5; have hb7 := fun o => hb6.alloc hb6.size o)
            | (refine step_append_lies _ (by rfl) _ _ _ (by rfl) 0 73 i0 _ 3 40 Try.underlying75 hi hz0 hz1 hz2 rfl (by omega) (.slice ar nr cr) nr cs0 (by rfl) (HROW.out _ (hb7 _)) ⟨w5.heap.size, 0, none⟩ 1 1 [.int .i64 (partP (at', z, d) a nx).1, .int .i64 (partP (at', z, d) a nx).2.1, .slice ap np cp] (by rfl) (by rfl) (World.news_of_block (cs := #[.int .i64 (partP (at', z, d) a nx).1, .int .i64 (partP (at', z, d) a nx).2.1, .slice ap np cp]) (t := 73) (fr := (0, 0)) (heap_alloc_new w5 _)) (by simp [Value.oneCell']) (by omega) (by unfold maxLen; omega) (by omega) (Nat.zero_le _) (w5.heap.size + 1) (by simp) ?_; intro gg cap6 w6 hown6 hgrow6 hat6 hlt6; obtain ⟨t0, t1, t2, t3⟩ := HFAR.out _ w6 _ (hb7 _) hgrow6 (Or.inl rfl); obtain ⟨w7, hrun7, hmap7, hgr7⟩ := HUPD.out _ w6 gg cap6 (hb7 _) hgrow6; have v0 := hgr7.cell t0 (fun e => HGM.out (Option.some.inj e)); have v1 := hgr7.cell t1 (fun e => HBM.out (Option.some.inj e)); have v2 := hgr7.cell t2 (fun e => HBM.out (Option.some.inj e)); have v3 := hgr7.cell t3 (fun e => HBM.out (Option.some.inj e)); have FIN := hide (lay_fin HV4.out HFA.out ha1 HA3.out hlt HSC.out HNX.out hsc40 HRO.out HPK.out HNR.out hb6 hsp hop HK6.out hown6 hgrow6 hat6 hlt6 HN4.out hmap7 hgr7); clear hown6 hgrow6 hat6 hlt6 hmap7))
        all_goals
          obtain ⟨K7, HR7, HF7⟩ := FIN.out
          clear FIN HLK HFAR HUPD HROW hlk0 hlk5 hlk6 hrun7 hgr7 v0 v1 v2 v3 t0 t1 t2 t3 k0 k1 k2 k3 hsp hop hb5 hb6 hb7 g0 g1 g2 g3
          go_wp2
          go_roundw
          case rel => exact ⟨nx, K7, rfl, by omega, hnx2, by have := HNX.out; omega, HR7, HF7⟩
          case measure => simp [intOf]; omega
      · have hlt' : ¬ (a : Int) < (at' : Int) + (z : Int) + (d.length : Int) := by omega
        have hae : a = at' + z + d.length := by omega
        have HFin : Hid (∀ w', Below wr.heap.size wr w' → ∃ K', Rep w' K' g (laySt (putSt st (at', z, d)) (at', z, d) (endP (at', z, d))) ∧ Fr K K' w w') := by
          intro w' hb
          have e : putSt st (at', z, d) = st2 := by rw [← HST2.out, ← HST.out]; rfl
          rw [e]
          have h1 := HRa.out
          rw [hae] at h1
          exact ⟨K', h1.below hb, (Fr.of_below HB0.out).trans (HFa.out.trans (Fr.of_below hb))⟩
        clear hae
        go_wp2_with fail
        refine (end_any HSBr.out (Nat.le_trans he hc)).mono ?_
        rintro e w3 ⟨rfl, hb3⟩
        have HG := hide (HFin.out w3 hb3)
        clear hb3 d0 d1 d2
        go_wp2_with fail
        go_end0
        exact ⟨rfl, HG.out⟩
end Go.Proofs.Yteiajeeincapoac
