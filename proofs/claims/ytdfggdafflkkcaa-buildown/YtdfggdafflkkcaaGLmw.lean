import Derived.Test.YtdfggdafflkkcaaGLmq
import Derived.Test.YtdfggdafflkkcaaGPk
namespace Go.Proofs.Ytdfggdafflkkcaa
open Go.RowKit Go.Maps
set_option maxRecDepth 20000
set_option linter.unusedVariables false

theorem w64in' {x : Int} (h : -9223372036854775808 ≤ x ∧ x ≤ 9223372036854775807) : wrap64 x = x := by unfold wrap64; omega

theorem pow15 {L p : Nat} (hL : L ≤ 15) (hp : p = 2 ^ L) : p ≤ 32768 ∧ wrap64 ((2 : Int) ^ L) = (p : Int) ∧ wrap64 ((2 : Int) ^ min L 64) = (p : Int) ∧ ((2 : Int) ^ L) = (p : Int) := by
  have h1 : p ≤ 32768 := by rw [hp]; exact Nat.pow_le_pow_right (n := 2) (by decide) hL
  have e : ((2 : Int) ^ L) = (p : Int) := by rw [hp]; simp
  refine ⟨h1, ?_, ?_, e⟩
  · rw [e]; exact w64in' (by omega)
  · rw [show min L 64 = L from Nat.min_eq_left (by omega), e]; exact w64in' (by omega)

theorem lws_ci {l : List Int} (h : ∀ i, 0 ≤ l.getD i 0) : ((srl l).map fun s => l.getD s 0) = ci (lws l) := by
  unfold lws ci
  rw [List.map_map]
  refine List.map_congr_left fun s _ => ?_
  have := h s
  simp only [Function.comp_apply, fq]
  omega

set_option maxHeartbeats 4000000 in
theorem limited_any (v : Value) (l : List Int) (lim : Int) (w : World) (h : SI w v l) (hne : ∀ k, v.ownBlock = some k → k < w.heap.size) (hlim : -9223372036854775808 ≤ lim ∧ lim ≤ 9223372036854775807) :
    Calls Try.prog 8 #[v, .int .i64 lim] w fun e w' => ∃ a c, e = .returned (.tuple #[.slice a (lmL l lim).length c, .int .i64 (lmE l lim)]) ∧ OI w' w.heap.size (.slice a (lmL l lim).length c) (lmL l lim) ∧ Below w.heap.size w w' := by
  have HS := hide h
  obtain ⟨ao, cap, rfl, hlc, hcm⟩ := h.open
  have HNE := hide hne
  clear h hne
  by_cases h1 : 288 < l.length ∨ lim < 1 ∨ 15 < lim
  · have HE : Hid (lmE l lim = 1) := if_pos h1
    have HV : Hid (lmL l lim = []) := if_neg (by rw [HE.out]; decide)
    rw [HE.out, HV.out]
    by_cases q1 : 288 < l.length
    · have q1' : (288 : Int) < (l.length : Int) := by omega
      clear h1
      go_enter Try.func8, Try.ntmps8
      go_wp2
      go_ret2
      exact ⟨none, 0, rfl, World.ownsRow_nil _ _ _ _, Below.refl _ _⟩
    · have q1' : ¬ (288 : Int) < (l.length : Int) := by omega
      by_cases q2 : lim < 1
      · clear h1
        go_enter Try.func8, Try.ntmps8
        go_wp2
        go_ret2
        exact ⟨none, 0, rfl, World.ownsRow_nil _ _ _ _, Below.refl _ _⟩
      · have q3 : 15 < lim := by omega
        clear h1
        go_enter Try.func8, Try.ntmps8
        go_wp2
        go_ret2
        exact ⟨none, 0, rfl, World.ownsRow_nil _ _ _ _, Below.refl _ _⟩
  have q1 : ¬ (288 : Int) < (l.length : Int) := by omega
  obtain ⟨L, rfl⟩ : ∃ L : Nat, lim = L := ⟨lim.toNat, by omega⟩
  have q2 : ¬ (L : Int) < 1 := by omega
  have q3 : ¬ 15 < (L : Int) := by omega
  have hL1 : 1 ≤ L ∧ L ≤ 15 := by omega
  have hl288 : l.length ≤ 288 := by omega
  have HLT : Hid ((L : Int).toNat = L) := Int.toNat_natCast L
  cases hw : bnb l 4294967296 with
  | false =>
    have HE : Hid (lmE l L = 61) := by show lmE l L = 61; unfold lmE; rw [if_neg h1, if_pos hw]
    have HV : Hid (lmL l L = []) := if_neg (by rw [HE.out]; decide)
    rw [HE.out, HV.out]
    have HW := hide hw
    clear hw h1
    go_enter Try.func8, Try.ntmps8
    go_wp2_with fail
    refine (weighable_any _ l _ HS.out).mono ?_
    rintro e w1 ⟨rfl, rfl⟩
    rw [HW.out]
    go_wp2
    go_ret2
    exact ⟨none, 0, rfl, World.ownsRow_nil _ _ _ _, Below.refl _ _⟩
  | true =>
    have HW := hide hw
    have hbn := bnb_iff.1 hw
    have hnn : ∀ i, 0 ≤ l.getD i 0 := fun i => by
      by_cases c : i < l.length
      · exact (hbn i c).1
      · rw [List.getD_eq_getElem?_getD, List.getElem?_eq_none (by omega)]; exact Int.le_refl _
    have HMU : Hid (∀ s ∈ us l, s < l.length) := fun s hs => (mem_us.1 hs).1
    have hul := us_le (l := l)
    obtain ⟨p, hp⟩ : ∃ p, p = 2 ^ L := ⟨_, rfl⟩
    obtain ⟨p1, p2, p3, p4⟩ := pow15 hL1.2 hp
    by_cases h60 : p < (us l).length
    · have HE : Hid (lmE l L = 60) := by show lmE l L = 60; unfold lmE; rw [if_neg h1, if_neg (by rw [hw]; decide), HLT.out, if_pos (by rw [← hp]; exact h60)]
      have HV : Hid (lmL l L = []) := if_neg (by rw [HE.out]; decide)
      rw [HE.out, HV.out]
      obtain ⟨u, HU⟩ : ∃ u, Hid (u = (us l).length) := ⟨_, rfl⟩
      have HUC := hide (used_any (.slice ao l.length cap) l w HS.out hl288)
      rw [← HU.out] at h60 hul HUC
      have h60' : (p : Int) < (u : Int) := by omega
      clear hw h1 hbn hnn hp
      go_enter Try.func8, Try.ntmps8
      go_wp2_with fail
      refine (weighable_any _ l _ HS.out).mono ?_
      rintro e w1 ⟨rfl, rfl⟩
      rw [HW.out]
      go_wp2_with fail
      refine HUC.out.mono ?_
      rintro e w2 ⟨a2, c2, rfl, ho2, hb2⟩
      have HB2 := hide hb2
      clear ho2 hb2
      go_wp2
      go_ret2
      exact ⟨none, 0, rfl, World.ownsRow_nil _ _ _ _, HB2.out⟩
    · have HE : Hid (lmE l L = 0) := by show lmE l L = 0; unfold lmE; rw [if_neg h1, if_neg (by rw [hw]; decide), HLT.out, if_neg (by rw [← hp]; exact h60)]
      have HV : Hid (lmL l L = lmt l L) := by show _ = _; unfold lmL; rw [if_pos HE.out, HLT.out]
      rw [HE.out, HV.out, lmt_len]
      by_cases h2 : (us l).length < 2
      · have HFW := hide (lmt_few (L := L) h2)
        obtain ⟨u, HU⟩ : ∃ u, Hid (u = (us l).length) := ⟨_, rfl⟩
        have HUC := hide (used_any (.slice ao l.length cap) l w HS.out hl288)
        rw [← HU.out] at h60 hul HUC h2
        have h60' : ¬ (p : Int) < (u : Int) := by omega
        have h2' : (u : Int) < 2 := by omega
        clear hw h1 hbn hnn hp
        go_enter Try.func8, Try.ntmps8
        go_wp2_with fail
        refine (weighable_any _ l _ HS.out).mono ?_
        rintro e w1 ⟨rfl, rfl⟩
        rw [HW.out]
        go_wp2_with fail
        refine HUC.out.mono ?_
        rintro e w2 ⟨a2, c2, rfl, ho2, hb2⟩
        have HO2 := hide ho2
        have HB2 := hide hb2
        clear ho2 hb2
        go_wp2_with fail
        refine (few_any l.length _ (us l) _ HO2.out.sb HMU.out (by omega) (by rw [← HU.out]; omega)).mono ?_
        rintro e w3 ⟨a3, c3, rfl, ho3, hb3⟩
        have HF : Hid (OI w3 w1.heap.size (.slice a3 l.length c3) (lmt l L) ∧ Below w1.heap.size w1 w3) := ⟨by rw [← HFW.out]; exact ho3.base HB2.out.size, HB2.out.trans (hb3.mono HB2.out.size)⟩
        clear ho3 hb3
        go_wp2
        go_ret2
        exact ⟨_, _, rfl, HF.out.1, HF.out.2⟩
      · have HSP := hide (lmt_spr l L)
        have HPK := hide (lm_pack (L := L) (show 2 ≤ (us l).length by omega))
        have HLW := hide (lws_ci hnn)
        have HLL := hide (lws_len l)
        have HSL := hide (srl_len l)
        have HSM : Hid (∀ s ∈ srl l, s < l.length) := fun s hs => (mem_us.1 (srl_mem.1 hs)).1
        have HWL : Hid (∀ x ∈ lws l, x ≤ 4294967296) := fun x hx => by
          obtain ⟨s, hs, rfl⟩ := List.mem_map.1 hx
          exact (fq_le hbn (srl_mem.1 hs)).2
        have HRM : Hid (2 * (us l).length - 2 ≤ (row (lws l) L).length) := by
          show _ ≤ _
          obtain ⟨k, hk⟩ : ∃ k, L = k + 1 := ⟨L - 1, by omega⟩
          have e : 2 * 2 ^ k = p := by rw [hp, hk, Nat.pow_succ, Nat.mul_comm]
          have := row_room (lws l) k 2 (by rw [HLL.out, e]; omega)
          rw [HLL.out, ← hk] at this
          omega
        obtain ⟨u, HU⟩ : ∃ u, Hid (u = (us l).length) := ⟨_, rfl⟩
        have HUC := hide (used_any (.slice ao l.length cap) l w HS.out hl288)
        rw [← HU.out] at h60 hul HUC h2 HPK HLL HSL HRM
        have h60' : ¬ (p : Int) < (u : Int) := by omega
        have h2' : ¬ (u : Int) < 2 := by omega
        clear hw h1 hbn hnn hp
        go_enter Try.func8, Try.ntmps8
        go_wp2_with fail
        refine (weighable_any _ l _ HS.out).mono ?_
        rintro e w1 ⟨rfl, rfl⟩
        rw [HW.out]
        go_wp2_with fail
        refine HUC.out.mono ?_
        rintro e w2 ⟨a2, c2, rfl, ho2, hb2⟩
        obtain ⟨B, c2', hv2, _⟩ := ho2.form (by rw [ci_len, ← HU.out]; omega)
        simp only [Value.slice.injEq] at hv2
        obtain ⟨rfl, -, rfl⟩ := hv2
        have HO2 := hide ho2
        have HB2 := hide hb2
        have HS2 := hide (HS.out.below hb2)
        have HFC := hide (first_any (.slice ao l.length cap) l (us l) w2 B c2 w1.heap.size HS2.out (by rw [← HU.out]; exact ho2) HNE.out (us_rise l) HMU.out (by rw [← HU.out]; omega))
        rw [← HU.out] at HFC
        clear ho2 hb2
        go_wp2_with fail
        refine HFC.out.mono ?_
        rintro e w3 ⟨rfl, T, hT, ho3, hb3⟩
        obtain rfl : T = srl l := srt_eq hT (srl_srt l)
        have HO3 := hide ho3
        have HB3 := hide (HB2.out.trans hb3)
        have HS3 := hide (HS.out.below HB3.out)
        have HSI3 : Hid (SI w3 (.slice (some ⟨B, 0, none⟩) u c2) (ci (srl l))) := by
          have := ho3.sb
          exact this
        clear ho3 hb3 hT
        have HPC := hide (pick_any (.slice ao l.length cap) _ l (srl l) w3 HS3.out HSI3.out HSM.out (by rw [HSL.out]; omega))
        rw [HLW.out, HSL.out] at HPC
        go_wp2_with fail
        refine HPC.out.mono ?_
        rintro e w4 ⟨a4, c4, rfl, ho4, hb4⟩
        have HO4 := hide ho4
        have HB4 := hide (HB3.out.trans (hb4.mono HB3.out.size))
        have HO34 := hide (HO3.out.below hb4 (Nat.le_refl _))
        have HPA := hide (pack_any _ (lws l) L w4 ho4.sb (by rw [HLL.out]; omega) (by rw [HLL.out]; omega) hL1 HWL.out (by rw [HLL.out]; exact HRM.out))
        rw [HLL.out, HPK.out] at HPA
        clear ho4 hb4
        go_wp2_with fail
        refine HPA.out.mono ?_
        rintro e w5 ⟨a5, c5, rfl, ho5, hb5⟩
        have HO5 := hide ho5
        have HB5 := hide (HB4.out.trans (hb5.mono HB4.out.size))
        have HO35 := hide (HO34.out.below hb5 (Nat.le_refl _))
        clear ho5 hb5
        go_wp2_with fail
        refine (spread_any l.length _ _ (srl l) (fun s => (lm l L s : Int)) _ HO35.out.sb HO5.out.sb HSM.out (by omega) (by rw [HSL.out]; omega)).mono ?_
        rintro e w6 ⟨a6, c6, rfl, ho6, hb6⟩
        have HF : Hid (OI w6 w1.heap.size (.slice a6 l.length c6) (lmt l L) ∧ Below w1.heap.size w1 w6) := ⟨by rw [← HSP.out]; exact ho6.base HB5.out.size, HB5.out.trans (hb6.mono HB5.out.size)⟩
        clear ho6 hb6
        go_wp2
        go_ret2
        exact ⟨_, _, rfl, HF.out.1, HF.out.2⟩
end Go.Proofs.Ytdfggdafflkkcaa

