import Derived.Test.YtegoienjikjhkaaDoorGA21
import Derived.Test.YtegoienjikjhkaaDoorGA23
import Derived.Test.YtegoienjikjhkaaDoorGA16
import Derived.Test.YtegoienjikjhkaaDoorGA06
namespace Go.Proofs.YtegoienjikjhkaaDoor
open Go.RowKit Go.Maps
set_option maxRecDepth 20000
set_option linter.unusedVariables false

theorem w64in' {x : Int} (h : -9223372036854775808 ≤ x ∧ x ≤ 9223372036854775807) : wrap64 x = x := by unfold wrap64; omega

theorem pow15 {L p : Nat} (hL : L ≤ 15) (hp : p = 2 ^ L) : p ≤ 32768 ∧ wrap64 ((2 : Int) ^ L) = (p : Int) ∧ wrap64 ((2 : Int) ^ min L 64) = (p : Int) ∧ ((2 : Int) ^ L) = (p : Int) := by
  have h1 : p ≤ 32768 := by rw [hp]; exact Nat.pow_le_pow_right (n := 2) (by decide) hL
  have e : ((2 : Int) ^ L) = (p : Int) := by rw [hp]; simp
  refine ⟨h1, ?_, ?_, e⟩
  · rw [e]; exact w64in' (by omega)
  · rw [show min L 64 = L from Nat.min_eq_left (by omega), e]; exact w64in' (by omega)

theorem lws_ci {l : List Int} (h : ∀ i, 0 ≤ l.getD i 0) : ((srl l).map fun s => l.getD s 0) = ci (lws l) := by
  unfold lws ci
  rw [List.map_map]
  refine List.map_congr_left fun s _ => ?_
  have := h s
  simp only [Function.comp_apply, fq]
  omega

set_option maxHeartbeats 4000000 in
theorem limited_any (v : Value) (l : List Int) (lim : Int) (w : World) (h : SI w v l) (hne : ∀ k, v.ownBlock = some k → k < w.heap.size) (hlim : -9223372036854775808 ≤ lim ∧ lim ≤ 9223372036854775807) :
    Calls Tryd.prog 27 #[v, .int .i64 lim] w fun e w' => ∃ a c, e = .returned (.tuple #[.slice a (lmL l lim).length c, .int .i64 (lmE l lim)]) ∧ OI w' w.heap.size (.slice a (lmL l lim).length c) (lmL l lim) ∧ Below w.heap.size w w' := by
  have HS := hide h
  obtain ⟨ao, cap, rfl, hlc, hcm⟩ := h.open
  have HNE := hide hne
  clear h hne
  by_cases h1 : 288 < l.length ∨ lim < 1 ∨ 15 < lim
  · have HE : Hid (lmE l lim = 1) := if_pos h1
    have HV : Hid (lmL l lim = []) := if_neg (by rw [HE.out]; decide)
    rw [HE.out, HV.out]
    by_cases q1 : 288 < l.length
    · have q1' : (288 : Int) < (l.length : Int) := by omega
      clear h1
      go_enter Tryd.func27, Tryd.ntmps27
      go_wp2
      go_ret2
      exact ⟨none, 0, rfl, World.ownsRow_nil _ _ _ _, Below.refl _ _⟩
    · have q1' : ¬ (288 : Int) < (l.length : Int) := by omega
      by_cases q2 : lim < 1
      · clear h1
        go_enter Tryd.func27, Tryd.ntmps27
        go_wp2
        go_ret2
        exact ⟨none, 0, rfl, World.ownsRow_nil _ _ _ _, Below.refl _ _⟩
      · have q3 : 15 < lim := by omega
        clear h1
        go_enter Tryd.func27, Tryd.ntmps27
        go_wp2
        go_ret2
        exact ⟨none, 0, rfl, World.ownsRow_nil _ _ _ _, Below.refl _ _⟩
  have q1 : ¬ (288 : Int) < (l.length : Int) := by omega
  obtain ⟨L, rfl⟩ : ∃ L : Nat, lim = L := ⟨lim.toNat, by omega⟩
  have q2 : ¬ (L : Int) < 1 := by omega
  have q3 : ¬ 15 < (L : Int) := by omega
  have hL1 : 1 ≤ L ∧ L ≤ 15 := by omega
  have hl288 : l.length ≤ 288 := by omega
  have HLT : Hid ((L : Int).toNat = L) := Int.toNat_natCast L
  cases hw : bnb l 4294967296 with
  | false =>
    have HE : Hid (lmE l L = 61) := by show lmE l L = 61; unfold lmE; rw [if_neg h1, if_pos hw]
    have HV : Hid (lmL l L = []) := if_neg (by rw [HE.out]; decide)
    rw [HE.out, HV.out]
    have HW := hide hw
    clear hw h1
    go_enter Tryd.func27, Tryd.ntmps27
    go_wp2_with fail
    refine (weighable_any _ l _ HS.out).mono ?_
    rintro e w1 ⟨rfl, rfl⟩
    rw [HW.out]
    go_wp2
    go_ret2
    exact ⟨none, 0, rfl, World.ownsRow_nil _ _ _ _, Below.refl _ _⟩
  | true =>
    have HW := hide hw
    have hbn := bnb_iff.1 hw
    have hnn : ∀ i, 0 ≤ l.getD i 0 := fun i => by
      by_cases c : i < l.length
      · exact (hbn i c).1
      · rw [List.getD_eq_getElem?_getD, List.getElem?_eq_none (by omega)]; exact Int.le_refl _
    have HMU : Hid (∀ s ∈ us6 l, s < l.length) := fun s hs => (mem_us.1 hs).1
    have hul := us_le6 (l := l)
    obtain ⟨p, hp⟩ : ∃ p, p = 2 ^ L := ⟨_, rfl⟩
    obtain ⟨p1, p2, p3, p4⟩ := pow15 hL1.2 hp
    by_cases h60 : p < (us6 l).length
    · have HE : Hid (lmE l L = 60) := by show lmE l L = 60; unfold lmE; rw [if_neg h1, if_neg (by rw [hw]; decide), HLT.out, if_pos (by rw [← hp]; exact h60)]
      have HV : Hid (lmL l L = []) := if_neg (by rw [HE.out]; decide)
      rw [HE.out, HV.out]
      obtain ⟨u, HU⟩ : ∃ u, Hid (u = (us6 l).length) := ⟨_, rfl⟩
      have HUC := hide (used_any6 (.slice ao l.length cap) l w HS.out hl288)
      rw [← HU.out] at h60 hul HUC
      have h60' : (p : Int) < (u : Int) := by omega
      clear hw h1 hbn hnn hp
      go_enter Tryd.func27, Tryd.ntmps27
      go_wp2_with fail
      refine (weighable_any _ l _ HS.out).mono ?_
      rintro e w1 ⟨rfl, rfl⟩
      rw [HW.out]
      go_wp2_with fail
      refine HUC.out.mono ?_
      rintro e w2 ⟨a2, c2, rfl, ho2, hb2⟩
      have HB2 := hide hb2
      clear ho2 hb2
      go_wp2
      go_ret2
      exact ⟨none, 0, rfl, World.ownsRow_nil _ _ _ _, HB2.out⟩
    · have HE : Hid (lmE l L = 0) := by show lmE l L = 0; unfold lmE; rw [if_neg h1, if_neg (by rw [hw]; decide), HLT.out, if_neg (by rw [← hp]; exact h60)]
      have HV : Hid (lmL l L = lmt l L) := by show _ = _; unfold lmL; rw [if_pos HE.out, HLT.out]
      rw [HE.out, HV.out, lmt_len]
      by_cases h2 : (us6 l).length < 2
      · have HFW := hide (lmt_few (L := L) h2)
        obtain ⟨u, HU⟩ : ∃ u, Hid (u = (us6 l).length) := ⟨_, rfl⟩
        have HUC := hide (used_any6 (.slice ao l.length cap) l w HS.out hl288)
        rw [← HU.out] at h60 hul HUC h2
        have h60' : ¬ (p : Int) < (u : Int) := by omega
        have h2' : (u : Int) < 2 := by omega
        clear hw h1 hbn hnn hp
        go_enter Tryd.func27, Tryd.ntmps27
        go_wp2_with fail
        refine (weighable_any _ l _ HS.out).mono ?_
        rintro e w1 ⟨rfl, rfl⟩
        rw [HW.out]
        go_wp2_with fail
        refine HUC.out.mono ?_
        rintro e w2 ⟨a2, c2, rfl, ho2, hb2⟩
        have HO2 := hide ho2
        have HB2 := hide hb2
        clear ho2 hb2
        go_wp2_with fail
        refine (few_any l.length _ (us6 l) _ HO2.out.sb HMU.out (by omega) (by rw [← HU.out]; omega)).mono ?_
        rintro e w3 ⟨a3, c3, rfl, ho3, hb3⟩
        have HF : Hid (OI w3 w1.heap.size (.slice a3 l.length c3) (lmt l L) ∧ Below w1.heap.size w1 w3) := ⟨by rw [← HFW.out]; exact ho3.base HB2.out.size, HB2.out.trans (hb3.mono HB2.out.size)⟩
        clear ho3 hb3
        go_wp2
        go_ret2
        exact ⟨_, _, rfl, HF.out.1, HF.out.2⟩
      · have HSP := hide (lmt_spr l L)
        have HPK := hide (lm_pack (L := L) (show 2 ≤ (us6 l).length by omega))
        have HLW := hide (lws_ci hnn)
        have HLL := hide (lws_len l)
        have HSL := hide (srl_len l)
        have HSM : Hid (∀ s ∈ srl l, s < l.length) := fun s hs => (mem_us.1 (srl_mem.1 hs)).1
        have HWL : Hid (∀ x ∈ lws l, x ≤ 4294967296) := fun x hx => by
          obtain ⟨s, hs, rfl⟩ := List.mem_map.1 hx
          exact (fq_le hbn (srl_mem.1 hs)).2
        have HRM : Hid (2 * (us6 l).length - 2 ≤ (row (lws l) L).length) := by
          show _ ≤ _
          obtain ⟨k, hk⟩ : ∃ k, L = k + 1 := ⟨L - 1, by omega⟩
          have e : 2 * 2 ^ k = p := by rw [hp, hk, Nat.pow_succ, Nat.mul_comm]
          have := row_room (lws l) k 2 (by rw [HLL.out, e]; omega)
          rw [HLL.out, ← hk] at this
          omega
        obtain ⟨u, HU⟩ : ∃ u, Hid (u = (us6 l).length) := ⟨_, rfl⟩
        have HUC := hide (used_any6 (.slice ao l.length cap) l w HS.out hl288)
        rw [← HU.out] at h60 hul HUC h2 HPK HLL HSL HRM
        have h60' : ¬ (p : Int) < (u : Int) := by omega
        have h2' : ¬ (u : Int) < 2 := by omega
        clear hw h1 hbn hnn hp
        go_enter Tryd.func27, Tryd.ntmps27
        go_wp2_with fail
        refine (weighable_any _ l _ HS.out).mono ?_
        rintro e w1 ⟨rfl, rfl⟩
        rw [HW.out]
        go_wp2_with fail
        refine HUC.out.mono ?_
        rintro e w2 ⟨a2, c2, rfl, ho2, hb2⟩
        obtain ⟨B, c2', hv2, _⟩ := ho2.form (by rw [ci_len, ← HU.out]; omega)
        simp only [Value.slice.injEq] at hv2
        obtain ⟨rfl, -, rfl⟩ := hv2
        have HO2 := hide ho2
        have HB2 := hide hb2
        have HS2 := hide (HS.out.below hb2)
        have HFC := hide (first_any (.slice ao l.length cap) l (us6 l) w2 B c2 w1.heap.size HS2.out (by rw [← HU.out]; exact ho2) HNE.out (us_rise l) HMU.out (by rw [← HU.out]; omega))
        rw [← HU.out] at HFC
        clear ho2 hb2
        go_wp2_with fail
        refine HFC.out.mono ?_
        rintro e w3 ⟨rfl, T, hT, ho3, hb3⟩
        obtain rfl : T = srl l := srt_eq hT (srl_srt l)
        have HO3 := hide ho3
        have HB3 := hide (HB2.out.trans hb3)
        have HS3 := hide (HS.out.below HB3.out)
        have HSI3 : Hid (SI w3 (.slice (some ⟨B, 0, none⟩) u c2) (ci (srl l))) := by
          have := ho3.sb
          exact this
        clear ho3 hb3 hT
        have HPC := hide (pick_any (.slice ao l.length cap) _ l (srl l) w3 HS3.out HSI3.out HSM.out (by rw [HSL.out]; omega))
        rw [HLW.out, HSL.out] at HPC
        go_wp2_with fail
        refine HPC.out.mono ?_
        rintro e w4 ⟨a4, c4, rfl, ho4, hb4⟩
        have HO4 := hide ho4
        have HB4 := hide (HB3.out.trans (hb4.mono HB3.out.size))
        have HO34 := hide (HO3.out.below hb4 (Nat.le_refl _))
        have HPA := hide (pack_any _ (lws l) L w4 ho4.sb (by rw [HLL.out]; omega) (by rw [HLL.out]; omega) hL1 HWL.out (by rw [HLL.out]; exact HRM.out))
        rw [HLL.out, HPK.out] at HPA
        clear ho4 hb4
        go_wp2_with fail
        refine HPA.out.mono ?_
        rintro e w5 ⟨a5, c5, rfl, ho5, hb5⟩
        have HO5 := hide ho5
        have HB5 := hide (HB4.out.trans (hb5.mono HB4.out.size))
        have HO35 := hide (HO34.out.below hb5 (Nat.le_refl _))
        clear ho5 hb5
        go_wp2_with fail
        refine (spread_any l.length _ _ (srl l) (fun s => (lm l L s : Int)) _ HO35.out.sb HO5.out.sb HSM.out (by omega) (by rw [HSL.out]; omega)).mono ?_
        rintro e w6 ⟨a6, c6, rfl, ho6, hb6⟩
        have HF : Hid (OI w6 w1.heap.size (.slice a6 l.length c6) (lmt l L) ∧ Below w1.heap.size w1 w6) := ⟨by rw [← HSP.out]; exact ho6.base HB5.out.size, HB5.out.trans (hb6.mono HB5.out.size)⟩
        clear ho6 hb6
        go_wp2
        go_ret2
        exact ⟨_, _, rfl, HF.out.1, HF.out.2⟩
end Go.Proofs.YtegoienjikjhkaaDoor

namespace Go.Proofs.YtegoienjikjhkaaDoor
open Go.RowKit Go.Maps
set_option maxRecDepth 20000
set_option linter.unusedVariables false

theorem pow_split {L a : Nat} (hL : L ≤ 60) (h : a ≤ L) : 2 ^ (60 - a) = 2 ^ (60 - L) * 2 ^ (L - a) := by
  rw [← Nat.pow_add]
  congr 1
  omega

theorem kr_limit {len : Nat → Nat} {l : List Nat} {L : Nat} (hL : L ≤ 60) (h : ∀ s ∈ l, len s ≤ L) : kr len l = 2 ^ (60 - L) * (l.map fun s => 2 ^ (L - len s)).sum := by
  induction l with
  | nil => simp [kr]
  | cons a r ih =>
    have ih' := ih fun s hs => h s (List.mem_cons_of_mem _ hs)
    unfold kr at ih' ⊢
    simp only [List.map_cons, List.sum_cons]
    rw [ih', pow_split hL (h a (by simp)), Nat.mul_add]

theorem kr_perm {len : Nat → Nat} {l l' : List Nat} (h : l.Perm l') : kr len l = kr len l' := perm_sum _ h
theorem fl_perm {f len : Nat → Nat} {l l' : List Nat} (h : l.Perm l') : fl f len l = fl f len l' := perm_sum _ h

theorem lm_facts {f : List Int} {L : Nat} (hs : Sound f) (hL : 1 ≤ L ∧ L ≤ 15) (hu : (us6 f).length ≤ 2 ^ L) (h2 : 2 ≤ (us6 f).length) : kr (lm f L) (us6 f) = 2 ^ 60 ∧ (∀ s ∈ us6 f, lm f L s ≤ L) ∧ ∀ o, (∀ s ∈ us6 f, o s ≤ L) → kr o (us6 f) ≤ 2 ^ 60 → fl (fq f) (lm f L) (us6 f) ≤ fl (fq f) o (us6 f) := by
  have hp := (srl_srt f).perm
  have key := limited_good (f := fq f) (len := lm f L) (us6 := srl f) L hL.1 (by rw [srl_len]; omega) (lws_rise hs.nn) (by rw [srl_len]; exact hu) (fun i hi => by
    have := lm_at (l := f) (L := L) h2 hi
    rw [List.getD_eq_getElem?_getD, List.getElem?_eq_getElem hi, Option.getD_some, this]
    rw [srl_len, show 2 * ((us6 f).length - 1) = 2 * (us6 f).length - 2 by omega]
    rfl)
  obtain ⟨a, b, c⟩ := key
  have hle : ∀ s ∈ us6 f, lm f L s ≤ L := fun s h => b s (srl_mem.2 h)
  have hsum : ∀ g : Nat → Nat, ((srl f).map g).sum = ((us6 f).map g).sum := fun g => perm_sum g hp
  have e60 : 2 ^ (60 - L) * 2 ^ L = 2 ^ 60 := by rw [← Nat.pow_add]; congr 1; omega
  refine ⟨?_, hle, fun o ho hk => ?_⟩
  · rw [kr_limit (by omega) hle, ← hsum, a]
    exact e60
  · rw [← fl_perm hp, ← fl_perm hp]
    refine c o (fun s h => ho s (srl_mem.1 h)) ?_
    rw [kr_limit (by omega) ho, ← e60] at hk
    rw [hsum]
    exact Nat.le_of_mul_le_mul_left hk (Nat.two_pow_pos _)

theorem lmt_get {f : List Int} {L s : Nat} (h : s < f.length) : (lmt f L).getD s 0 = (lm f L s : Int) := by
  unfold lmt
  rw [List.getD_eq_getElem?_getD, List.getElem?_map, List.getElem?_range h]
  rfl

theorem nn_lmt {f : List Int} {L s : Nat} (h : s ∈ us6 f) : nn (lmt f L) s = lm f L s := by
  unfold nn
  rw [lmt_get (mem_us.1 h).1]
  rfl

theorem lm_one {f : List Int} {L s : Nat} (h : (us6 f).length = 1) (hm : s ∈ us6 f) : lm f L s = 1 := by
  unfold lm
  rw [if_pos h, if_pos hm]

theorem gd_lmt {f : List Int} {L : Nat} (hs : Sound f) (hL : 1 ≤ L ∧ L ≤ 15) (hu : (us6 f).length ≤ 2 ^ L) : Gd f (lmt f L) L := by
  refine ⟨lmt_len f L, fun s h h0 => ?_, fun s hm => ?_, fun h s hm => by rw [lmt_get (mem_us.1 hm).1, lm_one h hm]; rfl, fun h2 => ?_⟩
  · rw [lmt_get h, lm_out (fun hm => by have := (mem_us.1 hm).2; omega)]; rfl
  · have hm' : s ∈ us6 f := hm
    have hpos := List.length_pos_of_mem hm'
    rw [lmt_get (mem_us.1 hm').1]
    by_cases h1 : (us6 f).length = 1
    · rw [lm_one h1 hm']; omega
    · obtain ⟨a, b, _⟩ := lm_facts hs hL hu (by omega)
      have h3 := kr_one a (by omega) hm'
      have h4 := b s hm'
      omega
  · rw [kr_congr (fun s h => nn_lmt h)]
    exact (lm_facts hs hL hu h2).1

/-- Nothing within Kraft's rule and the limit costs less. -/
theorem lm_best {f o : List Int} {L : Nat} (hs : Sound f) (hL : 1 ≤ L ∧ L ≤ 15) (hu : (us6 f).length ≤ 2 ^ L) (ho : LenOk f o L f.length) (hk : kr (nn o) (us6 f) ≤ 2 ^ 60) : fl (fq f) (nn (lmt f L)) (us6 f) ≤ fl (fq f) (nn o) (us6 f) := by
  rw [fl_congr (fun s h => nn_lmt h)]
  by_cases h2 : 2 ≤ (us6 f).length
  · exact (lm_facts hs hL hu h2).2.2 (nn o) (fun s h => by have := ho s h; unfold nn; omega) hk
  · refine sum_map_le fun s h => ?_
    have hpos := List.length_pos_of_mem h
    have e : lm f L s = 1 := lm_one (by omega) h
    have := ho s h
    show fq f s * lm f L s ≤ _
    rw [e]
    exact Nat.mul_le_mul_left _ (by unfold nn; omega)

theorem Sound.lmE {f : List Int} {L : Nat} (hs : Sound f) (hL : 1 ≤ L ∧ L ≤ 15) : lmE f L = (if 2 ^ L < (us6 f).length then 60 else 0) ∧ lmL f L = (if 2 ^ L < (us6 f).length then [] else lmt f L) := by
  have e : Go.Proofs.YtegoienjikjhkaaDoor.lmE f L = (if 2 ^ L < (us6 f).length then 60 else 0) := by
    unfold Go.Proofs.YtegoienjikjhkaaDoor.lmE
    rw [if_neg (by have := hs.len; omega), if_neg (by rw [bnb_iff.2 hs.ok]; decide), Int.toNat_natCast]
  refine ⟨e, ?_⟩
  unfold Go.Proofs.YtegoienjikjhkaaDoor.lmL
  rw [e]
  by_cases c : 2 ^ L < (us6 f).length
  · rw [if_pos c, if_pos c]; rfl
  · rw [if_neg c, if_neg c, Int.toNat_natCast]; rfl

theorem OI.blk {w : World} {base a n c} {l : List Int} (h : OI w base (.slice a n c) l) : ∀ k, (Value.slice a n c).ownBlock = some k → k < w.heap.size := fun k hk => (h.lt k hk).2

theorem limited_ok {f : List Int} {L : Nat} (hs : Sound f) (hL : 1 ≤ L ∧ L ≤ 15) (hu : (us6 f).length ≤ 2 ^ L) (v : Value) (w : World) (h : SI w v f) (hne : ∀ k, v.ownBlock = some k → k < w.heap.size) :
    Calls Tryd.prog 27 #[v, .int .i64 (L : Int)] w fun e w' => ∃ a c, e = .returned (.tuple #[.slice a f.length c, .int .i64 0]) ∧ OI w' w.heap.size (.slice a f.length c) (lmt f L) ∧ Below w.heap.size w w' := by
  have := limited_any v f L w h hne (by omega)
  obtain ⟨e1, e2⟩ := hs.lmE hL
  rw [if_neg (by omega)] at e1 e2
  rw [e1, e2, lmt_len] at this
  exact this
end Go.Proofs.YtegoienjikjhkaaDoor

namespace Go.Proofs.YtegoienjikjhkaaDoor
open Go.RowKit Go.Maps
set_option maxRecDepth 20000
set_option linter.unusedVariables false

/-- What Make answers. -/
def mkL (l : List Int) : List Int := trm l 257
def mkD (d : List Int) : List Int := trm d 1
def mkE (l d : List Int) : Int := if 286 < l.length ∨ 30 < d.length ∨ wthb l = false ∨ wthb d = false then 1 else hck (mkL l) (mkD d)
def mkR (l d : List Int) : List Rn := rns (mkL l ++ mkD d)
def mkC (l d : List Int) : List Int := lmt (usg (mkR l d)) 7
def mkZ (l d : List Int) : Int := hsz (mkC l d) (mkR l d)

theorem usg_sound {R : List Rn} (h : R.length ≤ 1048576) : Sound (usg R) := by
  refine ⟨by rw [usg_len]; omega, fun i hi => ?_⟩
  rw [usg_len] at hi
  have := usg_le R i hi
  omega

theorem usg_us (R : List Rn) : (us6 (usg R)).length ≤ 2 ^ 7 := by
  have := usk_len (usg R) (usg R).length
  rw [usg_len] at this
  show (usk (usg R) (usg R).length).length ≤ 128
  rw [usg_len]
  omega

theorem usg_lm {R : List Rn} (h : R.length ≤ 1048576) : lmE (usg R) 7 = 0 ∧ lmL (usg R) 7 = lmt (usg R) 7 := by
  have hb : bnb (usg R) 4294967296 = true := bnb_iff.2 (usg_sound h).ok
  have h0 : lmE (usg R) 7 = 0 := by
    unfold lmE
    rw [if_neg (by rw [usg_len]; omega), if_neg (by rw [hb]; decide), if_neg (by have := usg_us R; show ¬ 2 ^ 7 < _; omega)]
  refine ⟨h0, ?_⟩
  unfold lmL
  rw [if_pos h0]
  rfl

theorem lmt7 {R : List Rn} (h : R.length ≤ 1048576) : (lmt (usg R) 7).length = 19 ∧ ∀ s, 0 ≤ (lmt (usg R) 7).getD s 0 ∧ (lmt (usg R) 7).getD s 0 ≤ 7 := by
  have g := gd_lmt (usg_sound h) (L := 7) (by omega) (usg_us R)
  have hl : (lmt (usg R) 7).length = 19 := by rw [lmt_len, usg_len]
  refine ⟨hl, fun s => ?_⟩
  by_cases hs : s < 19
  · by_cases z : (usg R).getD s 0 = 0
    · rw [g.zero s (by rw [usg_len]; exact hs) z]; omega
    · have := usg_le R s hs
      have := g.ok s (mem_us.2 ⟨by rw [usg_len]; exact hs, by omega⟩)
      omega
  · rw [show (lmt (usg R) 7).getD s 0 = 0 by rw [List.getD_eq_getElem?_getD, List.getElem?_eq_none (by omega)]; rfl]; omega

theorem trm_lens {l : List Int} {f : Nat} (hl : l.length ≤ 286) (hf : f ≤ 257) : f ≤ (trm l f).length ∧ (trm l f).length ≤ max l.length f := by
  rw [trm_len]
  have := tln_le l f
  omega

def Hbox (w : World) (g : Nat) (a b c d e : Value) : Prop := w.heap[g]? = some (.cells #[a, b, c, d, e] 29 (0, 0))

theorem Hbox.cells {w : World} {g : Nat} {a b c d e : Value} (h : Hbox w g a b c d e) : w.cell? ⟨g, 0, none⟩ = some a ∧ w.cell? ⟨g, 1, none⟩ = some b ∧ w.cell? ⟨g, 2, none⟩ = some c ∧ w.cell? ⟨g, 3, none⟩ = some d ∧ w.cell? ⟨g, 4, none⟩ = some e := by
  unfold Hbox at h
  refine ⟨?_, ?_, ?_, ?_, ?_⟩ <;> (unfold World.cell?; rw [h]; rfl)
theorem Hbox.frozen {w : World} {g : Nat} {a b c d e : Value} (h : Hbox w g a b c d e) : w.frozen? ⟨g, 0, none⟩ = false ∧ w.frozen? ⟨g, 1, none⟩ = false ∧ w.frozen? ⟨g, 2, none⟩ = false ∧ w.frozen? ⟨g, 3, none⟩ = false ∧ w.frozen? ⟨g, 4, none⟩ = false := by
  unfold Hbox at h
  refine ⟨?_, ?_, ?_, ?_, ?_⟩ <;> (unfold World.frozen?; rw [h]; rfl)
theorem Hbox.lt {w : World} {g : Nat} {a b c d e : Value} (h : Hbox w g a b c d e) : g < w.heap.size := by
  rcases Nat.lt_or_ge g w.heap.size with q | q
  · exact q
  · unfold Hbox at h; rw [Array.getElem?_eq_none q] at h; cases h
theorem Hbox.below {w w' : World} {g : Nat} {a b c d e : Value} (h : Hbox w g a b c d e) (hb : Below w.heap.size w w') : Hbox w' g a b c d e := (hb.block g h.lt).trans h
theorem Hbox.set {w : World} {g : Nat} {a b c d e : Value} (h : Hbox w g a b c d e) (v : Value) : Hbox (w.setCell ⟨g, 2, none⟩ v) g a b v d e ∧ Hbox (w.setCell ⟨g, 3, none⟩ v) g a b c v e ∧ Hbox (w.setCell ⟨g, 4, none⟩ v) g a b c d v := by
  refine ⟨?_, ?_, ?_⟩ <;> (unfold Hbox; rw [heap_setCell_at _ h]; rfl)
theorem Hbox.put {w : World} {g : Nat} {a b c d e a' b' c' d' e' : Value} (h : Hbox w g a b c d e) : Hbox (((((w.setCell ⟨g, 0, none⟩ a').setCell ⟨g, 1, none⟩ b').setCell ⟨g, 2, none⟩ c').setCell ⟨g, 3, none⟩ d').setCell ⟨g, 4, none⟩ e') g a' b' c' d' e' := by
  have h0 := heap_setCell_at (k := 0) a' h
  have h1 := heap_setCell_at (k := 1) b' h0
  have h2 := heap_setCell_at (k := 2) c' h1
  have h3 := heap_setCell_at (k := 3) d' h2
  exact (heap_setCell_at (k := 4) e' h3).trans rfl

theorem put_below {w w0 : World} {g B : Nat} {a' b' c' d' e' : Value} (h : Below B w0 w) (hB : B ≤ g) : Below B w0 (((((w.setCell ⟨g, 0, none⟩ a').setCell ⟨g, 1, none⟩ b').setCell ⟨g, 2, none⟩ c').setCell ⟨g, 3, none⟩ d').setCell ⟨g, 4, none⟩ e') :=
  ((((h.setCell (p := ⟨g, 0, none⟩) hB _).setCell (p := ⟨g, 1, none⟩) hB _).setCell (p := ⟨g, 2, none⟩) hB _).setCell (p := ⟨g, 3, none⟩) hB _).setCell (p := ⟨g, 4, none⟩) hB _

/-- The header that Make answers, in memory. -/
structure Mkd (w : World) (B : Nat) (vL vD vC vR : Value) (L D C : List Int) (R : List Rn) : Prop where
  l : OI w B vL L
  d : OI w B vD D
  c : OI w B vC C
  r : OR w B vR R

theorem Mkd.below {w w' : World} {B : Nat} {vL vD vC vR : Value} {L D C : List Int} {R : List Rn} (h : Mkd w B vL vD vC vR L D C R) (hb : Below w.heap.size w w') : Mkd w' B vL vD vC vR L D C R :=
  ⟨h.l.below hb (Nat.le_refl _), h.d.below hb (Nat.le_refl _), h.c.below hb (Nat.le_refl _), h.r.below hb (Nat.le_refl _)⟩
end Go.Proofs.YtegoienjikjhkaaDoor

