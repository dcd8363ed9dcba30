import Derived.Test.YtlleajegfeilfaaGZap
import Derived.Test.YtlleajegfeilfaaGNlw
namespace Go.Proofs.Ytlleajegfeilfaa
open Go.RowKit Go.Maps
set_option maxRecDepth 20000
set_option linter.unusedVariables false
set_option linter.unusedSimpArgs false

theorem apR_same {C : List Int} {size : Int} {R S : List We} (h : prs R = prs S) : apE C.length size (nms R) = apE C.length size (nms S) ∧ apR C size R = apR C size S := by
  have h1 := prs_nms h
  unfold apR
  rw [h1, h]
  exact ⟨rfl, rfl⟩
theorem apR_len (C : List Int) (size : Int) (R : List We) : (apR C size R).length ≤ 16777216 := by
  unfold apR
  split
  · rename_i h
    have hd : domN size := by
      by_cases q : domN size
      · exact q
      · unfold apE at h; rw [if_pos (.inr q)] at h; cases h
    have hb : ¬ 16777216 < C.length := fun q => by unfold apE at h; rw [if_pos (.inl q)] at h; cases h
    have hr : rgt size (nms R) 0 = true := by
      cases q : rgt size (nms R) 0
      · unfold apE at h; rw [if_neg (fun x => x.elim (fun y => hb y) (fun y => y hd)), if_pos q] at h; cases h
      · rfl
    obtain ⟨n, rfl⟩ : ∃ n : Nat, size = (n : Int) := ⟨size.toNat, by have := hd.1; omega⟩
    rw [Int.toNat_natCast, apl_size hr]
    have := hd.2
    omega
  · simp

theorem two_lists {w2 w3 w4 w5 w6 : World} {v3 v5 : Value} {l : List Int} (h3 : OB w3 w2.heap.size v3 l) (b34 : Below w3.heap.size w3 w4) (h5 : OB w5 w4.heap.size v5 l) (b45 : Below w4.heap.size w4 w5) (b56 : Below w5.heap.size w5 w6) (s23 : w2.heap.size ≤ w3.heap.size) (hl : l.length ≤ 16777216) (T : Nat) :
    Lists (w6.alloc (.cells #[v3, v5] T)) w2.heap.size [(v3, l), (v5, l)] w6.heap.size := by
  have s34 := b34.size
  have s45 := b45.size
  have s56 := b56.size
  have o3 : OB w6 w2.heap.size v3 l := h3.below ((b34.trans (b45.mono s34)).trans (b56.mono (Nat.le_trans s34 s45))) (Nat.le_refl _)
  have o5 : OB w6 w2.heap.size v5 l := (h5.below b56 (Nat.le_refl _)).base (by omega)
  have l3 := h3.lt
  have l5 := h5.lt
  have hbx := heap_alloc_new w6 (.cells #[v3, v5] T)
  refine ⟨fun j p hp => ?_, fun i j p q hp hq hij k hk hk2 => ?_, fun j p hp => ?_, fun p hp e => ?_, by simp, fun p hp => ?_, by rw [size_alloc']; omega⟩
  · rcases j with _ | _ | j
    · cases hp; exact o3.alloc _
    · cases hp; exact o5.alloc _
    · simp at hp
  · rcases i with _ | _ | i <;> rcases j with _ | _ | j <;> simp at hp hq hij
    · subst hp hq; have := (l3 k hk).2; have := (l5 k hk2).1; omega
    · subst hp hq; have := (l3 k hk2).2; have := (l5 k hk).1; omega
  · rcases j with _ | _ | j
    · cases hp; exact box_cells hbx 0 rfl
    · cases hp; exact box_cells hbx 1 rfl
    · simp at hp
  · simp only [List.mem_cons, List.not_mem_nil, or_false] at hp
    rcases hp with rfl | rfl
    · have := (l3 _ e).2; omega
    · have := (l5 _ e).2; omega
  · simp only [List.mem_cons, List.not_mem_nil, or_false] at hp
    rcases hp with rfl | rfl <;> (simp only; omega)

theorem keep_below {w2 w6 w7 : World} {ls : List (Value × List Int)} (hb : Below w2.heap.size w2 w6) (hk : Keep ls w6 w7) (hl : ∀ p ∈ ls, ∀ k, p.1.ownBlock = some k → w2.heap.size ≤ k) : Below w2.heap.size w2 w7 :=
  ⟨hk.os.trans hb.os, hk.tape.trans hb.tape, hk.output.trans hb.output, Nat.le_trans hb.size hk.size, fun k hlt => (hk.block k (Nat.lt_of_lt_of_le hlt hb.size) (fun p hp e => by have := hl p hp k e; omega)).trans (hb.block k hlt)⟩

set_option maxHeartbeats 16000000 in
theorem applies_walk (vc v : Value) (C : List Int) (R : List We) (size : Int) (w : World) (hc : SB w vc C) (hC : C.length ≤ 140737488351232) (h : SW w v R) (hs : sml R) (ho : ∀ e ∈ R, -9223372036854775808 ≤ e.at' ∧ e.at' ≤ 9223372036854775807) :
    Calls Try.prog 4 #[vc, .int .i64 size, v] w fun e w' => e = .returned (.bool true) ∧ Below w.heap.size w w' := by
  have HC := hide hc
  have HS := hide h
  have HFR := hide (framed_any vc C w hc (by omega))
  have HFW := hide (fun w' (hb : Below w.heap.size w w') => framedWrites_any v R w' (h.low hb) hs)
  have HSM := hide hs
  have HLN := hide (apR_len C size R)
  have HAY := hide (fun (v0 v1 v2 : Value) (base : Nat) (F : List Fe) (w1 : World) (hq : prf F = prs R) (hsb : SB w1 v0 C) (hw : SW w1 v1 (F.map Fe.we)) => by
    have hp := (prf_we F).trans hq
    have q := prs_ok hp hs ho
    have := apply_any v0 v1 C (F.map Fe.we) size w1 hsb hC hw q.1 q.2
    rw [(apR_same (C := C) (size := size) hp).1, (apR_same (C := C) (size := size) hp).2] at this
    exact this)
  have HZY := hide (fun w' (hb : Below w.heap.size w w') => zApply_any vc v C R size w' (hc.below hb) hC (h.low hb) hs ho)
  obtain ⟨E0, hE0⟩ : ∃ E, E = apE C.length size (nms R) := ⟨_, rfl⟩
  obtain ⟨L, hL⟩ : ∃ E, E = apR C size R := ⟨_, rfl⟩
  rw [← hE0, ← hL] at HAY HZY
  rw [← hL] at HLN
  obtain ⟨co, cco, rfl, d1, d2, -, -⟩ := hc
  unfold maxLen at d2
  clear hE0 hL h hs ho
  go_enter Try.func4, Try.ntmps4
  go_wp2_with fail
  refine HFR.out.mono ?_
  rintro e w1 ⟨g, c, rfl, ho1, hb1⟩
  have HO1 : Hid (OB w1 w.heap.size (Fe.mk 0 g c C).fv ((Fe.mk 0 g c C).l ++ marks4)) := ho1
  have HB1 := hide hb1
  have hgc : C.length + 4 ≤ c := by
    obtain ⟨a9, c9, he9, h9, _⟩ := ho1.sb
    have e4 : (C ++ marks4).length = C.length + 4 := by simp [marks4]
    rw [e4] at he9 h9
    simp only [Value.slice.injEq] at he9
    omega
  have hgm : c ≤ 9223372036854775807 := by
    obtain ⟨a9, c9, he9, _, h9, _⟩ := ho1.sb
    unfold maxLen at h9
    simp only [Value.slice.injEq] at he9
    omega
  have hi1 : (0 : Int) ≤ (C.length : Int) := by omega
  have hi2 : (C.length : Int) ≤ (c : Int) := by omega
  clear ho1 hb1 HFR
  go_wp2_with fail
  refine (HFW.out w1 HB1.out).mono ?_
  rintro e w2 ⟨v1, v2, F, rfl, hq, hw, hb⟩
  have HQ := hide hq
  have HW := hide hw
  have HB2 := hide (HB1.out.trans (hb.mono HB1.out.size))
  have HO2 : Hid (OB w2 w.heap.size (Fe.mk 0 g c C).fv ((Fe.mk 0 g c C).l ++ marks4)) := HO1.out.below hb (Nat.le_refl _)
  have HI2 : Hid (SB w2 (.slice (some ⟨g, 0, none⟩) C.length c) C) := HO2.out.front
  clear hq hw hb HFW
  go_wp2_with fail
  refine (HAY.out _ v1 v2 0 F w2 HQ.out HI2.out HW.out.sw).mono ?_
  rintro e w3 ⟨v3, rfl, ho3, hb3⟩
  obtain ⟨a3, c3, hv3⟩ := ho3.shape
  subst hv3
  have HO3 := hide ho3
  have HB3 := hide hb3
  clear ho3 hb3
  have HBw3 := hide (HB2.out.trans (HB3.out.mono HB2.out.size))
  go_wp2_with fail
  refine (HZY.out w3 HBw3.out).mono ?_
  rintro e w4 ⟨v4, rfl, ho4, hb4⟩
  have HO4 := hide ho4
  have HB4 := hide hb4
  clear ho4 hb4
  have HB24 := hide (HB3.out.trans (HB4.out.mono HB3.out.size))
  go_wp2_with fail
  refine (HAY.out _ v1 v2 0 F w4 HQ.out (HI2.out.below HB24.out) (HW.out.below HB24.out).sw).mono ?_
  rintro e w5 ⟨v5, rfl, ho5, hb5⟩
  obtain ⟨a5, c5, hv5⟩ := ho5.shape
  subst hv5
  have HO5 := hide ho5
  have HB5 := hide hb5
  clear ho5 hb5
  have HSA : Hid (∀ w', Below w5.heap.size w5 w' → Calls Try.prog 13 #[.slice a3 L.length c3, v4] w' fun e w'' => e = .returned (.bool true) ∧ ∃ n, w'' = w'.drewN n) := fun w' hb => by
    have b35 := HB4.out.trans (HB5.out.mono HB4.out.size)
    have := same_any (.slice a3 L.length c3) v4 L L w' ((HO3.out.below b35 (Nat.le_refl _)).below hb (Nat.le_refl _)).sb ((HO4.out.below HB5.out (Nat.le_refl _)).below hb (Nat.le_refl _)).sb
    rw [show eqB L L = true by simp [eqB]] at this
    exact this
  have HSB : Hid (∀ w', Below w5.heap.size w5 w' → Calls Try.prog 13 #[.slice a5 L.length c5, v4] w' fun e w'' => e = .returned (.bool true) ∧ ∃ n, w'' = w'.drewN n) := fun w' hb => by
    have := same_any (.slice a5 L.length c5) v4 L L w' (HO5.out.below hb (Nat.le_refl _)).sb ((HO4.out.below HB5.out (Nat.le_refl _)).below hb (Nat.le_refl _)).sb
    rw [show eqB L L = true by simp [eqB]] at this
    exact this
  go_wp2_with fail
  refine (HSA.out w5 (Below.refl _ _)).mono ?_
  rintro e w6 ⟨rfl, n6, h6⟩
  have HC6 : Hid (Below w5.heap.size w5 w6) := by rw [h6]; exact below_drewN (Below.refl _ _) n6
  clear h6
  go_wp2_with fail
  refine (numb_any _ _).mono ?_
  rintro e w7 ⟨rfl, h7⟩
  rw [h7]
  clear h7 w7
  go_wp2_with fail
  refine (HSB.out w6 HC6.out).mono ?_
  rintro e w7 ⟨rfl, n7, h7⟩
  have HC7 : Hid (Below w5.heap.size w5 w7) := by rw [h7]; exact below_drewN HC6.out n7
  clear h7
  have HAW := hide (apart_walk (w7.alloc (.cells #[.slice a3 L.length c3, .slice a5 L.length c5] 27)) w2.heap.size w7.heap.size 2 (some ⟨w7.heap.size, 0, none⟩) [(.slice a3 L.length c3, L), (.slice a5 L.length c5, L)] (two_lists HO3.out HB4.out HO5.out HB5.out HC7.out HB3.out.size HLN.out 27) (fun _ => rfl))
  go_wp2_with fail
  refine HAW.out.mono ?_
  rintro e w8 ⟨rfl, hk⟩
  have b25 : Below w2.heap.size w2 w5 := HB24.out.trans (HB5.out.mono HB24.out.size)
  have b27 : Below w2.heap.size w2 w7 := b25.trans (HC7.out.mono b25.size)
  have HB28 : Hid (Below w2.heap.size w2 w8) := keep_below (b27.alloc b27.size _) hk (fun p hp k e => by
    simp only [List.mem_cons, List.not_mem_nil, or_false] at hp
    rcases hp with rfl | rfl
    · exact (HO3.out.lt k e).1
    · have := (HO5.out.lt k e).1; have := HB24.out.size; omega)
  have HB08 := hide (HB2.out.trans (HB28.out.mono HB2.out.size))
  clear hk HAW b25 b27 HSA HSB
  have HWH := hide (whole_any (.slice co C.length cco) g c C w8 (HO2.out.below HB28.out (Nat.le_refl _)).sb (HC.out.below HB08.out) (by omega))
  go_wp2_with fail
  refine HWH.out.mono ?_
  rintro e w9 ⟨rfl, n9, h9⟩
  have HB29 : Hid (Below w2.heap.size w2 w9) := by rw [h9]; exact below_drewN HB28.out n9
  have HB09 : Hid (Below w.heap.size w w9) := by rw [h9]; exact below_drewN HB08.out n9
  clear h9 HWH
  go_wp2_with fail
  refine (sameWrites_any v1 v (F.map Fe.we) R w9 (HW.out.below HB29.out).sw (HS.out.low HB09.out) ((prf_we F).trans HQ.out)).mono ?_
  rintro e w10 ⟨rfl, n10, h10⟩
  have HB2a : Hid (Below w2.heap.size w2 w10) := by rw [h10]; exact below_drewN HB29.out n10
  have HB0a : Hid (Below w.heap.size w w10) := by rw [h10]; exact below_drewN HB09.out n10
  clear h10
  go_wp2_with fail
  refine (wholeAll_any v1 v2 v _ R F w10 (HW.out.below HB2a.out) (HS.out.low HB0a.out) HSM.out HQ.out).mono ?_
  rintro e w11 ⟨rfl, n11, h11⟩
  have HB0b : Hid (Below w.heap.size w w11) := by rw [h11]; exact below_drewN HB0a.out n11
  clear h11
  go_wp2
  go_ret
  exact ⟨rfl, HB0b.out⟩
end Go.Proofs.Ytlleajegfeilfaa

