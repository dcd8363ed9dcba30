import Derived.Test.YtkmefeihkmbngaaDoorG09Sqx
namespace Go.Proofs.YtkmefeihkmbngaaDoor
open Go.RowKit Go.Maps
set_option maxRecDepth 20000
set_option linter.unusedVariables false

theorem asnd_bad21 {R : List Tk} {k : Nat} (hk : k < R.length) (h : sndb (R.getD k tk0) = false) : asnd R = false := by
  rw [Bool.eq_false_iff]
  intro ha
  have hm : R.getD k tk0 ∈ R := by rw [List.getD_eq_getElem?_getD, List.getElem?_eq_getElem hk]; exact List.getElem_mem hk
  have := asnd_all ha _ hm
  unfold sndb at h
  exact of_decide_eq_false h this

theorem asnd_mk21 {R : List Tk} (h : ∀ i, i < R.length → sndb (R.getD i tk0) = true) : asnd R = true := by
  unfold asnd
  rw [List.all_eq_true]
  intro t ht
  obtain ⟨i, hi, rfl⟩ := List.getElem_of_mem ht
  have := h i hi
  rwa [List.getD_eq_getElem?_getD, List.getElem?_eq_getElem hi] at this

set_option maxHeartbeats 1000000 in
theorem vPrice_any (v vl vd : Value) (R : List Tk) (L D : List Int) (w : World) (h : SK w v R) (hb : ∀ t ∈ R, Bt t) (h1 : SI w vl L) (h2 : SI w vd D) :
    Calls Tryd.prog 8 #[v, vl, vd] w fun e w' => Prq R L D e ∧ Below w.heap.size w w' := by
  have HBt := hide hb
  have HK := hide h
  have HS1 := hide h1
  have HS2 := hide h2
  have HA1 := hide (vall_any vl L 286 w h1 (by omega))
  have HA2 := hide (vall_any vd D 30 w h2 (by omega))
  have HB0 : Hid (Below w.heap.size w w) := Below.refl _ _
  obtain ⟨ao, cap, rfl, hlc, hcm⟩ := h.open
  obtain ⟨a1, c1, rfl, _, _⟩ := h1.open
  obtain ⟨a2, c2, rfl, _, _⟩ := h2.open
  clear h h1 h2 hb
  by_cases hl : 16777216 < R.length
  · have hl' : (16777216 : Int) < (R.length : Int) := by omega
    have HQ := hide (prq_no (R := R) (L := L) (D := D) (E := 1) (by unfold prE; rw [if_pos hl]) (by decide))
    clear hl
    go_enter Tryd.func8, Tryd.ntmps8
    go_wp2
    go_ret2
    exact ⟨HQ.out, HB0.out⟩
  have hl' : ¬ (16777216 : Int) < (R.length : Int) := by omega
  by_cases hok : okP L 286 = true ∧ okP D 30 = true
  case neg =>
    have HQ := hide (prq_no (R := R) (L := L) (D := D) (E := 210) (by unfold prE; rw [if_neg hl, if_neg hok]) (by decide))
    obtain ⟨B1, hB1⟩ : ∃ B, okP L 286 = B := ⟨_, rfl⟩
    obtain ⟨B2, hB2⟩ : ∃ B, okP D 30 = B := ⟨_, rfl⟩
    rw [hB1] at HA1
    rw [hB2] at HA2
    have hbb : B1 = false ∨ B1 = true ∧ B2 = false := by
      rw [hB1, hB2] at hok
      cases B1 <;> cases B2 <;> simp_all
    clear hok hl hB1 hB2
    rcases hbb with rfl | ⟨rfl, rfl⟩
    · go_enter Tryd.func8, Tryd.ntmps8
      go_wp2_with fail
      refine HA1.out.mono ?_
      rintro e w1 ⟨rfl, hw1⟩
      subst hw1
      go_wp2_with fail
      refine HA2.out.mono ?_
      rintro e w1 ⟨rfl, hw1⟩
      subst hw1
      go_wp2
      go_ret2
      exact ⟨HQ.out, HB0.out⟩
    · go_enter Tryd.func8, Tryd.ntmps8
      go_wp2_with fail
      refine HA1.out.mono ?_
      rintro e w1 ⟨rfl, hw1⟩
      subst hw1
      go_wp2_with fail
      refine HA2.out.mono ?_
      rintro e w1 ⟨rfl, hw1⟩
      subst hw1
      go_wp2
      go_ret2
      exact ⟨HQ.out, HB0.out⟩
  case pos =>
    obtain ⟨ok1, ok2⟩ := hok
    rw [ok1] at HA1
    rw [ok2] at HA2
    have HPE : Hid (prE R L D = if asnd R then 0 else 211) := by show _ = _; unfold prE; rw [if_neg hl, if_pos ⟨ok1, ok2⟩]
    have HO1 := hide ok1
    have HO2 := hide ok2
    have hn : R.length ≤ 16777216 := by omega
    have HBD : Hid (∀ k, 0 ≤ prN (R.take k) L D ∧ prN (R.take k) L D ≤ 400000000000000) := fun k => prn_bd ok1 ok2 (by rw [List.length_take]; omega)
    clear ok1 ok2 hl
    go_enter Tryd.func8, Tryd.ntmps8
    go_wp2_with fail
    refine HA1.out.mono ?_
    rintro e w1 ⟨rfl, hw1⟩
    subst hw1
    go_wp2_with fail
    refine HA2.out.mono ?_
    rintro e w1 ⟨rfl, hw1⟩
    subst hw1
    clear HA1 HA2
    go_wp2
    go_loopw [11, 10] (fun i s wr => ∃ k : Nat, k ≤ R.length ∧ i = .int .i64 (k : Int) ∧ s = .int .i64 (prN (R.take k) L D) ∧ Hid (∀ i, i < k → sndb (R.getD i tk0) = true) ∧ Hid (Below w1.heap.size w1 wr)) (fun i s _ => R.length - (intOf i).toNat)
    case atStart => exact ⟨0, Nat.zero_le _, rfl, by rw [List.take_zero, prn_nil], fun i hi => by omega, HB0⟩
    case round =>
      obtain ⟨k, hk, rfl, rfl, HG, HB⟩ := hrel
      by_cases hlt : k < R.length
      · have hlt' : (k : Int) < (R.length : Int) := by omega
        obtain ⟨b, o, rfl, c0, c1', c2'⟩ := HK.out.get HB.out hlt
        have hm : R.getD k tk0 ∈ R := by rw [List.getD_eq_getElem?_getD, List.getElem?_eq_getElem hlt]; exact List.getElem_mem hlt
        have HNX := hide (fun h => prn_take (L := L) (D := D) hlt h (okP_parts HO1.out).1 (okP_parts HO2.out).1)
        have HBA := hide (fun h => asnd_bad21 hlt h)
        have hbt := HBt.out _ hm
        have q1 := HBD.out k
        have q2 := HBD.out (k + 1)
        have HG2 : Hid (sndb (R.getD k tk0) = true → ∀ i, i < k + 1 → sndb (R.getD i tk0) = true) := fun h i hi => by
          rcases Nat.lt_or_ge i k with g | g
          · exact HG.out i g
          · obtain rfl : i = k := by omega
            exact h
        obtain ⟨⟨t1, t2, t3⟩, ht⟩ : ∃ t, R.getD k tk0 = t := ⟨_, rfl⟩
        rw [ht] at c0 c1' c2' hbt HNX HBA HG2
        simp only at c0 c1' c2'
        have HVC := hide (vcost_any t1 t2 t3 _ _ L D wr hbt (HS1.out.below HB.out) (HS2.out.below HB.out) HO1.out HO2.out)
        by_cases hs : sndb (t1, t2, t3) = true
        · have hE : tkE (t1, t2, t3) = 0 := by unfold tkE; rw [if_pos hs]
          have hC : prN (R.take (k + 1)) L D = prN (R.take k) L D + tkC L D (t1, t2, t3) := by
            rw [HNX.out ⟨by unfold sndb at hs; exact of_decide_eq_true hs, hbt⟩]
            unfold tkC
            rw [if_pos hs]
          have HG3 := hide (HG2.out hs)
          rw [hE] at HVC
          obtain ⟨s, hs0⟩ : ∃ s, prN (R.take k) L D = s := ⟨_, rfl⟩
          obtain ⟨c, hc0⟩ : ∃ s, tkC L D (t1, t2, t3) = s := ⟨_, rfl⟩
          rw [hs0, hc0] at hC
          rw [hs0] at q1 ⊢
          rw [hC] at q2
          rw [hc0] at HVC
          have hwr : wrap64 (s + c) = s + c := by unfold wrap64; omega
          have HC := hide hC
          clear hE hs hC HG2 HNX HBA hbt hm ht hs0 hc0 q1 q2
          go_wp2_with fail
          refine HVC.out.mono ?_
          rintro e w2 ⟨rfl, b2⟩
          have HB2 := hide (HB.out.trans (b2.mono HB.out.size))
          clear b2 HVC
          go_wp2
          go_roundw
          case rel => exact ⟨k + 1, by omega, by go_num, by rw [HC.out, hwr], HG3, HB2⟩
          case measure => simp [intOf]; omega
        · have hsf : sndb (t1, t2, t3) = false := by simpa using hs
          have hE : tkE (t1, t2, t3) = 211 := by unfold tkE; rw [if_neg hs]
          have hC : tkC L D (t1, t2, t3) = 0 := by unfold tkC; rw [if_neg hs]
          have ha : asnd R = false := HBA.out hsf
          have HQ := hide (prq_no (R := R) (L := L) (D := D) (E := 211) (by rw [HPE.out, ha]; rfl) (by decide))
          rw [hE, hC] at HVC
          clear hE hC hs hsf ha HG2 HNX HBA hbt hm ht q1 q2
          go_wp2_with fail
          refine HVC.out.mono ?_
          rintro e w2 ⟨rfl, b2⟩
          have HB2 := hide (HB.out.trans (b2.mono HB.out.size))
          clear b2 HVC
          go_wp2
          go_ret2
          exact ⟨HQ.out, HB2.out⟩
      · obtain rfl : k = R.length := by omega
        have hlt' : ¬ (R.length : Int) < (R.length : Int) := by omega
        have ha : asnd R = true := asnd_mk21 HG.out
        have HQ : Hid (Prq R L D (.returned (.tuple #[.int .i64 (prN (R.take R.length) L D), .int .i64 0]))) := by
          show Prq _ _ _ _
          have hpE : prE R L D = 0 := by rw [HPE.out, ha]; rfl
          unfold Prq prV
          rw [hpE, if_pos rfl, List.take_of_length_le (Nat.le_refl _)]
        obtain ⟨s, hs0⟩ : ∃ s, prN (R.take R.length) L D = s := ⟨_, rfl⟩
        rw [hs0] at HQ ⊢
        clear ha hs0
        go_wp2
        go_ret2
        exact ⟨HQ.out, HB.out⟩
end Go.Proofs.YtkmefeihkmbngaaDoor

