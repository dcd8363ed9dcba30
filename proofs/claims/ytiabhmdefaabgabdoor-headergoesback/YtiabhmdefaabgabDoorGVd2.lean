import Derived.Test.YtiabhmdefaabgabDoorGVd1
namespace Go.Proofs.YtiabhmdefaabgabDoor
open Go.RowKit Go.Maps
set_option maxRecDepth 20000
set_option linter.unusedVariables false

theorem sums_app (a b : List Int) : usum (a ++ b) = usum a + usum b ∧ tsum (a ++ b) = tsum a + tsum b := by simp [usum, tsum]
theorem sums_zero {l : List Int} (h : ∀ x ∈ l, x = 0) : usum l = 0 ∧ tsum l = 0 := by
  induction l with
  | nil => exact ⟨rfl, rfl⟩
  | cons a l ih =>
    obtain ⟨i1, i2⟩ := ih fun x hx => h x (List.mem_cons_of_mem _ hx)
    have := h a List.mem_cons_self
    subst this
    simp only [usum, tsum, List.map_cons, List.sum_cons] at i1 i2 ⊢
    rw [i1, i2]
    exact ⟨rfl, rfl⟩
theorem tsum_usum {l : List Int} (h : tsum l = 0) : usum l = 0 := by
  induction l with
  | nil => rfl
  | cons a l ih =>
    simp only [usum, tsum, List.map_cons, List.sum_cons] at h ih ⊢
    have h1 : one a = 0 := by omega
    have h2 := ih (by omega)
    rw [h2]
    unfold one at h1
    unfold wt
    split at h1
    · omega
    · rename_i q; rw [if_neg q]

theorem trm_sums (l : List Int) (f : Nat) : usum (trm l f) = usum l ∧ tsum (trm l f) = tsum l := by
  have hle := tln_le l f
  obtain ⟨z1, z2⟩ := sums_zero (l := List.replicate (f - tln l f) 0) (fun x hx => (List.mem_replicate.1 hx).2)
  obtain ⟨y1, y2⟩ := sums_zero (l := l.drop (tln l f)) (fun x hx => by
    obtain ⟨i, hi, rfl⟩ := List.getElem_of_mem hx
    rw [List.length_drop] at hi
    have := tl_zero l f l.length (tln l f + i) (by unfold tln; omega) (by omega)
    rw [List.getElem_drop]
    rw [List.getD_eq_getElem?_getD, List.getElem?_eq_getElem (by omega)] at this
    simpa using this)
  have e : l = l.take (tln l f) ++ l.drop (tln l f) := (List.take_append_drop _ _).symm
  obtain ⟨a1, a2⟩ := sums_app (l.take (tln l f)) (List.replicate (f - tln l f) 0)
  obtain ⟨b1, b2⟩ := sums_app (l.take (tln l f)) (l.drop (tln l f))
  rw [← e] at b1 b2
  unfold trm
  omega

theorem trm_lens2 {l : List Int} {f : Nat} (hl : l.length ≤ 286) (hf : f ≤ 257) (h : ∀ x ∈ l, 0 ≤ x ∧ x ≤ 15) : Lens (trm l f) := by
  have := trm_lens (l := l) hl hf
  exact ⟨by omega, trm_all l f h⟩

theorem shp_ful {l : List Int} : (shp l = 4 ∨ shp l = 1) ↔ ful l = true := by
  unfold shp ful
  rw [decide_eq_true_iff]
  by_cases c0 : tsum l = 0
  · rw [if_pos c0]
    have := tsum_usum c0
    omega
  · rw [if_neg c0]
    by_cases c1 : tsum l = 1 ∧ usum l = 16384
    · rw [if_pos c1]
      omega
    · rw [if_neg c1]
      by_cases c2 : 32768 < usum l
      · rw [if_pos c2]; omega
      · rw [if_neg c2]
        by_cases c3 : usum l = 32768
        · rw [if_pos c3]; omega
        · rw [if_neg c3]; omega
theorem shp_zero {l : List Int} : shp l = 0 ↔ tsum l = 0 := by
  unfold shp
  by_cases c0 : tsum l = 0
  · rw [if_pos c0]; simp [c0]
  · rw [if_neg c0]
    constructor
    · intro h
      split at h
      · omega
      · split at h
        · omega
        · split at h <;> omega
    · intro h; exact absurd h c0

theorem chkS_trm {l : List Int} {f : Nat} (hl : l.length ≤ 286) (hf : f ≤ 257) (h : ∀ x ∈ l, 0 ≤ x ∧ x ≤ 15) : chkS (trm l f) = shp l := by
  unfold chkS
  rw [if_pos (trm_lens2 hl hf h)]
  obtain ⟨a, b⟩ := trm_sums l f
  unfold shp
  rw [a, b]

/-- Make refuses just what Kraft's sum refuses. -/
theorem vd_mk (l d : List Int) : mkE l d = vdE l d := by
  unfold mkE vdE
  by_cases hb : 286 < l.length ∨ 30 < d.length ∨ wthb l = false ∨ wthb d = false
  · rw [if_pos hb, if_pos hb]
  · rw [if_neg hb, if_neg hb]
    have w1 : wthb l = true := by cases q : wthb l with
      | true => rfl
      | false => exact absurd (.inr (.inr (.inl q))) hb
    have w2 : wthb d = true := by cases q : wthb d with
      | true => rfl
      | false => exact absurd (.inr (.inr (.inr q))) hb
    have e1 : chkS (mkL l) = shp l := chkS_trm (by omega) (by omega) (wth_iff.1 w1)
    have e2 : chkS (mkD d) = shp d := chkS_trm (by omega) (by omega) (wth_iff.1 w2)
    have e3 : (mkL l).getD 256 0 = l.getD 256 0 := trm_getD l 257 256
    unfold hck
    rw [e1, e2, e3]
    have f1 := shp_ful (l := l)
    have f2 := shp_ful (l := d)
    have f3 := shp_zero (l := d)
    have hz : l.length < 257 → l.getD 256 0 = 0 := fun h => by rw [List.getD_eq_getElem?_getD, List.getElem?_eq_none (by omega)]; rfl
    by_cases c : l.length < 257 ∨ l.getD 256 0 = 0 ∨ ful l = false
    · rw [if_pos c, if_pos]
      rcases c with c | c | c
      · exact .inl (hz c)
      · exact .inl c
      · refine .inr ?_
        have : ¬ (shp l = 4 ∨ shp l = 1) := fun q => by rw [f1.1 q] at c; cases c
        omega
    · rw [if_neg c, if_neg]
      · by_cases t : 0 < tsum d ∧ ful d = false
        · rw [if_pos t, if_pos]
          have : ¬ (shp d = 4 ∨ shp d = 1) := fun q => by rw [f2.1 q] at t; exact absurd t.2 (by decide)
          have : ¬ shp d = 0 := fun q => by have := f3.1 q; omega
          omega
        · rw [if_neg t, if_neg]
          intro q
          refine t ⟨?_, ?_⟩
          · have : ¬ tsum d = 0 := fun z => by have := f3.2 z; omega
            omega
          · cases h : ful d with
            | false => rfl
            | true => have := f2.2 h; omega
      · rintro (q | q)
        · exact c (.inr (.inl q))
        · have : ful l = false := by
            cases h : ful l with
            | false => rfl
            | true => have := f1.2 h; omega
          exact c (.inr (.inr this))

set_option maxHeartbeats 2000000 in
theorem verdict_any (v1 v2 : Value) (l d : List Int) (w : World) (s1 : SI w v1 l) (s2 : SI w v2 d) :
    Calls Tryd.prog 9 #[v1, v2] w fun e w' => e = .returned (.int .i64 (vdE l d)) ∧ w' = w := by
  have H1 := hide s1
  have H2 := hide s2
  obtain ⟨a1, c1, rfl, hc1, hd1⟩ := s1.open
  obtain ⟨a2, c2, rfl, hc2, hd2⟩ := s2.open
  clear s1 s2
  have HV : Hid (vdE l d = if 286 < l.length ∨ 30 < d.length ∨ wthb l = false ∨ wthb d = false then 1 else if l.length < 257 ∨ l.getD 256 0 = 0 ∨ ful l = false then 75 else if 0 < tsum d ∧ ful d = false then 76 else 0) := rfl
  have HW1 := hide (within_any _ l w H1.out)
  have HW2 := hide (within_any _ d w H2.out)
  by_cases g1 : 286 < l.length
  · have g1' : (286 : Int) < (l.length : Int) := by omega
    have HR : Hid (vdE l d = 1) := by show _ = _; rw [HV.out, if_pos (.inl g1)]
    go_enter Tryd.func9, Tryd.ntmps9
    go_wp2
    go_ret
    rw [HR.out]
    exact ⟨rfl, rfl⟩
  have g1' : ¬ (286 : Int) < (l.length : Int) := by omega
  by_cases g2 : 30 < d.length
  · have g2' : (30 : Int) < (d.length : Int) := by omega
    have HR : Hid (vdE l d = 1) := by show _ = _; rw [HV.out, if_pos (.inr (.inl g2))]
    go_enter Tryd.func9, Tryd.ntmps9
    go_wp2
    go_ret
    rw [HR.out]
    exact ⟨rfl, rfl⟩
  have g2' : ¬ (30 : Int) < (d.length : Int) := by omega
  cases g3 : wthb l with
  | false =>
    have HR : Hid (vdE l d = 1) := by show _ = _; rw [HV.out, if_pos (.inr (.inr (.inl g3)))]
    rw [g3] at HW1
    go_enter Tryd.func9, Tryd.ntmps9
    go_wp2_with fail
    refine HW1.out.mono ?_
    rintro e w1 ⟨rfl, hw1⟩
    subst hw1
    go_wp2
    go_ret
    rw [HR.out]
    exact ⟨rfl, rfl⟩
  | true =>
    cases g4 : wthb d with
    | false =>
      have HR : Hid (vdE l d = 1) := by show _ = _; rw [HV.out, if_pos (.inr (.inr (.inr g4)))]
      rw [g3] at HW1
      rw [g4] at HW2
      go_enter Tryd.func9, Tryd.ntmps9
      go_wp2_with fail
      refine HW1.out.mono ?_
      rintro e w1 ⟨rfl, hw1⟩
      rw [hw1]
      go_wp2_with fail
      refine HW2.out.mono ?_
      rintro e w2 ⟨rfl, hw2⟩
      rw [hw2]
      go_wp2
      go_ret
      rw [HR.out]
      exact ⟨rfl, rfl⟩
    | true =>
      have HV2 : Hid (vdE l d = if l.length < 257 ∨ l.getD 256 0 = 0 ∨ ful l = false then 75 else if 0 < tsum d ∧ ful d = false then 76 else 0) := by
        show _ = _
        rw [HV.out, if_neg]
        rintro (q | q | q | q)
        · exact g1 q
        · exact g2 q
        · rw [g3] at q; cases q
        · rw [g4] at q; cases q
      rw [g3] at HW1
      rw [g4] at HW2
      have HF1 := hide (full_any _ l w H1.out (wth_iff.1 g3) (by omega))
      have HF2 := hide (full_any _ d w H2.out (wth_iff.1 g4) (by omega))
      have HK2 := hide (lkraft_any _ d w H2.out (wth_iff.1 g4) (by omega))
      obtain ⟨FL, HFL⟩ : ∃ x, Hid (x = ful l) := ⟨_, rfl⟩
      obtain ⟨FD, HFD⟩ : ∃ x, Hid (x = ful d) := ⟨_, rfl⟩
      obtain ⟨U, HUU⟩ : ∃ U, Hid (U = usum d) := ⟨_, rfl⟩
      obtain ⟨N, HNN⟩ : ∃ N, Hid (N = tsum d) := ⟨_, rfl⟩
      rw [← HFL.out, ← HFD.out, ← HNN.out] at HV2
      rw [← HFL.out] at HF1
      rw [← HFD.out] at HF2
      rw [← HUU.out, ← HNN.out] at HK2
      clear g3 g4 HV
      by_cases h257 : l.length < 257
      · have h257' : (l.length : Int) < 257 := by omega
        have HR : Hid (vdE l d = 75) := by show _ = _; rw [HV2.out, if_pos (.inl h257)]
        go_enter Tryd.func9, Tryd.ntmps9
        go_wp2_with fail
        refine HW1.out.mono ?_
        rintro e w1 ⟨rfl, hw1⟩
        rw [hw1]
        go_wp2_with fail
        refine HW2.out.mono ?_
        rintro e w2 ⟨rfl, hw2⟩
        rw [hw2]
        go_wp2
        go_ret
        rw [HR.out]
        exact ⟨rfl, rfl⟩
      have h257' : ¬ (l.length : Int) < 257 := by omega
      have h256 : (256 : Int) < (l.length : Int) := by omega
      obtain ⟨b, o, rfl, hc⟩ := H1.out.get (Below.refl _ _) (k := 256) (by omega)
      obtain ⟨y, HY⟩ : ∃ y, Hid (y = l.getD 256 0) := ⟨_, rfl⟩
      rw [← HY.out] at hc HV2
      go_enter Tryd.func9, Tryd.ntmps9
      go_wp2_with fail
      refine HW1.out.mono ?_
      rintro e w1 ⟨rfl, hw1⟩
      rw [hw1]
      clear hw1
      go_wp2_with fail
      refine HW2.out.mono ?_
      rintro e w2 ⟨rfl, hw2⟩
      rw [hw2]
      clear hw2
      by_cases y0 : y = 0
      · have HR : Hid (vdE l d = 75) := by show _ = _; rw [HV2.out, if_pos (.inr (.inl y0))]
        subst y0
        go_wp2
        go_ret
        rw [HR.out]
        exact ⟨rfl, rfl⟩
      · have y0' : (y == 0) = false := by simpa using y0
        go_wp2_with fail
        refine HF1.out.mono ?_
        rintro e w3 ⟨rfl, hw3⟩
        rw [hw3]
        clear hw3
        cases FL with
        | false =>
          have HR : Hid (vdE l d = 75) := by show _ = _; rw [HV2.out, if_pos (.inr (.inr rfl))]
          go_wp2
          go_ret
          rw [HR.out]
          exact ⟨rfl, rfl⟩
        | true =>
          have HV3 : Hid (vdE l d = if 0 < N ∧ FD = false then 76 else 0) := by
            show _ = _
            rw [HV2.out, if_neg]
            rintro (q | q | q)
            · exact h257 q
            · exact y0 q
            · cases q
          go_wp2_with fail
          refine HK2.out.mono ?_
          rintro e w4 ⟨rfl, hw4⟩
          rw [hw4]
          clear hw4
          by_cases n0 : 0 < N
          · have n0' : (0 : Int) < (N : Int) := by omega
            go_wp2_with fail
            refine HF2.out.mono ?_
            rintro e w5 ⟨rfl, hw5⟩
            rw [hw5]
            clear hw5
            cases FD with
            | false =>
              have HR : Hid (vdE l d = 76) := by show _ = _; rw [HV3.out, if_pos ⟨n0, rfl⟩]
              go_wp2
              go_ret
              rw [HR.out]
              exact ⟨rfl, rfl⟩
            | true =>
              have HR : Hid (vdE l d = 0) := by show _ = _; rw [HV3.out, if_neg (by simp)]
              go_wp2
              go_ret
              rw [HR.out]
              exact ⟨rfl, rfl⟩
          · have n0' : ¬ (0 : Int) < (N : Int) := by omega
            have HR : Hid (vdE l d = 0) := by show _ = _; rw [HV3.out, if_neg (fun q => n0 q.1)]
            go_wp2
            go_ret
            rw [HR.out]
            exact ⟨rfl, rfl⟩
end Go.Proofs.YtiabhmdefaabgabDoor

