import Derived.Test.YtegoienjikjhkaaDoorGMk5
import Derived.Test.YtegoienjikjhkaaDoorGA28
namespace Go.Proofs.YtegoienjikjhkaaDoor
open Go.RowKit Go.Maps
set_option maxRecDepth 20000
set_option linter.unusedVariables false

theorem shr_div : ∀ y : Fin 16, (32768 : Int) / 2 ^ y.val = ((2 ^ (15 - y.val) : Nat) : Int) := by decide

theorem sums_snoc {l : List Int} {k : Nat} (h : k < l.length) : usum (l.take (k + 1)) = usum (l.take k) + wt (l.getD k 0) ∧ tsum (l.take (k + 1)) = tsum (l.take k) + one (l.getD k 0) := by
  have e : l.take (k + 1) = l.take k ++ [l.getD k 0] := by rw [List.take_succ_eq_append_getElem h]; simp [h]
  rw [e]
  simp [usum, tsum]

theorem sums_le (l : List Int) : usum l ≤ l.length * 32768 ∧ tsum l ≤ l.length := by
  induction l with
  | nil => simp [usum, tsum]
  | cons a l ih =>
    have h1 : wt a ≤ 32768 := by
      unfold wt
      split
      · exact Nat.pow_le_pow_right (n := 2) (by decide) (show 15 - a.toNat ≤ 15 by omega)
      · omega
    have h2 : one a ≤ 1 := by unfold one; split <;> omega
    simp only [usum, tsum, List.map_cons, List.sum_cons, List.length_cons] at ih ⊢
    omega

set_option maxHeartbeats 1000000 in
theorem lkraft_any (v : Value) (l : List Int) (w : World) (h : SI w v l) (hl : ∀ x ∈ l, 0 ≤ x ∧ x ≤ 15) (hn : l.length ≤ 1000000) :
    Calls Tryd.prog 21 #[v] w fun e w' => e = .returned (.tuple #[.int .i64 (usum l : Nat), .int .i64 (tsum l : Nat)]) ∧ w' = w := by
  have HS := hide h
  have HL := hide hl
  obtain ⟨ao, cap, rfl, hlc, hcm⟩ := h.open
  clear h hl
  go_enter Tryd.func21, Tryd.ntmps21
  go_wp2
  go_loopw [4, 5, 6] (fun s n i wr => ∃ k : Nat, k ≤ l.length ∧ i = .int .i64 k ∧ s = .int .i64 (usum (l.take k) : Nat) ∧ n = .int .i64 (tsum (l.take k) : Nat) ∧ wr = w) (fun _ _ i _ => l.length - (intOf i).toNat)
  case atStart => exact ⟨0, Nat.zero_le _, rfl, rfl, rfl, rfl⟩
  case round =>
    obtain ⟨k, hk, rfl, rfl, rfl, hw⟩ := hrel
    subst hw
    by_cases hlt : k < l.length
    · have hlt' : (k : Int) < (l.length : Int) := by omega
      obtain ⟨b, o, rfl, hc⟩ := HS.out.get (Below.refl _ _) hlt
      have hb := HL.out (l.getD k 0) (by rw [show l.getD k 0 = l[k] by simp [hlt]]; exact List.getElem_mem hlt)
      have HU := hide (sums_snoc hlt)
      have hbd := sums_le (l.take k)
      have hbl : (l.take k).length ≤ 1000000 := by rw [List.length_take]; omega
      obtain ⟨y', hy⟩ : ∃ y, y = l.getD k 0 := ⟨_, rfl⟩
      rw [← hy] at hc hb HU
      obtain ⟨y, rfl⟩ := Int.eq_ofNat_of_zero_le hb.1
      have hy15 : y < 16 := by omega
      obtain ⟨U, HUU⟩ : ∃ U, Hid (U = usum (l.take k)) := ⟨_, rfl⟩
      obtain ⟨N, HNN⟩ : ∃ N, Hid (N = tsum (l.take k)) := ⟨_, rfl⟩
      rw [← HUU.out, ← HNN.out] at HU hbd ⊢
      have hU : U ≤ 32768000000 := by omega
      have hN : N ≤ 1000000 := by omega
      clear hy hb hbd
      by_cases y0 : y = 0
      · subst y0
        have HU2 : Hid (usum (l.take (k + 1)) = U ∧ tsum (l.take (k + 1)) = N) := by rw [HU.out.1, HU.out.2]; exact hide ⟨rfl, rfl⟩
        go_wp2
        go_roundw
        case rel => exact ⟨k + 1, by omega, by go_num, by rw [HU2.out.1], by rw [HU2.out.2], trivial⟩
        case measure => simp [intOf]; omega
      · have y0' : (0 : Int) < (y : Int) := by omega
        have HU2 : Hid (usum (l.take (k + 1)) = U + 2 ^ (15 - y) ∧ tsum (l.take (k + 1)) = N + 1) := by
          rw [HU.out.1, HU.out.2]
          unfold wt one
          rw [if_pos (by omega), if_pos (by omega)]
          exact hide ⟨rfl, rfl⟩
        have hsh : (32768 : Int) / 2 ^ y = ((2 ^ (15 - y) : Nat) : Int) := shr_div ⟨y, hy15⟩
        have hp : 2 ^ (15 - y) ≤ 32768 := Nat.pow_le_pow_right (n := 2) (by decide) (show 15 - y ≤ 15 by omega)
        obtain ⟨p, HP⟩ : ∃ p : Nat, Hid (p = 2 ^ (15 - y)) := ⟨_, rfl⟩
        rw [← HP.out] at HU2 hsh hp
        go_wp2
        go_roundw
        case rel => exact ⟨k + 1, by omega, by go_num, by rw [HU2.out.1]; go_num, by rw [HU2.out.2]; go_num, trivial⟩
        case measure => simp [intOf]; omega
    · obtain rfl : k = l.length := by omega
      have hlt' : ¬ (l.length : Int) < (l.length : Int) := by omega
      have HF : Hid (l.take l.length = l) := List.take_of_length_le (Nat.le_refl _)
      go_wp2
      go_ret2
      (try rw [HF.out])
      exact ⟨rfl, rfl⟩

/-- Is the code complete, or a single word of one bit? -/
def ful (l : List Int) : Bool := decide (usum l = 32768 ∨ (tsum l = 1 ∧ usum l = 16384))

theorem full_any (v : Value) (l : List Int) (w : World) (h : SI w v l) (hl : ∀ x ∈ l, 0 ≤ x ∧ x ≤ 15) (hn : l.length ≤ 1000000) :
    Calls Tryd.prog 20 #[v] w fun e w' => e = .returned (.bool (ful l)) ∧ w' = w := by
  have HK := hide (lkraft_any v l w h hl hn)
  obtain ⟨ao, cap, rfl, hlc, hcm⟩ := h.open
  have HF : Hid (ful l = decide (usum l = 32768 ∨ (tsum l = 1 ∧ usum l = 16384))) := rfl
  obtain ⟨U, HUU⟩ : ∃ U, Hid (U = usum l) := ⟨_, rfl⟩
  obtain ⟨N, HNN⟩ : ∃ N, Hid (N = tsum l) := ⟨_, rfl⟩
  rw [← HUU.out, ← HNN.out] at HK HF
  clear h hl
  go_enter Tryd.func20, Tryd.ntmps20
  go_wp2_with fail
  refine HK.out.mono ?_
  rintro e w1 ⟨rfl, hw1⟩
  subst hw1
  by_cases u : U = 32768
  · have u' : ((U : Int) == 32768) = true := by simp; omega
    have HR : Hid (ful l = true) := by show _ = _; rw [HF.out]; exact decide_eq_true (.inl u)
    clear u
    go_wp2
    go_ret
    rw [HR.out]
    exact ⟨rfl, rfl⟩
  · have u' : ((U : Int) == 32768) = false := by simp; omega
    by_cases n : N = 1
    · have n' : ((N : Int) == 1) = true := by simp; omega
      by_cases u2 : U = 16384
      · have u2' : ((U : Int) == 16384) = true := by simp; omega
        have HR : Hid (ful l = true) := by show _ = _; rw [HF.out]; exact decide_eq_true (.inr ⟨n, u2⟩)
        clear u n u2
        go_wp2
        go_ret
        rw [HR.out]
        exact ⟨rfl, rfl⟩
      · have u2' : ((U : Int) == 16384) = false := by simp; omega
        have HR : Hid (ful l = false) := by show _ = _; rw [HF.out]; exact decide_eq_false (by omega)
        clear u n u2
        go_wp2
        go_ret
        rw [HR.out]
        exact ⟨rfl, rfl⟩
    · have n' : ((N : Int) == 1) = false := by simp; omega
      have HR : Hid (ful l = false) := by show _ = _; rw [HF.out]; exact decide_eq_false (by omega)
      clear u n
      go_wp2
      go_ret
      rw [HR.out]
      exact ⟨rfl, rfl⟩

/-- The error that Make must answer, by Kraft's sum alone. -/
def vdE (l d : List Int) : Int := if 286 < l.length ∨ 30 < d.length ∨ wthb l = false ∨ wthb d = false then 1 else if l.length < 257 ∨ l.getD 256 0 = 0 ∨ ful l = false then 75 else if 0 < tsum d ∧ ful d = false then 76 else 0
end Go.Proofs.YtegoienjikjhkaaDoor

namespace Go.Proofs.YtegoienjikjhkaaDoor
open Go.RowKit Go.Maps
set_option maxRecDepth 20000
set_option linter.unusedVariables false

theorem sums_app (a b : List Int) : usum (a ++ b) = usum a + usum b ∧ tsum (a ++ b) = tsum a + tsum b := by simp [usum, tsum]
theorem sums_zero {l : List Int} (h : ∀ x ∈ l, x = 0) : usum l = 0 ∧ tsum l = 0 := by
  induction l with
  | nil => exact ⟨rfl, rfl⟩
  | cons a l ih =>
    obtain ⟨i1, i2⟩ := ih fun x hx => h x (List.mem_cons_of_mem _ hx)
    have := h a List.mem_cons_self
    subst this
    simp only [usum, tsum, List.map_cons, List.sum_cons] at i1 i2 ⊢
    rw [i1, i2]
    exact ⟨rfl, rfl⟩
theorem tsum_usum {l : List Int} (h : tsum l = 0) : usum l = 0 := by
  induction l with
  | nil => rfl
  | cons a l ih =>
    simp only [usum, tsum, List.map_cons, List.sum_cons] at h ih ⊢
    have h1 : one a = 0 := by omega
    have h2 := ih (by omega)
    rw [h2]
    unfold one at h1
    unfold wt
    split at h1
    · omega
    · rename_i q; rw [if_neg q]

theorem trm_sums (l : List Int) (f : Nat) : usum (trm l f) = usum l ∧ tsum (trm l f) = tsum l := by
  have hle := tln_le l f
  obtain ⟨z1, z2⟩ := sums_zero (l := List.replicate (f - tln l f) 0) (fun x hx => (List.mem_replicate.1 hx).2)
  obtain ⟨y1, y2⟩ := sums_zero (l := l.drop (tln l f)) (fun x hx => by
    obtain ⟨i, hi, rfl⟩ := List.getElem_of_mem hx
    rw [List.length_drop] at hi
    have := tl_zero l f l.length (tln l f + i) (by unfold tln; omega) (by omega)
    rw [List.getElem_drop]
    rw [List.getD_eq_getElem?_getD, List.getElem?_eq_getElem (by omega)] at this
    simpa using this)
  have e : l = l.take (tln l f) ++ l.drop (tln l f) := (List.take_append_drop _ _).symm
  obtain ⟨a1, a2⟩ := sums_app (l.take (tln l f)) (List.replicate (f - tln l f) 0)
  obtain ⟨b1, b2⟩ := sums_app (l.take (tln l f)) (l.drop (tln l f))
  rw [← e] at b1 b2
  unfold trm
  omega

theorem trm_lens2 {l : List Int} {f : Nat} (hl : l.length ≤ 286) (hf : f ≤ 257) (h : ∀ x ∈ l, 0 ≤ x ∧ x ≤ 15) : Lens (trm l f) := by
  have := trm_lens (l := l) hl hf
  exact ⟨by omega, trm_all l f h⟩

theorem shp_ful {l : List Int} : (shp l = 4 ∨ shp l = 1) ↔ ful l = true := by
  unfold shp ful
  rw [decide_eq_true_iff]
  by_cases c0 : tsum l = 0
  · rw [if_pos c0]
    have := tsum_usum c0
    omega
  · rw [if_neg c0]
    by_cases c1 : tsum l = 1 ∧ usum l = 16384
    · rw [if_pos c1]
      omega
    · rw [if_neg c1]
      by_cases c2 : 32768 < usum l
      · rw [if_pos c2]; omega
      · rw [if_neg c2]
        by_cases c3 : usum l = 32768
        · rw [if_pos c3]; omega
        · rw [if_neg c3]; omega
theorem shp_zero {l : List Int} : shp l = 0 ↔ tsum l = 0 := by
  unfold shp
  by_cases c0 : tsum l = 0
  · rw [if_pos c0]; simp [c0]
  · rw [if_neg c0]
    constructor
    · intro h
      split at h
      · omega
      · split at h
        · omega
        · split at h <;> omega
    · intro h; exact absurd h c0

theorem chkS_trm {l : List Int} {f : Nat} (hl : l.length ≤ 286) (hf : f ≤ 257) (h : ∀ x ∈ l, 0 ≤ x ∧ x ≤ 15) : chkS (trm l f) = shp l := by
  unfold chkS
  rw [if_pos (trm_lens2 hl hf h)]
  obtain ⟨a, b⟩ := trm_sums l f
  unfold shp
  rw [a, b]

/-- Make refuses just what Kraft's sum refuses. -/
theorem vd_mk (l d : List Int) : mkE l d = vdE l d := by
  unfold mkE vdE
  by_cases hb : 286 < l.length ∨ 30 < d.length ∨ wthb l = false ∨ wthb d = false
  · rw [if_pos hb, if_pos hb]
  · rw [if_neg hb, if_neg hb]
    have w1 : wthb l = true := by cases q : wthb l with
      | true => rfl
      | false => exact absurd (.inr (.inr (.inl q))) hb
    have w2 : wthb d = true := by cases q : wthb d with
      | true => rfl
      | false => exact absurd (.inr (.inr (.inr q))) hb
    have e1 : chkS (mkL l) = shp l := chkS_trm (by omega) (by omega) (wth_iff.1 w1)
    have e2 : chkS (mkD d) = shp d := chkS_trm (by omega) (by omega) (wth_iff.1 w2)
    have e3 : (mkL l).getD 256 0 = l.getD 256 0 := trm_getD l 257 256
    unfold hck
    rw [e1, e2, e3]
    have f1 := shp_ful (l := l)
    have f2 := shp_ful (l := d)
    have f3 := shp_zero (l := d)
    have hz : l.length < 257 → l.getD 256 0 = 0 := fun h => by rw [List.getD_eq_getElem?_getD, List.getElem?_eq_none (by omega)]; rfl
    by_cases c : l.length < 257 ∨ l.getD 256 0 = 0 ∨ ful l = false
    · rw [if_pos c, if_pos]
      rcases c with c | c | c
      · exact .inl (hz c)
      · exact .inl c
      · refine .inr ?_
        have : ¬ (shp l = 4 ∨ shp l = 1) := fun q => by rw [f1.1 q] at c; cases c
        omega
    · rw [if_neg c, if_neg]
      · by_cases t : 0 < tsum d ∧ ful d = false
        · rw [if_pos t, if_pos]
          have : ¬ (shp d = 4 ∨ shp d = 1) := fun q => by rw [f2.1 q] at t; exact absurd t.2 (by decide)
          have : ¬ shp d = 0 := fun q => by have := f3.1 q; omega
          omega
        · rw [if_neg t, if_neg]
          intro q
          refine t ⟨?_, ?_⟩
          · have : ¬ tsum d = 0 := fun z => by have := f3.2 z; omega
            omega
          · cases h : ful d with
            | false => rfl
            | true => have := f2.2 h; omega
      · rintro (q | q)
        · exact c (.inr (.inl q))
        · have : ful l = false := by
            cases h : ful l with
            | false => rfl
            | true => have := f1.2 h; omega
          exact c (.inr (.inr this))

set_option maxHeartbeats 2000000 in
theorem verdict_any (v1 v2 : Value) (l d : List Int) (w : World) (s1 : SI w v1 l) (s2 : SI w v2 d) :
    Calls Tryd.prog 4 #[v1, v2] w fun e w' => e = .returned (.int .i64 (vdE l d)) ∧ w' = w := by
  have H1 := hide s1
  have H2 := hide s2
  obtain ⟨a1, c1, rfl, hc1, hd1⟩ := s1.open
  obtain ⟨a2, c2, rfl, hc2, hd2⟩ := s2.open
  clear s1 s2
  have HV : Hid (vdE l d = if 286 < l.length ∨ 30 < d.length ∨ wthb l = false ∨ wthb d = false then 1 else if l.length < 257 ∨ l.getD 256 0 = 0 ∨ ful l = false then 75 else if 0 < tsum d ∧ ful d = false then 76 else 0) := rfl
  have HW1 := hide (within_any _ l w H1.out)
  have HW2 := hide (within_any _ d w H2.out)
  by_cases g1 : 286 < l.length
  · have g1' : (286 : Int) < (l.length : Int) := by omega
    have HR : Hid (vdE l d = 1) := by show _ = _; rw [HV.out, if_pos (.inl g1)]
    go_enter Tryd.func4, Tryd.ntmps4
    go_wp2
    go_ret
    rw [HR.out]
    exact ⟨rfl, rfl⟩
  have g1' : ¬ (286 : Int) < (l.length : Int) := by omega
  by_cases g2 : 30 < d.length
  · have g2' : (30 : Int) < (d.length : Int) := by omega
    have HR : Hid (vdE l d = 1) := by show _ = _; rw [HV.out, if_pos (.inr (.inl g2))]
    go_enter Tryd.func4, Tryd.ntmps4
    go_wp2
    go_ret
    rw [HR.out]
    exact ⟨rfl, rfl⟩
  have g2' : ¬ (30 : Int) < (d.length : Int) := by omega
  cases g3 : wthb l with
  | false =>
    have HR : Hid (vdE l d = 1) := by show _ = _; rw [HV.out, if_pos (.inr (.inr (.inl g3)))]
    rw [g3] at HW1
    go_enter Tryd.func4, Tryd.ntmps4
    go_wp2_with fail
    refine HW1.out.mono ?_
    rintro e w1 ⟨rfl, hw1⟩
    subst hw1
    go_wp2
    go_ret
    rw [HR.out]
    exact ⟨rfl, rfl⟩
  | true =>
    cases g4 : wthb d with
    | false =>
      have HR : Hid (vdE l d = 1) := by show _ = _; rw [HV.out, if_pos (.inr (.inr (.inr g4)))]
      rw [g3] at HW1
      rw [g4] at HW2
      go_enter Tryd.func4, Tryd.ntmps4
      go_wp2_with fail
      refine HW1.out.mono ?_
      rintro e w1 ⟨rfl, hw1⟩
      rw [hw1]
      go_wp2_with fail
      refine HW2.out.mono ?_
      rintro e w2 ⟨rfl, hw2⟩
      rw [hw2]
      go_wp2
      go_ret
      rw [HR.out]
      exact ⟨rfl, rfl⟩
    | true =>
      have HV2 : Hid (vdE l d = if l.length < 257 ∨ l.getD 256 0 = 0 ∨ ful l = false then 75 else if 0 < tsum d ∧ ful d = false then 76 else 0) := by
        show _ = _
        rw [HV.out, if_neg]
        rintro (q | q | q | q)
        · exact g1 q
        · exact g2 q
        · rw [g3] at q; cases q
        · rw [g4] at q; cases q
      rw [g3] at HW1
      rw [g4] at HW2
      have HF1 := hide (full_any _ l w H1.out (wth_iff.1 g3) (by omega))
      have HF2 := hide (full_any _ d w H2.out (wth_iff.1 g4) (by omega))
      have HK2 := hide (lkraft_any _ d w H2.out (wth_iff.1 g4) (by omega))
      obtain ⟨FL, HFL⟩ : ∃ x, Hid (x = ful l) := ⟨_, rfl⟩
      obtain ⟨FD, HFD⟩ : ∃ x, Hid (x = ful d) := ⟨_, rfl⟩
      obtain ⟨U, HUU⟩ : ∃ U, Hid (U = usum d) := ⟨_, rfl⟩
      obtain ⟨N, HNN⟩ : ∃ N, Hid (N = tsum d) := ⟨_, rfl⟩
      rw [← HFL.out, ← HFD.out, ← HNN.out] at HV2
      rw [← HFL.out] at HF1
      rw [← HFD.out] at HF2
      rw [← HUU.out, ← HNN.out] at HK2
      clear g3 g4 HV
      by_cases h257 : l.length < 257
      · have h257' : (l.length : Int) < 257 := by omega
        have HR : Hid (vdE l d = 75) := by show _ = _; rw [HV2.out, if_pos (.inl h257)]
        go_enter Tryd.func4, Tryd.ntmps4
        go_wp2_with fail
        refine HW1.out.mono ?_
        rintro e w1 ⟨rfl, hw1⟩
        rw [hw1]
        go_wp2_with fail
        refine HW2.out.mono ?_
        rintro e w2 ⟨rfl, hw2⟩
        rw [hw2]
        go_wp2
        go_ret
        rw [HR.out]
        exact ⟨rfl, rfl⟩
      have h257' : ¬ (l.length : Int) < 257 := by omega
      have h256 : (256 : Int) < (l.length : Int) := by omega
      obtain ⟨b, o, rfl, hc⟩ := H1.out.get (Below.refl _ _) (k := 256) (by omega)
      obtain ⟨y, HY⟩ : ∃ y, Hid (y = l.getD 256 0) := ⟨_, rfl⟩
      rw [← HY.out] at hc HV2
      go_enter Tryd.func4, Tryd.ntmps4
      go_wp2_with fail
      refine HW1.out.mono ?_
      rintro e w1 ⟨rfl, hw1⟩
      rw [hw1]
      clear hw1
      go_wp2_with fail
      refine HW2.out.mono ?_
      rintro e w2 ⟨rfl, hw2⟩
      rw [hw2]
      clear hw2
      by_cases y0 : y = 0
      · have HR : Hid (vdE l d = 75) := by show _ = _; rw [HV2.out, if_pos (.inr (.inl y0))]
        subst y0
        go_wp2
        go_ret
        rw [HR.out]
        exact ⟨rfl, rfl⟩
      · have y0' : (y == 0) = false := by simpa using y0
        go_wp2_with fail
        refine HF1.out.mono ?_
        rintro e w3 ⟨rfl, hw3⟩
        rw [hw3]
        clear hw3
        cases FL with
        | false =>
          have HR : Hid (vdE l d = 75) := by show _ = _; rw [HV2.out, if_pos (.inr (.inr rfl))]
          go_wp2
          go_ret
          rw [HR.out]
          exact ⟨rfl, rfl⟩
        | true =>
          have HV3 : Hid (vdE l d = if 0 < N ∧ FD = false then 76 else 0) := by
            show _ = _
            rw [HV2.out, if_neg]
            rintro (q | q | q)
            · exact h257 q
            · exact y0 q
            · cases q
          go_wp2_with fail
          refine HK2.out.mono ?_
          rintro e w4 ⟨rfl, hw4⟩
          rw [hw4]
          clear hw4
          by_cases n0 : 0 < N
          · have n0' : (0 : Int) < (N : Int) := by omega
            go_wp2_with fail
            refine HF2.out.mono ?_
            rintro e w5 ⟨rfl, hw5⟩
            rw [hw5]
            clear hw5
            cases FD with
            | false =>
              have HR : Hid (vdE l d = 76) := by show _ = _; rw [HV3.out, if_pos ⟨n0, rfl⟩]
              go_wp2
              go_ret
              rw [HR.out]
              exact ⟨rfl, rfl⟩
            | true =>
              have HR : Hid (vdE l d = 0) := by show _ = _; rw [HV3.out, if_neg (by simp)]
              go_wp2
              go_ret
              rw [HR.out]
              exact ⟨rfl, rfl⟩
          · have n0' : ¬ (0 : Int) < (N : Int) := by omega
            have HR : Hid (vdE l d = 0) := by show _ = _; rw [HV3.out, if_neg (fun q => n0 q.1)]
            go_wp2
            go_ret
            rw [HR.out]
            exact ⟨rfl, rfl⟩
end Go.Proofs.YtegoienjikjhkaaDoor

namespace Go.Proofs.YtegoienjikjhkaaDoor
open Go.RowKit Go.Maps
set_option maxRecDepth 20000
set_option linter.unusedVariables false

/-- The lengths of the runs' words under a code, together. -/
def gsm (o : List Int) : List Rn → Int
  | [] => 0
  | r :: R => o.getD r.1.toNat 0 + gsm o R

theorem gsm_snoc (o : List Int) (R : List Rn) (r : Rn) : gsm o (R ++ [r]) = gsm o R + o.getD r.1.toNat 0 := by
  induction R with
  | nil => simp [gsm]
  | cons a R ih => simp only [List.cons_append, gsm, ih]; omega

theorem sum_filter {α : Type} (p : α → Bool) (f : α → Nat) (L : List α) (h : ∀ s ∈ L, p s = false → f s = 0) : ((L.filter p).map f).sum = (L.map f).sum := by
  induction L with
  | nil => rfl
  | cons a L ih =>
    have i := ih fun s hs => h s (List.mem_cons_of_mem _ hs)
    cases q : p a with
    | true => rw [List.filter_cons_of_pos q, List.map_cons, List.map_cons, List.sum_cons, List.sum_cons, i]
    | false =>
      rw [List.filter_cons_of_neg (by simp [q]), List.map_cons, List.sum_cons, i, h a List.mem_cons_self q]
      omega

theorem sum_one (g : Nat → Nat) (k : Nat) : ∀ n, ((List.range n).map fun s => (if s = k then 1 else 0) * g s).sum = if k < n then g k else 0
  | 0 => by simp
  | n + 1 => by
    rw [List.range_succ, List.map_append, List.sum_append, sum_one g k n]
    simp only [List.map_cons, List.map_nil, List.sum_cons, List.sum_nil]
    by_cases h : n = k
    · subst h
      rw [if_pos rfl, if_neg (by omega), if_pos (by omega)]
      omega
    · rw [if_neg h]
      by_cases q : k < n
      · rw [if_pos q, if_pos (by omega)]; omega
      · rw [if_neg q, if_neg (by omega)]; omega

theorem sum_add (a b : Nat → Nat) (L : List Nat) : (L.map fun s => a s + b s).sum = (L.map a).sum + (L.map b).sum := by
  induction L with
  | nil => rfl
  | cons x L ih => simp only [List.map_cons, List.sum_cons, ih]; omega

theorem fq_usg (R : List Rn) {s : Nat} (h : s < 19) : fq (usg R) s = (R.map (·.1)).count (s : Int) := by
  unfold fq
  rw [usg_at R h]
  simp

theorem sum_runs (g : Nat → Nat) : ∀ R : List Rn, (∀ r ∈ R, Okr r) → ((List.range 19).map fun s => fq (usg R) s * g s).sum = (R.map fun r => g r.1.toNat).sum
  | [], _ => by
    have : ((List.range 19).map fun s => fq (usg []) s * g s) = (List.range 19).map fun _ => 0 := by
      apply List.map_congr_left
      intro s hs
      rw [fq_usg [] (List.mem_range.1 hs)]
      simp
    rw [this]
    rfl
  | r :: R, h => by
    have i := sum_runs g R fun x hx => h x (List.mem_cons_of_mem _ hx)
    obtain ⟨k, c, e, hk, _⟩ := okr_parts (h r List.mem_cons_self)
    have e1 : r.1 = (k : Int) := by rw [e]
    have : ((List.range 19).map fun s => fq (usg (r :: R)) s * g s) = (List.range 19).map fun s => fq (usg R) s * g s + (if s = k then 1 else 0) * g s := by
      apply List.map_congr_left
      intro s hs
      have hs' := List.mem_range.1 hs
      have hq : (if ((k : Int) == (s : Int)) = true then 1 else 0) = (if s = k then 1 else 0 : Nat) := by
        by_cases q : s = k
        · subst q; simp
        · have : ¬ ((k : Int) == (s : Int)) = true := by simp; omega
          rw [if_neg q, if_neg this]
      rw [fq_usg _ hs', fq_usg _ hs', List.map_cons, List.count_cons, e1, hq, Nat.add_mul]
    rw [this, sum_add, i, sum_one g k 19, if_pos hk, List.map_cons, List.sum_cons, e1, Int.toNat_natCast]
    omega

theorem fl_runs (g : Nat → Nat) (R : List Rn) (h : ∀ r ∈ R, Okr r) : fl (fq (usg R)) g (us6 (usg R)) = (R.map fun r => g r.1.toNat).sum := by
  rw [← sum_runs g R h]
  unfold fl us6 usk
  rw [usg_len]
  refine sum_filter _ (fun s => fq (usg R) s * g s) _ (fun s hs q => ?_)
  simp only [decide_eq_false_iff_not] at q
  have : fq (usg R) s = 0 := by unfold fq; omega
  simp [this]

theorem gsm_nat {o : List Int} (ho : ∀ s, 0 ≤ o.getD s 0) (R : List Rn) : gsm o R = ((R.map fun r => nn o r.1.toNat).sum : Nat) := by
  induction R with
  | nil => rfl
  | cons r R ih =>
    simp only [gsm, List.map_cons, List.sum_cons, ih]
    have := ho r.1.toNat
    unfold nn
    omega

theorem usum_range (o : List Int) : usum o = ((List.range o.length).map fun s => wt (o.getD s 0)).sum := by
  unfold usum
  congr 1
  apply List.ext_getElem
  · simp
  · intro i h1 h2
    simp at h1
    simp [h1]

theorem kr_small {f o : List Int} (hl : o.length = f.length) (ho : ∀ s ∈ us6 f, 1 ≤ o.getD s 0 ∧ o.getD s 0 ≤ 7) (hu : usum o ≤ 32768) : kr (nn o) (us6 f) ≤ 2 ^ 60 := by
  have e1 : kr (nn o) (us6 f) = 2 ^ 45 * ((us6 f).map fun s => wt (o.getD s 0)).sum := by
    unfold kr
    have : ∀ L : List Nat, (∀ s ∈ L, 1 ≤ o.getD s 0 ∧ o.getD s 0 ≤ 7) → (L.map fun s => 2 ^ (60 - nn o s)).sum = 2 ^ 45 * (L.map fun s => wt (o.getD s 0)).sum := by
      intro L hL
      induction L with
      | nil => rfl
      | cons a L ih =>
        have h := hL a List.mem_cons_self
        rw [List.map_cons, List.map_cons, List.sum_cons, List.sum_cons, ih (fun s hs => hL s (List.mem_cons_of_mem _ hs)), Nat.mul_add]
        congr 1
        unfold nn wt
        rw [if_pos (by omega), ← Nat.pow_add]
        congr 1
        omega
    exact this _ ho
  have e2 : ((us6 f).map fun s => wt (o.getD s 0)).sum ≤ usum o := by
    rw [usum_range, hl]
    unfold us6 usk
    have : ∀ L : List Nat, ((L.filter fun s => decide (0 < f.getD s 0)).map fun s => wt (o.getD s 0)).sum ≤ (L.map fun s => wt (o.getD s 0)).sum := by
      intro L
      induction L with
      | nil => exact Nat.le_refl _
      | cons a L ih =>
        by_cases q : 0 < f.getD a 0
        · rw [List.filter_cons_of_pos (by simpa using q)]; simp only [List.map_cons, List.sum_cons]; omega
        · rw [List.filter_cons_of_neg (by simpa using q)]; simp only [List.map_cons, List.sum_cons]; omega
    exact this _
  rw [e1]
  have : ((us6 f).map fun s => wt (o.getD s 0)).sum ≤ 32768 := Nat.le_trans e2 hu
  calc 2 ^ 45 * ((us6 f).map fun s => wt (o.getD s 0)).sum ≤ 2 ^ 45 * 32768 := Nat.mul_le_mul_left _ this
    _ = 2 ^ 60 := by decide

theorem mem_usg {R : List Rn} {s : Nat} (h : s ∈ us6 (usg R)) : ∃ r ∈ R, r.1 = (s : Int) := by
  obtain ⟨h1, h2⟩ := mem_us.1 h
  rw [usg_len] at h1
  rw [usg_at R h1] at h2
  have : 0 < (R.map (·.1)).count (s : Int) := by omega
  obtain ⟨r, hr, e⟩ := List.mem_map.1 (List.count_pos_iff.1 this)
  exact ⟨r, hr, e⟩

/-- No other small code gives the runs fewer bits. -/
theorem small_best {R : List Rn} {o : List Int} (hR : R.length ≤ 1048576) (hok : ∀ r ∈ R, Okr r) (hl : o.length = 19) (h7 : ∀ s, 0 ≤ o.getD s 0 ∧ o.getD s 0 ≤ 7) (hu : usum o ≤ 32768) (hz : ∀ r ∈ R, o.getD r.1.toNat 0 ≠ 0) : gsm (lmt (usg R) 7) R ≤ gsm o R := by
  have hs : ∀ s ∈ us6 (usg R), 1 ≤ o.getD s 0 ∧ o.getD s 0 ≤ 7 := fun s hm => by
    obtain ⟨r, hr, e⟩ := mem_usg hm
    have := hz r hr
    rw [e, Int.toNat_natCast] at this
    have := h7 s
    omega
  have hk := kr_small (f := usg R) (o := o) (by rw [usg_len]; exact hl) hs hu
  have hb := lm_best (f := usg R) (o := o) (L := 7) (usg_sound hR) (by omega) (usg_us R) (fun s hm => by have := hs s hm; omega) hk
  rw [fl_runs _ R hok, fl_runs _ R hok] at hb
  rw [gsm_nat (fun s => ((lmt7 hR).2 s).1) R, gsm_nat (fun s => (h7 s).1) R]
  omega
end Go.Proofs.YtegoienjikjhkaaDoor

