import Derived.Test.YtlleajegfeilfaaGSvd
import Derived.Test.YtlleajegfeilfaaGFrm
namespace Go.Proofs.Ytlleajegfeilfaa
open Go.RowKit Go.Maps
set_option maxRecDepth 20000
set_option linter.unusedVariables false
set_option linter.unusedSimpArgs false

set_option maxHeartbeats 8000000 in
theorem need_any (v : Value) (R : List We) (old size : Int) (w : World) (h : SW w v R) (ho : ∀ e ∈ R, -9223372036854775808 ≤ e.at' ∧ e.at' ≤ 9223372036854775807) (hm : ∀ e ∈ R, e.l.length ≤ 140737488351232) :
    Calls Try.prog 6 #[.int .i64 old, .int .i64 size, v] w fun e w' => e = .returned (.tuple #[.int .i64 (ndN old size (nms R)), .int .i64 (ndE old size (nms R))]) ∧ Below w.heap.size w w' := by
  have HI1 := hide (fun w' => isSize_any old w')
  have HI2 := hide (fun w' => isSize_any size w')
  by_cases hd1 : domN old
  case neg =>
    have HE : Hid (ndE old size (nms R) = 1 ∧ ndN old size (nms R) = 0) := by
      have e : ndE old size (nms R) = 1 := if_pos (.inl hd1)
      exact ⟨e, if_neg (by rw [e]; decide)⟩
    rw [decide_eq_false hd1] at HI1
    go_enter Try.func6, Try.ntmps6
    go_wp2_with (go_at_call 19; refine (HI1.out _).mono ?_; rintro e w2 ⟨rfl, h2⟩; subst h2)
    go_ret2
    rw [HE.out.1, HE.out.2]
    exact ⟨rfl, Below.refl _ _⟩
  rw [decide_eq_true hd1] at HI1
  by_cases hd2 : domN size
  case neg =>
    have HE : Hid (ndE old size (nms R) = 1 ∧ ndN old size (nms R) = 0) := by
      have e : ndE old size (nms R) = 1 := if_pos (.inr hd2)
      exact ⟨e, if_neg (by rw [e]; decide)⟩
    rw [decide_eq_false hd2] at HI2
    go_enter Try.func6, Try.ntmps6
    go_wp2_with (go_at_call 19; first | (refine (HI1.out _).mono ?_; rintro e w2 ⟨rfl, h2⟩; subst h2) | (refine (HI2.out _).mono ?_; rintro e w2 ⟨rfl, h2⟩; subst h2))
    go_ret2
    rw [HE.out.1, HE.out.2]
    exact ⟨rfl, Below.refl _ _⟩
  rw [decide_eq_true hd2] at HI2
  have HRG := hide (right_any v R size w h hd2 ho hm)
  have HDM := hide (And.intro hd1 hd2)
  by_cases hr : rgt size (nms R) 0 = true
  case neg =>
    have hr' : rgt size (nms R) 0 = false := by simpa using hr
    have HE : Hid (ndE old size (nms R) = 143 ∧ ndN old size (nms R) = 0) := by
      have e : ndE old size (nms R) = 143 := by unfold ndE; rw [if_neg (by intro h; exact h.elim (fun q => q hd1) (fun q => q hd2)), if_pos hr']
      exact ⟨e, if_neg (by rw [e]; decide)⟩
    rw [hr'] at HRG
    clear hr hr' hd1 hd2 h ho hm
    go_enter Try.func6, Try.ntmps6
    go_wp2_with (first | (go_at_call 19; first | (refine (HI1.out _).mono ?_; rintro e w2 ⟨rfl, h2⟩; subst h2) | (refine (HI2.out _).mono ?_; rintro e w2 ⟨rfl, h2⟩; subst h2)) | (go_at_call 20; refine HRG.out.mono ?_; rintro e w3 ⟨rfl, hb3⟩; have HB3 := hide hb3; clear hb3))
    go_ret2
    rw [HE.out.1, HE.out.2]
    exact ⟨rfl, HB3.out⟩
  have hl : R.length ≤ 16777216 := by have := rgt_few hr hd2; rwa [nms_len] at this
  have HE : Hid (ndE old size (nms R) = 0 ∧ ndN old size (nms R) = filN old size (bdy (svd old (nms R)))) := by
    have e : ndE old size (nms R) = 0 := by unfold ndE; rw [if_neg (by intro h; exact h.elim (fun q => q hd1) (fun q => q hd2)), if_neg (by rw [hr]; decide)]
    exact ⟨e, if_pos e⟩
  have HSA := hide (fun w' (hb : Below w.heap.size w w') => saved_any v R size old w' (h.low hb) hd2 hd1 hr hl)
  have HBI := hide (bdy_in (old := old) hr hd2)
  have HBY := hide (fun v' w' (hs : SR 2 w' v' ((svd old (nms R)).map spC)) => bodyBytes_any v' (svd old (nms R)) w' hs (fun s hs' => by have := svd_in hr s hs'; have := hd2.2; omega) (by have := svd_len old (nms R); rw [nms_len] at this; omega))
  have HFR := hide (fun w' => frameOf_any old size (bdy (svd old (nms R))) w' hd1 hd2 HBI.out.1 HBI.out.2)
  rw [hr] at HRG
  obtain ⟨B, hB⟩ : ∃ B, B = bdy (svd old (nms R)) := ⟨_, rfl⟩
  rw [← hB] at HE HBI HBY HFR
  obtain ⟨F, hF⟩ : ∃ F, F = filN old size B := ⟨_, rfl⟩
  rw [← hF] at HE HFR
  clear hr hd1 hd2 h ho hm hB hF
  have hfd : ∀ (w' : World) (a b c : Int), (Instr.field 50 (.agg #[.int .i64 a, .int .i64 b, .int .i64 c]) 2).run Try.prog w' = .ok (.int .i64 c) w' := fun _ _ _ _ => by kernel_rfl
  go_enter Try.func6, Try.ntmps6
  go_wp2_with fail
  refine (HI1.out _).mono ?_
  rintro e w2 ⟨rfl, h2⟩
  subst h2
  go_wp2_with fail
  refine (HI2.out _).mono ?_
  rintro e w2' ⟨rfl, h2⟩
  subst h2
  go_wp2_with fail
  refine HRG.out.mono ?_
  rintro e w3 ⟨rfl, hb3⟩
  have HB3 := hide hb3
  clear hb3
  go_wp2_with fail
  refine (HSA.out w3 HB3.out).mono ?_
  rintro e w4 ⟨v4, rfl, ho4, hb4⟩
  have HO4 := hide ho4.sr
  have HB4 := hide (HB3.out.trans (hb4.mono HB3.out.size))
  clear ho4 hb4
  go_wp2_with fail
  refine (HBY.out v4 w4 HO4.out).mono ?_
  rintro e w5 ⟨rfl, hb5⟩
  have HB5 := hide (HB4.out.trans (hb5.mono HB4.out.size))
  clear hb5
  go_wp2_with fail
  refine (HFR.out w5).mono ?_
  rintro e w6 ⟨rfl, hb6⟩
  have HB6 := hide (HB5.out.trans (hb6.mono HB5.out.size))
  clear hb6
  go_wp2
  go_ret2
  rw [HE.out.1, HE.out.2]
  exact ⟨rfl, HB6.out⟩
end Go.Proofs.Ytlleajegfeilfaa

