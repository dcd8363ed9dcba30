import Derived.Test.YtlleajegfeilfaaGZrt
import Derived.Test.YtlleajegfeilfaaGZsp
import Derived.Test.YtlleajegfeilfaaGZfl
namespace Go.Proofs.Ytlleajegfeilfaa
open Go.RowKit Go.Maps
set_option maxRecDepth 20000
set_option linter.unusedVariables false
set_option linter.unusedSimpArgs false

theorem bdy_take {S : List (Int × Int)} {k : Nat} (h : k < S.length) : bdy (S.take (k + 1)) = bdy (S.take k) + 8 + (S.getD k (0, 0)).2 - (S.getD k (0, 0)).1 := by
  rw [take_get (0, 0) h, bdy_app]
  simp only [bdy, dif, List.length_cons, List.length_nil]
  omega

set_option maxHeartbeats 8000000 in
theorem zneed_any (v : Value) (R : List We) (old size : Int) (w : World) (h : SW w v R) (ho : ∀ e ∈ R, -9223372036854775808 ≤ e.at' ∧ e.at' ≤ 9223372036854775807) (hm : ∀ e ∈ R, e.l.length ≤ 140737488351232) :
    Calls Try.prog 18 #[.int .i64 old, .int .i64 size, v] w fun e w' => e = .returned (.tuple #[.int .i64 (ndN old size (nms R)), .int .i64 (ndE old size (nms R))]) ∧ Below w.heap.size w w' := by
  have HI1 := hide (fun w' => zinSize_any old w')
  have HI2 := hide (fun w' => zinSize_any size w')
  by_cases hd1 : domN old
  case neg =>
    have HE : Hid (ndE old size (nms R) = 1 ∧ ndN old size (nms R) = 0) := by
      have e : ndE old size (nms R) = 1 := if_pos (.inl hd1)
      exact ⟨e, if_neg (by rw [e]; decide)⟩
    rw [decide_eq_false hd1] at HI1
    go_enter Try.func18, Try.ntmps18
    go_wp2_with (go_at_call 26; refine (HI1.out _).mono ?_; rintro e w2 ⟨rfl, h2⟩; subst h2)
    go_ret2
    rw [HE.out.1, HE.out.2]
    exact ⟨rfl, Below.refl _ _⟩
  rw [decide_eq_true hd1] at HI1
  by_cases hd2 : domN size
  case neg =>
    have HE : Hid (ndE old size (nms R) = 1 ∧ ndN old size (nms R) = 0) := by
      have e : ndE old size (nms R) = 1 := if_pos (.inr hd2)
      exact ⟨e, if_neg (by rw [e]; decide)⟩
    rw [decide_eq_false hd2] at HI2
    go_enter Try.func18, Try.ntmps18
    go_wp2_with (go_at_call 26; first | (refine (HI1.out _).mono ?_; rintro e w2 ⟨rfl, h2⟩; subst h2) | (refine (HI2.out _).mono ?_; rintro e w2 ⟨rfl, h2⟩; subst h2))
    go_ret2
    rw [HE.out.1, HE.out.2]
    exact ⟨rfl, Below.refl _ _⟩
  rw [decide_eq_true hd2] at HI2
  have HRG := hide (zRight_any v R size w h hd2 ho hm)
  by_cases hr : rgt size (nms R) 0 = true
  case neg =>
    have hr' : rgt size (nms R) 0 = false := by simpa using hr
    have HE : Hid (ndE old size (nms R) = 143 ∧ ndN old size (nms R) = 0) := by
      have e : ndE old size (nms R) = 143 := by unfold ndE; rw [if_neg (by intro h; exact h.elim (fun q => q hd1) (fun q => q hd2)), if_pos hr']
      exact ⟨e, if_neg (by rw [e]; decide)⟩
    rw [hr'] at HRG
    clear hr hr' hd1 hd2 h ho hm
    go_enter Try.func18, Try.ntmps18
    go_wp2_with fail
    refine (HI1.out _).mono ?_
    rintro e w2 ⟨rfl, h2⟩
    rw [h2]
    clear h2 w2
    go_wp2_with fail
    refine (HI2.out _).mono ?_
    rintro e w2 ⟨rfl, h2⟩
    rw [h2]
    clear h2 w2
    go_wp2_with fail
    refine HRG.out.mono ?_
    rintro e w3 ⟨rfl, hb3⟩
    have HB3 := hide hb3
    clear hb3
    go_wp2
    go_ret2
    rw [HE.out.1, HE.out.2]
    exact ⟨rfl, HB3.out⟩
  have hl : R.length ≤ 16777216 := by have := rgt_few hr hd2; rwa [nms_len] at this
  have HE : Hid (ndE old size (nms R) = 0 ∧ ndN old size (nms R) = filN old size (bdy (svd old (nms R)))) := by
    have e : ndE old size (nms R) = 0 := by unfold ndE; rw [if_neg (by intro h; exact h.elim (fun q => q hd1) (fun q => q hd2)), if_neg (by rw [hr]; decide)]
    exact ⟨e, if_pos e⟩
  have HSA := hide (fun w' (hb : Below w.heap.size w w') => zSpans_any v R size old w' (h.low hb) hd2 hd1 hr hl)
  have HBI := hide (bdy_in (old := old) hr hd2)
  have HIN : Hid (∀ s ∈ svd old (nms R), 0 ≤ s.1 ∧ s.1 ≤ s.2 ∧ s.2 ≤ 16777216) := fun s hs' => by have := svd_in hr s hs'; have := hd2.2; omega
  have HSL : Hid ((svd old (nms R)).length ≤ 16777216) := by have := svd_len old (nms R); rw [nms_len] at this; exact Nat.le_trans this hl
  have HFR := hide (fun w' => zFile_any old size (bdy (svd old (nms R))) w' hd1 hd2 HBI.out.1 HBI.out.2)
  rw [hr] at HRG
  obtain ⟨S, hS⟩ : ∃ S, S = svd old (nms R) := ⟨_, rfl⟩
  rw [← hS] at HE HBI HFR HSA HIN HSL
  obtain ⟨F, hF⟩ : ∃ F, F = filN old size (bdy S) := ⟨_, rfl⟩
  rw [← hF] at HE HFR
  have hSl := HSL.out
  clear hr hd1 hd2 h ho hm hS hF
  go_enter Try.func18, Try.ntmps18
  go_wp2_with fail
  refine (HI1.out _).mono ?_
  rintro e w2 ⟨rfl, h2⟩
  rw [h2]
  clear h2 w2
  go_wp2_with fail
  refine (HI2.out _).mono ?_
  rintro e w2 ⟨rfl, h2⟩
  rw [h2]
  clear h2 w2
  go_wp2_with fail
  refine HRG.out.mono ?_
  rintro e w3 ⟨rfl, hb3⟩
  have HB3 := hide hb3
  clear hb3
  go_wp2_with fail
  refine (HSA.out w3 HB3.out).mono ?_
  rintro e w4 ⟨v4, rfl, ho4, hb4⟩
  have HO4 := hide ho4.sr
  have HB4 := hide (HB3.out.trans (hb4.mono HB3.out.size))
  obtain ⟨a4, c4, hv4, k1, k2⟩ := ho4.shape
  rw [List.length_map] at hv4 k1
  subst hv4
  clear ho4 hb4
  go_wp2
  go_loopw [9, 11] (fun n i wr => ∃ (j : Nat) (D : Int), n = .int .i64 D ∧ i = .int .i64 (j : Int) ∧ j ≤ S.length ∧ (0 ≤ D ∧ D ≤ 16777224 * (j : Int)) ∧ Hid (bdy (S.take j) = D) ∧ ∃ q : Nat, wr = w4.drewN q) (fun _ i _ => S.length - (intOf i).toNat)
  case atStart => exact ⟨0, 0, rfl, rfl, Nat.zero_le _, by omega, rfl, 0, rfl⟩
  case round =>
    obtain ⟨j, D, rfl, rfl, hj, ⟨hD0, hD1⟩, HD, q, rfl⟩ := hrel
    by_cases hlt : j < S.length
    · have hlt' : (j : Int) < (S.length : Int) := by omega
      obtain ⟨b0, o0, hla, hbl, hrg⟩ := HO4.out.row (i := j) (by rw [List.length_map]; exact hlt)
      have hok := HIN.out (S.getD j (0, 0)) (by simp [List.getD, hlt])
      have HDT := hide (bdy_take hlt)
      rw [sp_get hlt] at hrg
      obtain ⟨s, hs⟩ : ∃ s, s = S.getD j (0, 0) := ⟨_, rfl⟩
      rw [← hs] at hrg hok HDT
      obtain ⟨f0, t0⟩ := s
      have g0 := hrg 0 (.int .i64 f0) rfl
      have g1 := hrg 1 (.int .i64 t0) rfl
      rw [Nat.add_zero] at g0
      simp only at hok
      obtain ⟨i0, i1, i2⟩ := hok
      subst hla
      clear hs hrg
      go_wp2
      go_quiet (fail)
      go_wp2
      go_roundw
      case rel => exact ⟨j + 1, D + 8 + t0 - f0, by go_num, by go_num, by omega, by omega, by show _ = _; rw [HDT.out, HD.out], _, rfl⟩
      case measure => simp [intOf]; omega
    · have hje : j = S.length := by omega
      subst hje
      have hF : bdy S = D := by have := HD.out; rwa [List.take_length] at this
      rw [hF] at HFR
      go_wp2_with fail
      refine (HFR.out _).mono ?_
      rintro e w5 ⟨rfl, h5⟩
      rw [h5]
      clear h5 w5
      go_wp2
      go_ret2
      rw [HE.out.1, HE.out.2]
      exact ⟨rfl, below_drewN HB4.out _⟩
end Go.Proofs.Ytlleajegfeilfaa

