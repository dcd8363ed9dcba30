import Derived.Test.YtdpfjfkknimlfaaDoorGGsn
namespace Go.Proofs.YtdpfjfkknimlfaaDoor
open Go.RowKit Go.Maps
set_option maxRecDepth 20000
set_option linter.unusedVariables false
set_option linter.unusedSimpArgs false

theorem apt_in {B U : List Tk} (hB : B.length ≤ 16777216) (hU : U.length ≤ 16777216) (k : Nat) : 0 ≤ apt B U k ∧ apt B U k ≤ 281474976710656 * k := by
  induction k with
  | zero => simp [apt]
  | succ k ih =>
    rw [apt_succ]
    have h1 := mul_in (a := 128) (b := kn B k) (by omega) (by have := kn_in B k; omega)
    have h2 := mul_in (a := (B.length : Int)) (b := kn U k) (by omega) (by have := kn_in U k; omega)
    unfold mg
    omega

set_option maxHeartbeats 1000000 in
theorem gchanges_any (v u : Value) (B U : List Tk) (w : World) (h : SK w v B) (g : SK w u U) (hs : ∀ t ∈ B, Bt t) (gs : ∀ t ∈ U, Bt t) (hn : B.length ≤ 16777216) (gn : U.length ≤ 16777216) :
    Calls Tryd.prog 20 #[v, u] w fun e w' => e = .returned (.bool (decide (128 * (B.length : Int) ≤ 2 * apt B U 8))) ∧ Below w.heap.size w w' := by
  have HS := hide h
  have GS := hide g
  have HSN := hide hs
  have GSN := hide gs
  obtain ⟨ao, cap, rfl, hlc, hcm⟩ := h.open
  obtain ⟨bo, bap, rfl, glc, gcm⟩ := g.open
  clear h hs g gs
  go_enter Tryd.func20, Tryd.ntmps20
  go_wp2
  go_loopw [5, 6] (fun s i wr => ∃ k : Nat, k ≤ 8 ∧ i = .int .i64 k ∧ s = .int .i64 (apt B U k) ∧ Hid (Below w.heap.size w wr)) (fun _ i _ => 8 - (intOf i).toNat)
  case atStart => exact ⟨0, by omega, rfl, rfl, Below.refl _ _⟩
  case round =>
    obtain ⟨k, hk, rfl, rfl, HB⟩ := hrel
    by_cases hlt : k < 8
    · have hlt' : (k : Int) < 8 := by omega
      have HN1 := hide (gnumber_any _ B k wr (HS.out.below HB.out) HSN.out hn)
      have m1 := mul_in (a := 128) (b := kn B k) (by omega) (by have := kn_in B k; omega)
      have m2 := mul_in (a := (B.length : Int)) (b := kn U k) (by omega) (by have := kn_in U k; omega)
      have HST := hide (apt_succ B U k)
      have ha := apt_in hn gn k
      have ha2 : apt B U k ≤ 281474976710656 * 8 := by omega
      have ha0 := ha.1
      have HN2 := hide (fun w' (hb : Below wr.heap.size wr w') => gnumber_any _ U k w' (GS.out.below (HB.out.trans (hb.mono HB.out.size))) GSN.out gn)
      obtain ⟨A, hA⟩ : ∃ P, apt B U k = P := ⟨_, rfl⟩
      obtain ⟨p, hp⟩ : ∃ p, kn B k = p := ⟨_, rfl⟩
      obtain ⟨q, hq⟩ : ∃ p, kn U k = p := ⟨_, rfl⟩
      obtain ⟨P2, hP2⟩ : ∃ P, (B.length : Int) * q = P := ⟨_, rfl⟩
      rw [hA] at HST ha0 ha2 ⊢
      rw [hp] at HST m1 HN1
      rw [hq] at HST m2 HN2
      rw [hP2] at HST m2
      have v1 : wrap64 (128 * p) = 128 * p := by unfold wrap64; omega
      have v2 : wrap64 P2 = P2 := by unfold wrap64; omega
      have v3 : wrap64 (128 * p - P2) = 128 * p - P2 := by unfold wrap64; omega
      have v4 : wrap64 (-(128 * p - P2)) = -(128 * p - P2) := by unfold wrap64; omega
      clear hA hp hq ha
      by_cases hd : 128 * p - P2 < 0
      · have HM : Hid (apt B U (k + 1) = A + -(128 * p - P2)) := by show _ = _; rw [HST.out]; unfold mg; omega
        have v5 : wrap64 (A + -(128 * p - P2)) = A + -(128 * p - P2) := by unfold wrap64; omega
        clear m1 m2
        go_wp2_with fail
        refine HN1.out.mono ?_
        rintro e w8 ⟨rfl, b8⟩
        have HN3 := hide (HN2.out w8 b8)
        have HB8 := hide (HB.out.trans (b8.mono HB.out.size))
        clear b8 HN1 HN2
        go_wp2_with fail
        refine HN3.out.mono ?_
        rintro e w9 ⟨rfl, b9⟩
        have HB9 := hide (HB8.out.trans (b9.mono HB8.out.size))
        clear b9 HN3
        go_wp2
        go_roundw
        case rel => exact ⟨k + 1, by omega, by go_num, by rw [HM.out]; first | rfl | rw [v5], HB9⟩
        case measure => simp [intOf]; omega
      · have HM : Hid (apt B U (k + 1) = A + (128 * p - P2)) := by show _ = _; rw [HST.out]; unfold mg; omega
        have v5 : wrap64 (A + (128 * p - P2)) = A + (128 * p - P2) := by unfold wrap64; omega
        clear m1 m2
        go_wp2_with fail
        refine HN1.out.mono ?_
        rintro e w8 ⟨rfl, b8⟩
        have HN3 := hide (HN2.out w8 b8)
        have HB8 := hide (HB.out.trans (b8.mono HB.out.size))
        clear b8 HN1 HN2
        go_wp2_with fail
        refine HN3.out.mono ?_
        rintro e w9 ⟨rfl, b9⟩
        have HB9 := hide (HB8.out.trans (b9.mono HB8.out.size))
        clear b9 HN3
        go_wp2
        go_roundw
        case rel => exact ⟨k + 1, by omega, by go_num, by rw [HM.out]; first | rfl | rw [v5], HB9⟩
        case measure => simp [intOf]; omega
    · obtain rfl : k = 8 := by omega
      have ha := apt_in hn gn 8
      have v1 : wrap64 (2 * apt B U 8) = 2 * apt B U 8 := by unfold wrap64; omega
      have v2 : wrap64 (128 * (B.length : Int)) = 128 * (B.length : Int) := by unfold wrap64; omega
      clear ha
      go_wp2
      go_ret
      exact ⟨rfl, HB.out⟩

theorem gclosed_any (v u : Value) (B U : List Tk) (w : World) (h : SK w v B) (g : SK w u U) (hs : ∀ t ∈ B, Snd t ∧ Bt t) (gs : ∀ t ∈ U, Snd t ∧ Bt t) (hn : B.length ≤ 16777216) (gn : U.length ≤ 16777216) :
    Calls Tryd.prog 12 #[v, u] w fun e w' => e = .returned (.bool (clo B U)) ∧ Below w.heap.size w w' := by
  have HS := hide h
  have GS := hide g
  have HSN := hide hs
  have GSN := hide gs
  obtain ⟨ao, cap, rfl, hlc, hcm⟩ := h.open
  obtain ⟨bo, bap, rfl, glc, gcm⟩ := g.open
  have b1 := say_in (A := B) (fun t ht => (hs t ht).1) hn
  have b2 := say_in (A := U) (fun t ht => (gs t ht).1) gn
  clear h hs g gs
  by_cases h0 : 8192 ≤ B.length
  · have HE : Hid (clo B U = true) := by show _ = _; unfold clo; rw [decide_eq_true h0]; rfl
    have g0 : (8192 : Int) ≤ (B.length : Int) := by omega
    have g1 : decide ((8192 : Int) ≤ (B.length : Int)) = true := decide_eq_true g0
    have g2 : decide (8192 ≤ B.length) = true := decide_eq_true h0
    rw [HE.out]
    go_enter Tryd.func12, Tryd.ntmps12
    go_wp2
    go_ret
    exact ⟨rfl, Below.refl _ _⟩
  · have g0 : ¬ (8192 : Int) ≤ (B.length : Int) := by omega
    have g1 : decide ((8192 : Int) ≤ (B.length : Int)) = false := decide_eq_false g0
    have g2 : decide (8192 ≤ B.length) = false := decide_eq_false h0
    have HB1 := hide (gbytes_any _ B w HS.out (fun t ht => (HSN.out t ht).1) hn)
    have HB2 := hide (fun w' (hb : Below w.heap.size w w') => gbytes_any _ U w' (GS.out.below hb) (fun t ht => (GSN.out t ht).1) gn)
    have HCH := hide (fun w' (hb : Below w.heap.size w w') => gchanges_any _ _ B U w' (HS.out.below hb) (GS.out.below hb) (fun t ht => (HSN.out t ht).2) (fun t ht => (GSN.out t ht).2) hn gn)
    have HCO : Hid (clo B U = (decide (65535 < sayS B + sayS U) || (decide (U.length = 128) && decide (128 * (B.length : Int) ≤ 2 * apt B U 8)))) := by
      show _ = _
      unfold clo
      rw [decide_eq_false h0]
      rfl
    rw [HCO.out]
    obtain ⟨p, hp⟩ : ∃ p, sayS B = p := ⟨_, rfl⟩
    obtain ⟨q, hq⟩ : ∃ p, sayS U = p := ⟨_, rfl⟩
    rw [hp] at HB1 b1 ⊢
    rw [hq] at HB2 b2 ⊢
    have v1 : wrap64 (p + q) = p + q := by unfold wrap64; omega
    clear hp hq h0
    by_cases h1 : 65535 < p + q
    · have g3 : decide (65535 < p + q) = true := decide_eq_true h1
      rw [g3]
      go_enter Tryd.func12, Tryd.ntmps12
      go_wp2_with fail
      refine HB1.out.mono ?_
      rintro e w8 ⟨rfl, b8⟩
      have HB3 := hide (HB2.out w8 b8)
      have HB8 := hide b8
      clear b8 HB1 HB2
      go_wp2_with fail
      refine HB3.out.mono ?_
      rintro e w9 ⟨rfl, b9⟩
      have HB9 := hide (HB8.out.trans (b9.mono HB8.out.size))
      clear b9 HB3
      go_wp2
      go_ret
      exact ⟨rfl, HB9.out⟩
    · have g3 : decide (65535 < p + q) = false := decide_eq_false h1
      rw [g3]
      by_cases h2 : U.length = 128
      · have g4 : ((U.length : Int) == 128) = true := by rw [beq_iff_eq]; omega
        rw [decide_eq_true h2]
        obtain ⟨cc, hcc⟩ : ∃ c, decide (128 * (B.length : Int) ≤ 2 * apt B U 8) = c := ⟨_, rfl⟩
        rw [hcc] at HCH ⊢
        clear hcc h2
        go_enter Tryd.func12, Tryd.ntmps12
        go_wp2_with fail
        refine HB1.out.mono ?_
        rintro e w8 ⟨rfl, b8⟩
        have HB3 := hide (HB2.out w8 b8)
        have HB8 := hide b8
        clear b8 HB1 HB2
        go_wp2_with fail
        refine HB3.out.mono ?_
        rintro e w9 ⟨rfl, b9⟩
        have HB9 := hide (HB8.out.trans (b9.mono HB8.out.size))
        clear b9 HB3
        have HC9 := hide (HCH.out w9 HB9.out)
        clear HCH
        go_wp2_with fail
        refine HC9.out.mono ?_
        rintro e w10 ⟨rfl, b10⟩
        have HB10 := hide (HB9.out.trans (b10.mono HB9.out.size))
        clear b10 HC9
        go_wp2
        go_ret
        exact ⟨by simp, HB10.out⟩
      · have g4 : ((U.length : Int) == 128) = false := by rw [beq_eq_false_iff_ne]; omega
        have g5 : (U.length == 128) = false := by rw [beq_eq_false_iff_ne]; exact h2
        rw [decide_eq_false h2]
        clear HCH h2
        go_enter Tryd.func12, Tryd.ntmps12
        go_wp2_with fail
        refine HB1.out.mono ?_
        rintro e w8 ⟨rfl, b8⟩
        have HB3 := hide (HB2.out w8 b8)
        have HB8 := hide b8
        clear b8 HB1 HB2
        go_wp2_with fail
        refine HB3.out.mono ?_
        rintro e w9 ⟨rfl, b9⟩
        have HB9 := hide (HB8.out.trans (b9.mono HB8.out.size))
        clear b9 HB3
        go_wp2
        go_ret
        exact ⟨rfl, HB9.out⟩
end Go.Proofs.YtdpfjfkknimlfaaDoor

