import Derived.Test.YtkmefeihkmbngaaDoorG08Sqp
namespace Go.Proofs.YtkmefeihkmbngaaDoor
open Go.RowKit Go.Maps
set_option maxRecDepth 20000
set_option linter.unusedVariables false

theorem vall_any (v : Value) (l : List Int) (n : Nat) (w : World) (h : SI w v l) (hn : n ≤ 286) : Calls Tryd.prog 18 #[v, .int .i64 (n : Int)] w fun e w' => e = .returned (.bool (okP l n)) ∧ w' = w := by
  have HS := hide h
  obtain ⟨ao, cap, rfl, hlc, hcm⟩ := h.open
  clear h
  have HB0 : Hid (Below w.heap.size w w) := Below.refl _ _
  by_cases hl : l.length = n
  case neg =>
    have HV : Hid (okP l n = false) := by show _ = _; unfold okP; rw [decide_eq_false hl]; rfl
    have g : ((l.length : Int) != (n : Int)) = true := by simp; omega
    rw [HV.out]
    clear hl HV
    go_enter Tryd.func18, Tryd.ntmps18
    go_wp2
    go_ret
    exact ⟨rfl, rfl⟩
  case pos =>
    have HV : Hid (okP l n = l.all okp) := by show _ = _; unfold okP; rw [decide_eq_true hl]; rfl
    have g : ((l.length : Int) != (n : Int)) = false := by simp; omega
    rw [HV.out]
    clear HV
    go_enter Tryd.func18, Tryd.ntmps18
    go_wp2
    go_loopw [5] (fun i wr => ∃ k : Nat, k ≤ n ∧ i = .int .i64 (k : Int) ∧ wr = w ∧ Hid ((l.take k).all okp = true)) (fun i _ => n - (intOf i).toNat)
    case atStart => exact ⟨0, Nat.zero_le _, rfl, rfl, rfl⟩
    case round =>
      obtain ⟨k, hk, rfl, hw, HA⟩ := hrel
      subst hw
      by_cases hlt : k < l.length
      · have hlt' : (k : Int) < (n : Int) := by omega
        have hlt2 : (k : Int) < (l.length : Int) := by omega
        obtain ⟨b, o, rfl, hc⟩ := HS.out.get HB0.out hlt
        have HN := hide (all_take_snoc hlt)
        have HBad := hide (fun h => all_bad hlt h)
        obtain ⟨y, HY⟩ : ∃ y, Hid (l.getD k 0 = y) := ⟨_, rfl⟩
        rw [HY.out] at hc HN HBad
        by_cases h1 : y < 1
        · have HF : Hid (l.all okp = false) := HBad.out (by unfold okp; exact decide_eq_false (by omega))
          clear HBad HN HY
          go_wp2
          go_ret
          rw [HF.out]
          exact ⟨rfl, rfl⟩
        · have h1' : ¬ y < 1 := h1
          by_cases h2 : 65536 < y
          · have HF : Hid (l.all okp = false) := HBad.out (by unfold okp; exact decide_eq_false (by omega))
            clear HBad HN HY
            go_wp2
            go_ret
            rw [HF.out]
            exact ⟨rfl, rfl⟩
          · have HT : Hid ((l.take (k + 1)).all okp = true) := by
              show _ = _
              rw [HN.out, HA.out]
              unfold okp
              simp only [Bool.true_and]
              exact decide_eq_true ⟨by omega, by omega⟩
            clear HBad HN HY
            go_wp2
            go_roundw
            case rel => exact ⟨k + 1, by omega, by go_num, trivial, HT⟩
            case measure => simp [intOf]; omega
      · obtain rfl : k = l.length := by omega
        have hlt' : ¬ (l.length : Int) < (n : Int) := by omega
        have HF : Hid (l.all okp = true) := by have := HA.out; rwa [List.take_of_length_le (Nat.le_refl _)] at this
        go_wp2
        go_ret
        rw [HF.out]
        exact ⟨rfl, rfl⟩

noncomputable def tkE (t : Tk) : Int := if sndb t then 0 else 211
noncomputable def tkC (L D : List Int) (t : Tk) : Int := if sndb t then L.getD (litS t) 0 + (if t.1 = 0 then 0 else D.getD (dsy t.2.1.toNat) 0) else 0

set_option maxHeartbeats 1000000 in
theorem vcost_any (a b c : Int) (vl vd : Value) (L D : List Int) (w : World) (hb : Bt (a, b, c)) (h1 : SI w vl L) (h2 : SI w vd D) (hL : okP L 286 = true) (hD : okP D 30 = true) :
    Calls Tryd.prog 19 #[.agg #[.int .i64 a, .int .i64 b, .int .u8 c], vl, vd] w fun e w' => e = .returned (.tuple #[.int .i64 (tkC L D (a, b, c)), .int .i64 (tkE (a, b, c))]) ∧ Below w.heap.size w w' := by
  obtain ⟨wb, hwb⟩ : ∃ wb, w.alloc (.cells #[.int .i64 a, .int .i64 b, .int .u8 c] 48) = wb := ⟨_, rfl⟩
  have HB : Hid (Below w.heap.size w wb) := by show Below _ _ _; rw [← hwb]; exact (Below.refl _ _).alloc (Nat.le_refl _) _
  have d1 : wb.cell? ⟨w.heap.size, 0, none⟩ = some (.int .i64 a) := by rw [← hwb]; unfold World.cell?; simp only [heap_alloc_new]; rfl
  have d2 : wb.cell? ⟨w.heap.size, 1, none⟩ = some (.int .i64 b) := by rw [← hwb]; unfold World.cell?; simp only [heap_alloc_new]; rfl
  have d3 : wb.cell? ⟨w.heap.size, 2, none⟩ = some (.int .u8 c) := by rw [← hwb]; unfold World.cell?; simp only [heap_alloc_new]; rfl
  have HS1 := hide (h1.below HB.out)
  have HS2 := hide (h2.below HB.out)
  have hLl := (okP_parts hL).1
  have hDl := (okP_parts hD).1
  have HLA := hide (fun i (hi : i < 286) => okP_at hL hi)
  have HDA := hide (fun i (hi : i < 30) => okP_at hD hi)
  obtain ⟨a1, c1, rfl, _, _⟩ := h1.open
  obtain ⟨a2, c2, rfl, _, _⟩ := h2.open
  have HBB : Hid (Below wb.heap.size wb wb) := Below.refl _ _
  clear h1 h2 hL hD
  by_cases h0 : a = 0 ∧ b = 0
  · obtain ⟨ha, hb0⟩ := h0
    have hs : sndb (a, b, c) = true := by unfold sndb Snd; simp [ha, hb0]
    have b0 : 0 ≤ c := hb.1
    have b1 : c < 256 := hb.2
    obtain ⟨n3, rfl⟩ := Int.eq_ofNat_of_zero_le b0
    have e1 : litS (a, b, (n3 : Int)) = n3 := by unfold litS; rw [if_pos ha]; simp
    have HQ : Hid (tkC L D (a, b, (n3 : Int)) = L.getD n3 0 ∧ tkE (a, b, (n3 : Int)) = 0) := by
      unfold tkC tkE
      rw [if_pos hs, if_pos hs, e1, if_pos ha]
      exact ⟨by omega, rfl⟩
    rw [HQ.out.1, HQ.out.2]
    obtain ⟨bb, o, rfl, hc⟩ := HS1.out.get HBB.out (show n3 < L.length by omega)
    obtain ⟨y, hy⟩ : ∃ y, L.getD n3 0 = y := ⟨_, rfl⟩
    rw [hy] at hc ⊢
    have hcv : IntKind.i64.wrap (n3 : Int) = (n3 : Int) := by rw [IntKind.wrap_i64]; omega
    have n3' : (n3 : Int) < (L.length : Int) := by omega
    rw [ha] at d1
    rw [hb0] at d2
    clear HQ hs e1 hy ha hb0 hb
    go_enter Tryd.func19, Tryd.ntmps19
    go_wp2
    go_ret2
    exact ⟨rfl, HB.out⟩
  · by_cases hA : 3 ≤ a ∧ a ≤ 258
    case neg =>
      have hs : sndb (a, b, c) = false := by
        unfold sndb Snd
        refine decide_eq_false ?_
        split
        · intro q; apply h0; simp_all
        · intro q; exact hA ⟨q.1, q.2.1⟩
      have HQ : Hid (tkC L D (a, b, c) = 0 ∧ tkE (a, b, c) = 211) := by unfold tkC tkE; rw [hs]; exact ⟨rfl, rfl⟩
      rw [HQ.out.1, HQ.out.2]
      have HL1 := hide (xlsymbol_no a wb hA)
      have HD1 := hide (fun w1 => xdsymbol_no b w1)
      have HD2 := hide (fun x i w1 h1 h2 h3 => xdsymbol_any x i w1 h1 h2 h3)
      have hab : (a == 0) = true ∧ (b == 0) = false ∨ (a == 0) = false := by
        by_cases q : a = 0
        · left; refine ⟨by simpa using q, ?_⟩; have : ¬ b = 0 := fun r => h0 ⟨q, r⟩; simpa using this
        · right; simpa using q
      clear HQ hs h0 hA hb
      by_cases hB : 1 ≤ b ∧ b ≤ 32768
      · obtain ⟨x, rfl⟩ := Int.eq_ofNat_of_zero_le (show 0 ≤ b by omega)
        have HDD := hide (fun w1 => HD2.out x (dsy x) w1 (dsy_spec (by omega)) (by omega) (by omega))
        obtain ⟨F3, hF3⟩ : ∃ A, DF (dsy x) = A := ⟨_, rfl⟩
        obtain ⟨F4, hF4⟩ : ∃ A, x - DB (dsy x) = A := ⟨_, rfl⟩
        obtain ⟨Bx, hBx⟩ : ∃ A, dsy x = A := ⟨_, rfl⟩
        rw [hF3, hF4, hBx] at HDD
        clear HD1 HD2 hF3 hF4 hBx hB
        rcases hab with ⟨g1, g2⟩ | g1
        · go_enter Tryd.func19, Tryd.ntmps19
          go_wp2_with fail
          refine HL1.out.mono ?_
          rintro e w1 ⟨rfl, hw1⟩
          subst hw1
          go_wp2_with fail
          refine (HDD.out _).mono ?_
          rintro e w1 ⟨rfl, hw1⟩
          subst hw1
          go_wp2
          go_ret2
          exact ⟨rfl, HB.out⟩
        · go_enter Tryd.func19, Tryd.ntmps19
          go_wp2_with fail
          refine HL1.out.mono ?_
          rintro e w1 ⟨rfl, hw1⟩
          subst hw1
          go_wp2_with fail
          refine (HDD.out _).mono ?_
          rintro e w1 ⟨rfl, hw1⟩
          subst hw1
          go_wp2
          go_ret2
          exact ⟨rfl, HB.out⟩
      · have HDD := hide (fun w1 => HD1.out w1 hB)
        clear HD1 HD2 hB
        rcases hab with ⟨g1, g2⟩ | g1
        · go_enter Tryd.func19, Tryd.ntmps19
          go_wp2_with fail
          refine HL1.out.mono ?_
          rintro e w1 ⟨rfl, hw1⟩
          subst hw1
          go_wp2_with fail
          refine (HDD.out _).mono ?_
          rintro e w1 ⟨rfl, hw1⟩
          subst hw1
          go_wp2
          go_ret2
          exact ⟨rfl, HB.out⟩
        · go_enter Tryd.func19, Tryd.ntmps19
          go_wp2_with fail
          refine HL1.out.mono ?_
          rintro e w1 ⟨rfl, hw1⟩
          subst hw1
          go_wp2_with fail
          refine (HDD.out _).mono ?_
          rintro e w1 ⟨rfl, hw1⟩
          subst hw1
          go_wp2
          go_ret2
          exact ⟨rfl, HB.out⟩
    case pos =>
      obtain ⟨p1, p2⟩ := hA
      obtain ⟨x1, rfl⟩ := Int.eq_ofNat_of_zero_le (show 0 ≤ a by omega)
      have z0 : ((x1 : Int) == 0) = false := by simp; omega
      have HLS := hide (xlsymbol_any x1 (lsy x1) wb (lsy_spec (by omega)) (by omega) (by omega))
      have hls := (lsy_spec (x := x1) (by omega)).1
      by_cases hB : 1 ≤ b ∧ b ≤ 32768
      case neg =>
        have hs : sndb ((x1 : Int), b, c) = false := by
          unfold sndb Snd
          refine decide_eq_false ?_
          rw [if_neg (show ¬ ((x1 : Int) = 0) by omega)]
          intro q
          exact hB ⟨q.2.2.1, q.2.2.2.1⟩
        have HQ : Hid (tkC L D ((x1 : Int), b, c) = 0 ∧ tkE ((x1 : Int), b, c) = 211) := by unfold tkC tkE; rw [hs]; exact ⟨rfl, rfl⟩
        rw [HQ.out.1, HQ.out.2]
        have HDD := hide (fun w1 => xdsymbol_no b w1 hB)
        obtain ⟨A, hA⟩ : ∃ A, 257 + lsy x1 = A := ⟨_, rfl⟩
        obtain ⟨F1, hF1⟩ : ∃ A, LF (lsy x1) = A := ⟨_, rfl⟩
        obtain ⟨F2, hF2⟩ : ∃ A, x1 - LB (lsy x1) = A := ⟨_, rfl⟩
        rw [hA, hF1, hF2] at HLS
        clear HQ hs h0 hB hb hA hF1 hF2 p1 p2 hls
        go_enter Tryd.func19, Tryd.ntmps19
        go_wp2_with fail
        refine HLS.out.mono ?_
        rintro e w1 ⟨rfl, hw1⟩
        subst hw1
        go_wp2_with fail
        refine (HDD.out _).mono ?_
        rintro e w1 ⟨rfl, hw1⟩
        subst hw1
        go_wp2
        go_ret2
        exact ⟨rfl, HB.out⟩
      case pos =>
        obtain ⟨x2, rfl⟩ := Int.eq_ofNat_of_zero_le (show 0 ≤ b by omega)
        have HDS := hide (fun w1 => xdsymbol_any x2 (dsy x2) w1 (dsy_spec (by omega)) (by omega) (by omega))
        have hds := (dsy_spec (x := x2) (by omega)).1
        obtain ⟨A, hA⟩ : ∃ A, 257 + lsy x1 = A := ⟨_, rfl⟩
        obtain ⟨F1, hF1⟩ : ∃ A, LF (lsy x1) = A := ⟨_, rfl⟩
        obtain ⟨F2, hF2⟩ : ∃ A, x1 - LB (lsy x1) = A := ⟨_, rfl⟩
        obtain ⟨F3, hF3⟩ : ∃ A, DF (dsy x2) = A := ⟨_, rfl⟩
        obtain ⟨F4, hF4⟩ : ∃ A, x2 - DB (dsy x2) = A := ⟨_, rfl⟩
        obtain ⟨Bx, hBx⟩ : ∃ A, dsy x2 = A := ⟨_, rfl⟩
        rw [hA, hF1, hF2] at HLS
        rw [hF3, hF4, hBx] at HDS
        rw [hBx] at hds
        by_cases hc : c = 0
        · have hs : sndb ((x1 : Int), (x2 : Int), c) = true := by
            unfold sndb Snd
            refine decide_eq_true ?_
            rw [if_neg (show ¬ ((x1 : Int) = 0) by omega)]
            exact ⟨p1, p2, hB.1, hB.2, hc⟩
          have e1 : litS ((x1 : Int), (x2 : Int), c) = A := by unfold litS; rw [if_neg (show ¬ ((x1 : Int) = 0) by omega)]; simpa using hA
          have HQ : Hid (tkC L D ((x1 : Int), (x2 : Int), c) = L.getD A 0 + D.getD Bx 0 ∧ tkE ((x1 : Int), (x2 : Int), c) = 0) := by
            unfold tkC tkE
            rw [if_pos hs, if_pos hs, e1, if_neg (show ¬ ((x1 : Int) = 0) by omega)]
            refine ⟨?_, rfl⟩
            show L.getD A 0 + D.getD (dsy ((x2 : Int)).toNat) 0 = _
            rw [show ((x2 : Int)).toNat = x2 by simp, hBx]
          rw [HQ.out.1, HQ.out.2]
          obtain ⟨bb, o, rfl, hc1⟩ := HS1.out.get HBB.out (show A < L.length by omega)
          obtain ⟨bb2, o2, rfl, hc2⟩ := HS2.out.get HBB.out (show Bx < D.length by omega)
          have q1 := HLA.out A (by omega)
          have q2 := HDA.out Bx (by omega)
          obtain ⟨y1, hy1⟩ : ∃ y, L.getD A 0 = y := ⟨_, rfl⟩
          obtain ⟨y2, hy2⟩ : ∃ y, D.getD Bx 0 = y := ⟨_, rfl⟩
          rw [hy1] at hc1 q1 ⊢
          rw [hy2] at hc2 q2 ⊢
          have A' : (A : Int) < (L.length : Int) := by omega
          have B' : (Bx : Int) < (D.length : Int) := by omega
          have hwr : wrap64 (y1 + y2) = y1 + y2 := by unfold wrap64; omega
          rw [← hwr]
          rw [hc] at d3
          clear HQ hs e1 h0 hB hb hA hF1 hF2 hF3 hF4 hBx p1 p2 hls hds q1 q2 hy1 hy2 hc
          go_enter Tryd.func19, Tryd.ntmps19
          go_wp2_with fail
          refine HLS.out.mono ?_
          rintro e w1 ⟨rfl, hw1⟩
          subst hw1
          go_wp2_with fail
          refine (HDS.out _).mono ?_
          rintro e w1 ⟨rfl, hw1⟩
          subst hw1
          go_wp2
          go_quiet (fail)
          go_wp2
          go_ret2
          exact ⟨rfl, below_drewN HB.out _⟩
        · have hs : sndb ((x1 : Int), (x2 : Int), c) = false := by
            unfold sndb Snd
            refine decide_eq_false ?_
            rw [if_neg (show ¬ ((x1 : Int) = 0) by omega)]
            intro q
            exact hc q.2.2.2.2
          have HQ : Hid (tkC L D ((x1 : Int), (x2 : Int), c) = 0 ∧ tkE ((x1 : Int), (x2 : Int), c) = 211) := by unfold tkC tkE; rw [hs]; exact ⟨rfl, rfl⟩
          rw [HQ.out.1, HQ.out.2]
          have hc' : (c != 0) = true := by simpa using hc
          clear HQ hs h0 hB hb hA hF1 hF2 hF3 hF4 hBx p1 p2 hls hds hc
          go_enter Tryd.func19, Tryd.ntmps19
          go_wp2_with fail
          refine HLS.out.mono ?_
          rintro e w1 ⟨rfl, hw1⟩
          subst hw1
          go_wp2_with fail
          refine (HDS.out _).mono ?_
          rintro e w1 ⟨rfl, hw1⟩
          subst hw1
          go_wp2
          go_ret2
          exact ⟨rfl, HB.out⟩
end Go.Proofs.YtkmefeihkmbngaaDoor

