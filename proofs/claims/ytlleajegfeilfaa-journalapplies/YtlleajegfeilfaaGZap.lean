import Derived.Test.YtlleajegfeilfaaGApy
namespace Go.Proofs.Ytlleajegfeilfaa
open Go.RowKit Go.Maps
set_option maxRecDepth 20000
set_option linter.unusedVariables false
set_option linter.unusedSimpArgs false

set_option maxHeartbeats 16000000 in
theorem zApply_any (vc v : Value) (C : List Int) (R : List We) (size : Int) (w : World) (hc : SB w vc C) (hC : C.length ≤ 140737488351232) (h : SW w v R) (hs : sml R) (ho : ∀ e ∈ R, -9223372036854775808 ≤ e.at' ∧ e.at' ≤ 9223372036854775807) :
    Calls Try.prog 12 #[vc, .int .i64 size, v] w fun e w' => ∃ v', e = .returned (.tuple #[v', .int .i64 (apE C.length size (nms R))]) ∧ OB w' w.heap.size v' (apR C size R) ∧ Below w.heap.size w w' := by
  have HI := hide (fun w' => zinSize_any size w')
  have HC := hide hc
  obtain ⟨co, cco, rfl, d1, d2, -, -⟩ := hc
  unfold maxLen at d2
  by_cases hbig : 16777216 < C.length
  case pos =>
    have HE : Hid (apE C.length size (nms R) = 1 ∧ apR C size R = []) := by
      have e : apE C.length size (nms R) = 1 := if_pos (.inl hbig)
      exact ⟨e, if_neg (by rw [e]; decide)⟩
    have hbg : (16777216 : Int) < (C.length : Int) := by omega
    clear h
    go_enter Try.func12, Try.ntmps12
    go_wp2
    go_ret2
    rw [HE.out.1, HE.out.2]
    exact ⟨_, rfl, World.ownsRow_nil _ _ _ _, Below.refl _ _⟩
  have hbg : (C.length : Int) ≤ 16777216 := by omega
  by_cases hd : domN size
  case neg =>
    have HE : Hid (apE C.length size (nms R) = 1 ∧ apR C size R = []) := by
      have e : apE C.length size (nms R) = 1 := if_pos (.inr hd)
      exact ⟨e, if_neg (by rw [e]; decide)⟩
    rw [decide_eq_false hd] at HI
    clear hd h
    go_enter Try.func12, Try.ntmps12
    go_wp2_with (go_at_call 26; refine (HI.out _).mono ?_; rintro e w2 ⟨rfl, h2⟩; subst h2)
    go_ret2
    rw [HE.out.1, HE.out.2]
    exact ⟨_, rfl, World.ownsRow_nil _ _ _ _, Below.refl _ _⟩
  rw [decide_eq_true hd] at HI
  have HRG := hide (zRight_any v R size w h hd ho hs.2)
  by_cases hr : rgt size (nms R) 0 = true
  case neg =>
    have hr' : rgt size (nms R) 0 = false := by simpa using hr
    have HE : Hid (apE C.length size (nms R) = 143 ∧ apR C size R = []) := by
      have e : apE C.length size (nms R) = 143 := by unfold apE; rw [if_neg (fun q => q.elim (fun x => absurd x (by omega)) (fun x => x hd)), if_pos hr']
      exact ⟨e, if_neg (by rw [e]; decide)⟩
    rw [hr'] at HRG
    clear hr hr' hd h ho
    go_enter Try.func12, Try.ntmps12
    go_wp2_with fail
    refine (HI.out _).mono ?_
    rintro e w2 ⟨rfl, h2⟩
    rw [h2]
    clear h2 w2
    go_wp2_with fail
    refine HRG.out.mono ?_
    rintro e w3 ⟨rfl, hb3⟩
    have HB3 := hide hb3
    clear hb3
    go_wp2
    go_ret2
    rw [HE.out.1, HE.out.2]
    exact ⟨_, rfl, World.ownsRow_nil _ _ _ _, HB3.out⟩
  obtain ⟨n, rfl⟩ : ∃ n : Nat, size = (n : Int) := ⟨size.toNat, by have := hd.1; omega⟩
  have hn : n ≤ 16777216 := by have := hd.2; omega
  have HE : Hid (apE C.length (n : Int) (nms R) = 0 ∧ apR C (n : Int) R = apl C n (prs R)) := by
    have e : apE C.length (n : Int) (nms R) = 0 := by unfold apE; rw [if_neg (fun q => q.elim (fun x => absurd x (by omega)) (fun x => x hd)), if_neg (by rw [hr]; decide)]
    exact ⟨e, if_pos e⟩
  have HS := hide h
  have HRT := hide hr
  obtain ⟨ca, ccap, rfl, c1, c2⟩ := h.open
  rw [hr] at HRG
  clear hr hd h ho
  go_enter Try.func12, Try.ntmps12
  go_wp2_with fail
  refine (HI.out _).mono ?_
  rintro e w2 ⟨rfl, h2⟩
  rw [h2]
  clear h2 w2
  go_wp2_with fail
  refine HRG.out.mono ?_
  rintro e w3 ⟨rfl, hb3⟩
  have HB3 := hide hb3
  clear hb3
  go_wp2_with (at_make; refine wpList_mk rfl _ _ rfl _ _ _ _ n n rfl rfl rfl rfl (Nat.le_refl _) (by omega) ?_)
  intro w4 hg hb4
  have HO4 : Hid (OB w4 w3.heap.size (.slice (some ⟨w3.heap.size, 0, none⟩) n n) (C.take 0 ++ List.replicate (n - 0) 0)) := by
    have := OB.of_full (l := List.replicate n 0) (base := w3.heap.size) (w := w4) (g := w3.heap.size) (by rw [hg, List.map_replicate]; simp) (Nat.le_refl _) (by simp; unfold maxLen; omega)
    show OB _ _ _ _
    simpa using this
  have HB4 := hide hb4
  clear hg hb4
  go_wp2
  go_loopw [10] (fun i wr => ∃ k : Nat, i = .int .i64 (k : Int) ∧ k ≤ n ∧ k ≤ C.length ∧ Hid (OB wr w3.heap.size (.slice (some ⟨w3.heap.size, 0, none⟩) n n) (C.take k ++ List.replicate (n - k) 0)) ∧ Hid (Below w3.heap.size w3 wr)) (fun i _ => n - (intOf i).toNat)
  case atStart => exact ⟨0, rfl, Nat.zero_le _, Nat.zero_le _, HO4.out, HB4.out⟩
  case round =>
    obtain ⟨k, rfl, hk1, hk2, HO, HB⟩ := hrel
    have hlen : (C.take k ++ List.replicate (n - k) 0).length = n := run_len C hk2 hk1
    by_cases hlt : k < n ∧ k < C.length
    case pos =>
      obtain ⟨hl1, hl2⟩ := hlt
      have hl1' : (k : Int) < (n : Int) := by omega
      have hl2' : (k : Int) < (C.length : Int) := by omega
      have HO' : Hid (OB wr w3.heap.size (.slice (some ⟨w3.heap.size, 0, none⟩) (C.take k ++ List.replicate (n - k) 0).length n) (C.take k ++ List.replicate (n - k) 0)) := by rw [hlen]; exact HO.out
      obtain ⟨q0, q1⟩ := HO'.out.cellAt (j := k) (by rw [hlen]; omega)
      have hs1 := HO'.out.setAt (j := k) (C.getD k 0)
      rw [set_run C hl2 hl1, hlen] at hs1
      have HN := hide hs1
      have hsb := (HC.out.below HB3.out).below HB.out
      obtain ⟨x, hx, hcell⟩ : ∃ x : Addr, co = some x ∧ ∀ i, i < C.length → wr.cell? (x.add i) = some (.int .u8 (C.getD i 0)) := by
        obtain ⟨ao', cap', he, a1, a2, a3, a4⟩ := hsb
        simp only [Value.slice.injEq] at he
        obtain ⟨rfl, _, rfl⟩ := he
        cases co with
        | none => have := a3 rfl; omega
        | some x => exact ⟨x, rfl, a4 x rfl⟩
      subst hx
      obtain ⟨b, o, rfl⟩ := addr_lit (hcell 0 (by omega))
      have c0 := hcell k hl2
      rw [Addr.add_lit] at c0
      obtain ⟨y, hy⟩ : ∃ y, y = C.getD k 0 := ⟨_, rfl⟩
      rw [← hy] at c0 HN
      have HB2 : Hid (Below w3.heap.size w3 (wr.setCell ⟨w3.heap.size, k, none⟩ (.int .u8 y))) := HB.out.setCell (Nat.le_refl _) _
      clear hs1 hsb hcell hlen HO' hy
      go_wp2
      go_roundw
      case rel => exact ⟨k + 1, by go_num, by omega, by omega, HN.out, HB2.out⟩
      case measure => simp [intOf]; omega
    case neg =>
      have HL0 : Hid (OB wr w3.heap.size (.slice (some ⟨w3.heap.size, 0, none⟩) n n) (apl C n ((prs R).take 0))) := by
        have e : C.take k ++ List.replicate (n - k) 0 = apl C n ((prs R).take 0) := by
          rw [List.take_zero]
          show _ = ap0 C n
          unfold ap0
          by_cases hkn : k = n
          · subst hkn
            rw [show k - C.length = 0 by omega, Nat.sub_self]
          · have : k = C.length := by omega
            subst this
            rw [List.take_length, List.take_of_length_le (by omega)]
        rw [← e]
        exact HO.out
      have HBW := hide HB.out
      have hcs : n ≤ k ∨ (k < n ∧ C.length ≤ k) := by omega
      clear hlt hlen HO HB
      rcases hcs with hcs | ⟨hcs, hcs2⟩
      · have z1 : ¬ (k : Int) < (n : Int) := by omega
        go_wp2
        go_loopw [11, 12] (fun i _ wq => ∃ j : Nat, i = .int .i64 (j : Int) ∧ j ≤ R.length ∧ Hid (OB wq w3.heap.size (.slice (some ⟨w3.heap.size, 0, none⟩) n n) (apl C n ((prs R).take j)) ∧ (apl C n ((prs R).take j)).length = n) ∧ Hid (Below w3.heap.size w3 wq)) (fun i _ _ => R.length - (intOf i).toNat)
        case atStart => exact ⟨0, rfl, Nat.zero_le _, ⟨HL0.out, ap0_len C n⟩, HBW.out⟩
        case round =>
          obtain ⟨j, rfl, hj, HG, HB⟩ := hrel
          by_cases hlt : j < R.length
          · have hlt' : (j : Int) < (R.length : Int) := by omega
            have HBw := hide (HB3.out.trans (HB.out.mono HB3.out.size))
            obtain ⟨b0, o0, a', c', hla, hbl, hdv, g0, g1, hsb, k1, k2⟩ := (HS.out.low HBw.out).row hlt
            have hb0 : b0 < w3.heap.size := by
              obtain ⟨b1, o1, _, _, h1, h2, _⟩ := (HS.out.low HB3.out).row hlt
              rw [hla] at h1
              simp only [Option.some.injEq, Addr.mk.injEq] at h1
              omega
            have hin := rgt_in _ 0 HRT.out (Int.le_refl _) ((nms R).getD j wn0) (by simp [List.getD, nms_len, hlt])
            have hap := apl_take (C := C) (n := n) (P := prs R) (j := j) (by rw [prs_len]; exact hlt)
            rw [n_get hlt] at hin
            rw [prs_get hlt] at hap
            obtain ⟨e, he⟩ : ∃ e, e = R.getD j we0 := ⟨_, rfl⟩
            have hsb0 : SB w3 e.dv e.l := by rw [he]; exact (HS.out.low HB3.out).2 _ (we_mem hlt)
            rw [← he] at hdv g0 g1 hsb k1 hin hap
            obtain ⟨at0, dv0, l0⟩ := e
            simp only [We.n] at hdv g0 g1 hsb k1 hin hap hsb0
            obtain ⟨A, rfl⟩ : ∃ A : Nat, at0 = (A : Int) := ⟨at0.toNat, by omega⟩
            rw [Int.toNat_natCast] at hap
            obtain ⟨i0, i1, i2⟩ := hin
            subst hla
            rw [hdv] at hsb0
            obtain ⟨bd, od, rfl, hbd, had⟩ : ∃ bd od, a' = some ⟨bd, od, none⟩ ∧ bd < w3.heap.size ∧ ∀ j, j < l0.length → w3.cell? ⟨bd, od + j, none⟩ = some (.int .u8 (l0.getD j 0)) := by
              obtain ⟨ao', cap', hx, x1, x2, x3, x4⟩ := hsb0
              simp only [Value.slice.injEq] at hx
              obtain ⟨rfl, -, rfl⟩ := hx
              cases a' with
              | none => have := x3 rfl; omega
              | some x =>
                have h0 := x4 x rfl 0 i1
                obtain ⟨b, o, rfl⟩ := addr_lit h0
                refine ⟨b, o, rfl, ?_, fun j hj => ?_⟩
                · have := World.block_lt_of_cell? _ _ h0
                  rw [Addr.add_lit] at this
                  exact this
                · have := x4 _ rfl j hj
                  rwa [Addr.add_lit] at this
            have HAD := hide had
            have HC3 : Hid (w3.cell? ⟨b0, o0 + j * 2, none⟩ = some (.int .i64 (A : Int)) ∧ w3.cell? ⟨b0, o0 + j * 2 + 1, none⟩ = some (.slice (some ⟨bd, od, none⟩) l0.length c')) := ⟨(HB.out.cell (p := ⟨b0, o0 + j * 2, none⟩) hb0).symm.trans g0, (HB.out.cell (p := ⟨b0, o0 + j * 2 + 1, none⟩) hb0).symm.trans g1⟩
            obtain ⟨L, hL⟩ : ∃ L, L = apl C n ((prs R).take j) := ⟨_, rfl⟩
            have HLn : Hid (L.length = n) := by rw [hL]; exact HG.out.2
            have HOL : Hid (OB wr w3.heap.size (.slice (some ⟨w3.heap.size, 0, none⟩) n n) (L.take A ++ l0.take 0 ++ L.drop (A + 0))) := by
              show OB _ _ _ _
              rw [List.take_zero, List.append_nil, Nat.add_zero, List.take_append_drop, hL]
              exact HG.out.1
            rw [← hL] at hap
            have HAP := hide hap
            have HBr := hide HB.out
            have hbn : b0 < w3.heap.size := hb0
            clear hdv he hsb hsb0 hL hap had g0 g1 HG HB HL0 HBW HBw hb0 hbl
            go_wp2
            go_loopw [12] (fun i wq => ∃ k : Nat, i = .int .i64 (k : Int) ∧ k ≤ l0.length ∧ Hid (OB wq w3.heap.size (.slice (some ⟨w3.heap.size, 0, none⟩) n n) (L.take A ++ l0.take k ++ L.drop (A + k))) ∧ Hid (Below w3.heap.size w3 wq)) (fun i _ => l0.length - (intOf i).toNat)
            case atStart => exact ⟨0, rfl, Nat.zero_le _, HOL.out, HBr.out⟩
            case round =>
              obtain ⟨kk, rfl, hkk, HO, HB⟩ := hrel
              have g0 := (HB.out.cell (p := ⟨b0, o0 + j * 2, none⟩) hbn).trans HC3.out.1
              have g1 := (HB.out.cell (p := ⟨b0, o0 + j * 2 + 1, none⟩) hbn).trans HC3.out.2
              by_cases hl2 : kk < l0.length
              · have hl2' : (kk : Int) < (l0.length : Int) := by omega
                have hlen : (L.take A ++ l0.take kk ++ L.drop (A + kk)).length = n := by rw [put_len L l0 hkk (by rw [HLn.out]; omega)]; exact HLn.out
                have HO' : Hid (OB wr w3.heap.size (.slice (some ⟨w3.heap.size, 0, none⟩) (L.take A ++ l0.take kk ++ L.drop (A + kk)).length n) (L.take A ++ l0.take kk ++ L.drop (A + kk))) := by rw [hlen]; exact HO.out
                obtain ⟨q0, q1⟩ := HO'.out.cellAt (j := A + kk) (by rw [hlen]; omega)
                have hs1 := HO'.out.setAt (j := A + kk) (l0.getD kk 0)
                rw [set_put L l0 hl2 (by rw [HLn.out]; omega), hlen] at hs1
                have g2 := (HB.out.cell (p := ⟨bd, od + kk, none⟩) hbd).trans (HAD.out kk hl2)
                obtain ⟨y, hy⟩ : ∃ y, y = l0.getD kk 0 := ⟨_, rfl⟩
                rw [← hy] at hs1 g2
                have HN := hide hs1
                have HB2 : Hid (Below w3.heap.size w3 (wr.setCell ⟨w3.heap.size, A + kk, none⟩ (.int .u8 y))) := HB.out.setCell (Nat.le_refl _) _
                have hlk : (A : Int) + (kk : Int) < (n : Int) := by omega
                obtain ⟨y0, hy0⟩ : ∃ y0, y0 = (L.take A ++ l0.take kk ++ L.drop (A + kk)).getD (A + kk) 0 := ⟨_, rfl⟩
                rw [← hy0] at q0
                clear hs1 hlen HO' hy HO hy0
                have HQ := hide (And.intro g0 (And.intro g1 g2))
                have HQ2 : Hid ((wr.setCell ⟨w3.heap.size, A + kk, none⟩ (.int .u8 y)).cell? ⟨b0, o0 + j * 2, none⟩ = some (.int .i64 (A : Int)) ∧ (wr.setCell ⟨w3.heap.size, A + kk, none⟩ (.int .u8 y)).cell? ⟨b0, o0 + j * 2 + 1, none⟩ = some (.slice (some ⟨bd, od, none⟩) l0.length c') ∧ (wr.setCell ⟨w3.heap.size, A + kk, none⟩ (.int .u8 y)).cell? ⟨bd, od + kk, none⟩ = some (.int .u8 y)) := ⟨(HB2.out.cell (p := ⟨b0, o0 + j * 2, none⟩) hbn).trans HC3.out.1, (HB2.out.cell (p := ⟨b0, o0 + j * 2 + 1, none⟩) hbn).trans HC3.out.2, (HB2.out.cell (p := ⟨bd, od + kk, none⟩) hbd).trans ((HB.out.cell (p := ⟨bd, od + kk, none⟩) hbd).symm.trans g2)⟩
                have hlk2 : (0 : Int) ≤ (A : Int) + (kk : Int) := by omega
                have hwr : IntKind.i64.wrap ((A : Int) + (kk : Int)) = (A : Int) + (kk : Int) := by rw [IntKind.wrap_i64]; omega
                have htn : ((A : Int) + (kk : Int)).toNat = A + kk := by omega
                go_wp2
                go_region_held3 (fun W => W.cell? ⟨b0, o0 + j * 2, none⟩ = some (.int .i64 (A : Int)) ∧ W.cell? ⟨b0, o0 + j * 2 + 1, none⟩ = some (.slice (some ⟨bd, od, none⟩) l0.length c') ∧ W.cell? ⟨bd, od + kk, none⟩ = some (.int .u8 y)) (first | exact HQ.out | exact HQ2.out) (fail)
                go_wp2
                go_roundw
                case rel => exact ⟨kk + 1, by go_num, by omega, HN.out.move (fun _ _ => rfl), HB2.out.drew⟩
                case measure => simp [intOf]; omega
              · have hke : kk = l0.length := by omega
                subst hke
                have HNX : Hid (OB wr w3.heap.size (.slice (some ⟨w3.heap.size, 0, none⟩) n n) (apl C n ((prs R).take (j + 1))) ∧ (apl C n ((prs R).take (j + 1))).length = n) := by
                  have e : L.take A ++ l0.take l0.length ++ L.drop (A + l0.length) = apl C n ((prs R).take (j + 1)) := by
                    rw [HAP.out, List.take_length]
                    rfl
                  rw [← e]
                  refine ⟨HO.out, ?_⟩
                  rw [put_len L l0 (Nat.le_refl _) (by rw [HLn.out]; omega)]
                  exact HLn.out
                clear HO
                go_wp2
                go_roundw
                case rel => exact ⟨j + 1, by go_num, by omega, HNX.out, HB.out⟩
                case measure => simp [intOf]; omega
          · have hje : j = R.length := by omega
            subst hje
            have HF := HG.out.1
            rw [← prs_len, List.take_length] at HF
            have HF2 := hide (HF.base HB3.out.size)
            have HBF := hide (HB3.out.trans (HB.out.mono HB3.out.size))
            clear HF
            go_wp2
            go_ret2
            rw [HE.out.1, HE.out.2]
            exact ⟨_, rfl, HF2.out, HBF.out⟩
      · have z1 : (k : Int) < (n : Int) := by omega
        have z2 : ¬ (k : Int) < (C.length : Int) := by omega
        go_wp2
        go_loopw [11, 12] (fun i _ wq => ∃ j : Nat, i = .int .i64 (j : Int) ∧ j ≤ R.length ∧ Hid (OB wq w3.heap.size (.slice (some ⟨w3.heap.size, 0, none⟩) n n) (apl C n ((prs R).take j)) ∧ (apl C n ((prs R).take j)).length = n) ∧ Hid (Below w3.heap.size w3 wq)) (fun i _ _ => R.length - (intOf i).toNat)
        case atStart => exact ⟨0, rfl, Nat.zero_le _, ⟨HL0.out, ap0_len C n⟩, HBW.out⟩
        case round =>
          obtain ⟨j, rfl, hj, HG, HB⟩ := hrel
          by_cases hlt : j < R.length
          · have hlt' : (j : Int) < (R.length : Int) := by omega
            have HBw := hide (HB3.out.trans (HB.out.mono HB3.out.size))
            obtain ⟨b0, o0, a', c', hla, hbl, hdv, g0, g1, hsb, k1, k2⟩ := (HS.out.low HBw.out).row hlt
            have hb0 : b0 < w3.heap.size := by
              obtain ⟨b1, o1, _, _, h1, h2, _⟩ := (HS.out.low HB3.out).row hlt
              rw [hla] at h1
              simp only [Option.some.injEq, Addr.mk.injEq] at h1
              omega
            have hin := rgt_in _ 0 HRT.out (Int.le_refl _) ((nms R).getD j wn0) (by simp [List.getD, nms_len, hlt])
            have hap := apl_take (C := C) (n := n) (P := prs R) (j := j) (by rw [prs_len]; exact hlt)
            rw [n_get hlt] at hin
            rw [prs_get hlt] at hap
            obtain ⟨e, he⟩ : ∃ e, e = R.getD j we0 := ⟨_, rfl⟩
            have hsb0 : SB w3 e.dv e.l := by rw [he]; exact (HS.out.low HB3.out).2 _ (we_mem hlt)
            rw [← he] at hdv g0 g1 hsb k1 hin hap
            obtain ⟨at0, dv0, l0⟩ := e
            simp only [We.n] at hdv g0 g1 hsb k1 hin hap hsb0
            obtain ⟨A, rfl⟩ : ∃ A : Nat, at0 = (A : Int) := ⟨at0.toNat, by omega⟩
            rw [Int.toNat_natCast] at hap
            obtain ⟨i0, i1, i2⟩ := hin
            subst hla
            rw [hdv] at hsb0
            obtain ⟨bd, od, rfl, hbd, had⟩ : ∃ bd od, a' = some ⟨bd, od, none⟩ ∧ bd < w3.heap.size ∧ ∀ j, j < l0.length → w3.cell? ⟨bd, od + j, none⟩ = some (.int .u8 (l0.getD j 0)) := by
              obtain ⟨ao', cap', hx, x1, x2, x3, x4⟩ := hsb0
              simp only [Value.slice.injEq] at hx
              obtain ⟨rfl, -, rfl⟩ := hx
              cases a' with
              | none => have := x3 rfl; omega
              | some x =>
                have h0 := x4 x rfl 0 i1
                obtain ⟨b, o, rfl⟩ := addr_lit h0
                refine ⟨b, o, rfl, ?_, fun j hj => ?_⟩
                · have := World.block_lt_of_cell? _ _ h0
                  rw [Addr.add_lit] at this
                  exact this
                · have := x4 _ rfl j hj
                  rwa [Addr.add_lit] at this
            have HAD := hide had
            have HC3 : Hid (w3.cell? ⟨b0, o0 + j * 2, none⟩ = some (.int .i64 (A : Int)) ∧ w3.cell? ⟨b0, o0 + j * 2 + 1, none⟩ = some (.slice (some ⟨bd, od, none⟩) l0.length c')) := ⟨(HB.out.cell (p := ⟨b0, o0 + j * 2, none⟩) hb0).symm.trans g0, (HB.out.cell (p := ⟨b0, o0 + j * 2 + 1, none⟩) hb0).symm.trans g1⟩
            obtain ⟨L, hL⟩ : ∃ L, L = apl C n ((prs R).take j) := ⟨_, rfl⟩
            have HLn : Hid (L.length = n) := by rw [hL]; exact HG.out.2
            have HOL : Hid (OB wr w3.heap.size (.slice (some ⟨w3.heap.size, 0, none⟩) n n) (L.take A ++ l0.take 0 ++ L.drop (A + 0))) := by
              show OB _ _ _ _
              rw [List.take_zero, List.append_nil, Nat.add_zero, List.take_append_drop, hL]
              exact HG.out.1
            rw [← hL] at hap
            have HAP := hide hap
            have HBr := hide HB.out
            have hbn : b0 < w3.heap.size := hb0
            clear hdv he hsb hsb0 hL hap had g0 g1 HG HB HL0 HBW HBw hb0 hbl
            go_wp2
            go_loopw [12] (fun i wq => ∃ k : Nat, i = .int .i64 (k : Int) ∧ k ≤ l0.length ∧ Hid (OB wq w3.heap.size (.slice (some ⟨w3.heap.size, 0, none⟩) n n) (L.take A ++ l0.take k ++ L.drop (A + k))) ∧ Hid (Below w3.heap.size w3 wq)) (fun i _ => l0.length - (intOf i).toNat)
            case atStart => exact ⟨0, rfl, Nat.zero_le _, HOL.out, HBr.out⟩
            case round =>
              obtain ⟨kk, rfl, hkk, HO, HB⟩ := hrel
              have g0 := (HB.out.cell (p := ⟨b0, o0 + j * 2, none⟩) hbn).trans HC3.out.1
              have g1 := (HB.out.cell (p := ⟨b0, o0 + j * 2 + 1, none⟩) hbn).trans HC3.out.2
              by_cases hl2 : kk < l0.length
              · have hl2' : (kk : Int) < (l0.length : Int) := by omega
                have hlen : (L.take A ++ l0.take kk ++ L.drop (A + kk)).length = n := by rw [put_len L l0 hkk (by rw [HLn.out]; omega)]; exact HLn.out
                have HO' : Hid (OB wr w3.heap.size (.slice (some ⟨w3.heap.size, 0, none⟩) (L.take A ++ l0.take kk ++ L.drop (A + kk)).length n) (L.take A ++ l0.take kk ++ L.drop (A + kk))) := by rw [hlen]; exact HO.out
                obtain ⟨q0, q1⟩ := HO'.out.cellAt (j := A + kk) (by rw [hlen]; omega)
                have hs1 := HO'.out.setAt (j := A + kk) (l0.getD kk 0)
                rw [set_put L l0 hl2 (by rw [HLn.out]; omega), hlen] at hs1
                have g2 := (HB.out.cell (p := ⟨bd, od + kk, none⟩) hbd).trans (HAD.out kk hl2)
                obtain ⟨y, hy⟩ : ∃ y, y = l0.getD kk 0 := ⟨_, rfl⟩
                rw [← hy] at hs1 g2
                have HN := hide hs1
                have HB2 : Hid (Below w3.heap.size w3 (wr.setCell ⟨w3.heap.size, A + kk, none⟩ (.int .u8 y))) := HB.out.setCell (Nat.le_refl _) _
                have hlk : (A : Int) + (kk : Int) < (n : Int) := by omega
                obtain ⟨y0, hy0⟩ : ∃ y0, y0 = (L.take A ++ l0.take kk ++ L.drop (A + kk)).getD (A + kk) 0 := ⟨_, rfl⟩
                rw [← hy0] at q0
                clear hs1 hlen HO' hy HO hy0
                have HQ := hide (And.intro g0 (And.intro g1 g2))
                have HQ2 : Hid ((wr.setCell ⟨w3.heap.size, A + kk, none⟩ (.int .u8 y)).cell? ⟨b0, o0 + j * 2, none⟩ = some (.int .i64 (A : Int)) ∧ (wr.setCell ⟨w3.heap.size, A + kk, none⟩ (.int .u8 y)).cell? ⟨b0, o0 + j * 2 + 1, none⟩ = some (.slice (some ⟨bd, od, none⟩) l0.length c') ∧ (wr.setCell ⟨w3.heap.size, A + kk, none⟩ (.int .u8 y)).cell? ⟨bd, od + kk, none⟩ = some (.int .u8 y)) := ⟨(HB2.out.cell (p := ⟨b0, o0 + j * 2, none⟩) hbn).trans HC3.out.1, (HB2.out.cell (p := ⟨b0, o0 + j * 2 + 1, none⟩) hbn).trans HC3.out.2, (HB2.out.cell (p := ⟨bd, od + kk, none⟩) hbd).trans ((HB.out.cell (p := ⟨bd, od + kk, none⟩) hbd).symm.trans g2)⟩
                have hlk2 : (0 : Int) ≤ (A : Int) + (kk : Int) := by omega
                have hwr : IntKind.i64.wrap ((A : Int) + (kk : Int)) = (A : Int) + (kk : Int) := by rw [IntKind.wrap_i64]; omega
                have htn : ((A : Int) + (kk : Int)).toNat = A + kk := by omega
                go_wp2
                go_region_held3 (fun W => W.cell? ⟨b0, o0 + j * 2, none⟩ = some (.int .i64 (A : Int)) ∧ W.cell? ⟨b0, o0 + j * 2 + 1, none⟩ = some (.slice (some ⟨bd, od, none⟩) l0.length c') ∧ W.cell? ⟨bd, od + kk, none⟩ = some (.int .u8 y)) (first | exact HQ.out | exact HQ2.out) (fail)
                go_wp2
                go_roundw
                case rel => exact ⟨kk + 1, by go_num, by omega, HN.out.move (fun _ _ => rfl), HB2.out.drew⟩
                case measure => simp [intOf]; omega
              · have hke : kk = l0.length := by omega
                subst hke
                have HNX : Hid (OB wr w3.heap.size (.slice (some ⟨w3.heap.size, 0, none⟩) n n) (apl C n ((prs R).take (j + 1))) ∧ (apl C n ((prs R).take (j + 1))).length = n) := by
                  have e : L.take A ++ l0.take l0.length ++ L.drop (A + l0.length) = apl C n ((prs R).take (j + 1)) := by
                    rw [HAP.out, List.take_length]
                    rfl
                  rw [← e]
                  refine ⟨HO.out, ?_⟩
                  rw [put_len L l0 (Nat.le_refl _) (by rw [HLn.out]; omega)]
                  exact HLn.out
                clear HO
                go_wp2
                go_roundw
                case rel => exact ⟨j + 1, by go_num, by omega, HNX.out, HB.out⟩
                case measure => simp [intOf]; omega
          · have hje : j = R.length := by omega
            subst hje
            have HF := HG.out.1
            rw [← prs_len, List.take_length] at HF
            have HF2 := hide (HF.base HB3.out.size)
            have HBF := hide (HB3.out.trans (HB.out.mono HB3.out.size))
            clear HF
            go_wp2
            go_ret2
            rw [HE.out.1, HE.out.2]
            exact ⟨_, rfl, HF2.out, HBF.out⟩
end Go.Proofs.Ytlleajegfeilfaa

