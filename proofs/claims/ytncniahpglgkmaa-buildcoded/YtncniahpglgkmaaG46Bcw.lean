import Derived.Test.YtncniahpglgkmaaG45Bcn
namespace Go.Proofs.Ytncniahpglgkmaa
open Go.RowKit Go.Maps
set_option maxRecDepth 20000
set_option linter.unusedVariables false
set_option linter.unusedSimpArgs false

theorem SB.get61 {w : World} {v : Value} {l : List Int} (h : SB w v l) {k : Nat} (hk : k < l.length) : ∃ b o c, v = .slice (some ⟨b, o, none⟩) l.length c ∧ l.length ≤ c ∧ c ≤ 9223372036854775807 ∧ w.cell? ⟨b, o + k, none⟩ = some (.int .u8 (l.getD k 0)) := by
  obtain ⟨ao, cap, rfl, h1, h2, h3, h4⟩ := h
  unfold maxLen at h2
  cases ao with
  | none => have := h3 rfl; omega
  | some x =>
    obtain ⟨b, o, rfl⟩ := addr_lit (h4 x rfl 0 (by omega))
    have := h4 _ rfl k hk
    rw [Addr.add_lit] at this
    exact ⟨b, o, cap, rfl, h1, by omega, this⟩

theorem cts_nil : cts [] = List.replicate 256 0 := by simp [cts, List.map_const']

theorem cts_step {t : List Int} {k x : Nat} (hk : k < t.length) (hx : t.getD k 0 = (x : Int)) (h256 : x < 256) : (cts (t.take k)).set x ((cts (t.take k)).getD x 0 + 1) = cts (t.take (k + 1)) := by
  have e : t.take (k + 1) = t.take k ++ [(x : Int)] := by
    rw [List.take_succ_eq_append_getElem hk]
    rw [List.getD_eq_getElem?_getD, List.getElem?_eq_getElem hk, Option.getD_some] at hx
    rw [hx]
  rw [e]
  apply List.ext_getElem
  · simp [cts_len]
  · intro i h1 h2
    rw [cts_len] at h2
    rw [List.getElem_set]
    by_cases ei : x = i
    · subst ei
      rw [if_pos rfl, cts_get _ h256]
      simp [cts, List.count_append]
    · rw [if_neg ei]
      have hxi : ¬ ((x : Int) = (i : Int)) := by omega
      simp [cts, List.count_append, List.count_cons, hxi]

set_option maxHeartbeats 2000000 in
theorem counts_any (v : Value) (t : List Int) (w : World) (h : SB w v t) (ht : ∀ i, 0 ≤ t.getD i 0 ∧ t.getD i 0 < 256) (hl : t.length ≤ 16777216) :
    Calls Try.prog 4 #[v] w fun e w' => ∃ a c, e = .returned (.slice a 256 c) ∧ OI w' w.heap.size (.slice a 256 c) (cts t) ∧ Below w.heap.size w w' := by
  have HS := hide h
  have HT := hide ht
  obtain ⟨ao, cap, rfl, hlc, hcm, -⟩ := h
  unfold maxLen at hcm
  clear ht
  go_enter Try.func4, Try.ntmps4
  go_wp2
  go_loopw [3, 4] (fun u i wr => ∃ k : Nat, k ≤ 256 ∧ i = .int .i64 (k : Int) ∧ Hid (OI wr w.heap.size u (List.replicate k 0)) ∧ Hid (Below w.heap.size w wr)) (fun _ i _ => 256 - (intOf i).toNat)
  case atStart => exact ⟨0, Nat.zero_le _, rfl, World.ownsRow_nil _ _ _ _, Below.refl _ _⟩
  case round =>
    obtain ⟨k, hk, rfl, HO, HB⟩ := hrel
    by_cases hlt : k < 256
    · have hlt' : (k : Int) < 256 := by omega
      obtain ⟨D, HD⟩ : ∃ D, Hid (D = List.replicate k (0 : Int)) := ⟨_, rfl⟩
      rw [← HD.out] at HO
      have hDl : D.length ≤ 256 := by rw [HD.out, List.length_replicate]; omega
      have hBw := HB.out.size
      obtain ⟨a1, p1, hu⟩ := HO.out.shape
      subst hu
      have HALC : Hid (OI (wr.alloc (.cells #[.int .i64 0] 3)) w.heap.size (.slice a1 D.length p1) D) := HO.out.alloc _
      have HSR : Hid (Src Try.prog 1 23 (.slice (some ⟨wr.heap.size, 0, none⟩) 1 1) ([0] : List Int).length (([0] : List Int).map (Value.int .i64)) (wr.alloc (.cells #[.int .i64 0] 3))) := built_srcI wr [0]
      go_wp2_with (at_builtin; refine wpList_appI rfl _ _ 23 rfl w.heap.size _ _ D [0] rfl HALC.out rfl HSR.out (by simp; omega) (by simp; omega) ?_)
      intro v3 w3 ho3 hgr3
      have HN : Hid (OI w3 w.heap.size v3 (List.replicate (k + 1) 0) ∧ Below w.heap.size w w3) := by
        refine ⟨by rw [List.replicate_succ', ← HD.out]; exact ho3, (HB.out.alloc hBw _).grown hgr3.by (by simp; omega) (fun j hj => by have := HO.out.lt j hj; omega)⟩
      clear ho3 hgr3
      go_wp2
      go_roundw
      case rel => exact ⟨k + 1, by omega, by go_num, HN.out.1, HN.out.2⟩
      case measure => simp [intOf]; omega
    · obtain rfl : k = 256 := by omega
      rw [← cts_nil] at HO
      obtain ⟨g, c, hv, g1, g2, g3, g4⟩ := HO.out.form (by rw [cts_len]; omega)
      rw [cts_len] at hv g3
      subst hv
      go_wp2
      go_loopw [5] (fun i wq => ∃ k : Nat, k ≤ t.length ∧ i = .int .i64 (k : Int) ∧ Hid (OI wq w.heap.size (.slice (some ⟨g, 0, none⟩) 256 c) (cts (t.take k))) ∧ Hid (Below w.heap.size w wq)) (fun i _ => t.length - (intOf i).toNat)
      case atStart => exact ⟨0, Nat.zero_le _, rfl, HO, HB⟩
      case round =>
        obtain ⟨j, hj, rfl, HO2, HB2⟩ := hrel
        clear HO HB
        by_cases hltj : j < t.length
        · have hltj' : (j : Int) < (t.length : Int) := by omega
          obtain ⟨b, o, cx, hv, -, -, hc⟩ := (HS.out.below HB2.out).get61 (k := j) hltj
          simp only [Value.slice.injEq, true_and] at hv
          obtain ⟨rfl, rfl⟩ := hv
          have htj := HT.out j
          obtain ⟨x, hx⟩ : ∃ x : Nat, t.getD j 0 = (x : Int) := ⟨(t.getD j 0).toNat, by omega⟩
          rw [hx] at hc htj
          have hx256 : x < 256 := by omega
          have HXX := hide hx
          clear hx htj
          have HGET := hide (HO2.out.get (b := g) rfl (i := x) (by rw [cts_len]; exact hx256))
          obtain ⟨y, HY⟩ : ∃ y : Int, Hid (y = (cts (t.take j)).getD x 0) := ⟨_, rfl⟩
          have hgc := HGET.out
          rw [← HY.out] at hgc
          have hy : 0 ≤ y ∧ y ≤ 16777216 := by
            rw [HY.out, cts_get _ hx256]
            have := List.count_le_length (a := (x : Int)) (l := t.take j)
            rw [List.length_take] at this
            omega
          obtain ⟨-, q2, q3⟩ := HO2.out.putg (k := x) (by rw [cts_len]; exact hx256) (y + 1)
          have HN : Hid (OI (wr.setCell ⟨g, x, none⟩ (.int .i64 (y + 1))) w.heap.size (.slice (some ⟨g, 0, none⟩) 256 c) (cts (t.take (j + 1)))) := by
            rw [← cts_step hltj HXX.out hx256, ← HY.out]
            exact q3
          have HNB : Hid (Below w.heap.size w (wr.setCell ⟨g, x, none⟩ (.int .i64 (y + 1)))) := HB2.out.setCell (p := ⟨g, x, none⟩) g1 _
          clear q3 HGET
          go_wp2
          go_roundw
          case rel => exact ⟨j + 1, by omega, by go_num, HN, HNB⟩
          case measure => simp [intOf]; omega
        · obtain rfl : j = t.length := by omega
          have hltj' : ¬ (t.length : Int) < (t.length : Int) := by omega
          rw [List.take_length] at HO2
          go_wp2
          go_ret
          exact ⟨_, _, rfl, HO2.out, HB2.out⟩

set_option maxHeartbeats 4000000 in
theorem coded_any (vt vl : Value) (t l : List Int) (w : World) (ht : SB w vt t) (hB : Byt t) (hl : SI w vl l) (hll : l.length ≤ 288) (hl24 : t.length ≤ 16777216) (hok : ∀ x ∈ t, lnI l x ≠ 0) (hbk : bkE l = 0) (hdc : t ≠ [] → dcE l = 0) :
    Calls Try.prog 10 #[vt, vl] w fun e w' => e = .returned (.tuple #[.int .i64 ((ft l t t.length).length : Nat), .bool true]) ∧ Below w.heap.size w w' := by
  have HS := hide ht
  have HSL := hide hl
  have HBY := hide hB
  have HBK := hide hbk
  have HDC := hide hdc
  have HOK := hide hok
  have HLL := hide hll
  have HLN := hide (bkE_zero hbk).1
  obtain ⟨ao, cap, rfl, hlc, hcm, -⟩ := ht
  obtain ⟨aol, capl, rfl, hlcl, hcml⟩ := hl.open
  unfold maxLen at hcm
  clear hl hB hbk hdc hok hll
  go_enter Try.func10, Try.ntmps10
  go_wp2_with fail
  refine (hnewW (Herd.nil w)).mono ?_
  rintro e w1 ⟨wg, Kw, rfl, h1⟩
  have HH1 : Hid (Herd w w1 [(Kw, tw wg [])]) := h1
  clear h1
  go_wp2_with fail
  refine (copied_any _ l w1 (HSL.out.below HH1.out.bel) (by have := HLL.out; omega)).mono ?_
  rintro e w2 ⟨a2, c2, rfl, ho2, hb2⟩
  have HO2 := hide ho2.sb
  have HH2 := hide (HH1.out.below hb2)
  clear ho2 hb2 HH1
  go_wp2_with fail
  refine (hencode HH2.out _ l HO2.out).mono ?_
  rintro e w3 (⟨h0, _⟩ | ⟨_, eg, Ke, rfl, h3⟩)
  · exact absurd HBK.out h0
  have HT0 : Hid (∃ K0 K1, Herd w w3 [(K0, tw wg (ft l t 0)), (K1, te eg l)]) := ⟨Kw, Ke, by
    have : ft l t 0 = [] := by simp [ft, kep, flat]
    rw [this]; exact h3⟩
  clear h3 HH2 HO2
  go_wp2
  go_loopw [9] (fun i wr => ∃ k : Nat, k ≤ t.length ∧ i = .int .i64 (k : Int) ∧ Hid (∃ K0 K1, Herd w wr [(K0, tw wg (ft l t k)), (K1, te eg l)])) (fun i _ => t.length - (intOf i).toNat)
  case atStart => exact ⟨0, Nat.zero_le _, rfl, HT0⟩
  case round =>
    clear HT0
    obtain ⟨k, hk, rfl, HT⟩ := hrel
    obtain ⟨K0, K1, hh⟩ := HT.out
    have HH := hide hh
    clear hh HT
    by_cases hlt : k < t.length
    · have hlt' : (k : Int) < (t.length : Int) := by omega
      obtain ⟨b, o, cx, hv, -, -, hc⟩ := (HS.out.below HH.out.bel).get61 (k := k) hlt
      simp only [Value.slice.injEq, true_and] at hv
      obtain ⟨rfl, rfl⟩ := hv
      have htj := HBY.out k
      have HNE : Hid (lnI l (t.getD k 0) ≠ 0) := HOK.out _ (by rw [List.getD_eq_getElem?_getD, List.getElem?_eq_getElem hlt]; exact List.getElem_mem hlt)
      have HPE : Hid (epE l (ft l t k) (t.getD k 0) = 0 ∧ epR l (ft l t k) (t.getD k 0) = ft l t (k + 1)) := ⟨(ep_ok HNE.out (by have := ft_len (syms := t) HLN.out k; omega) HLN.out).1, ft_put HLN.out hlt hl24⟩
      obtain ⟨x, HX⟩ : ∃ x, Hid (x = t.getD k 0) := ⟨_, rfl⟩
      rw [← HX.out] at hc htj HPE
      clear HNE
      go_wp2_with fail
      refine (heput HH.out 1 0 rfl rfl x (by omega) (by omega)).mono ?_
      rintro e w4 ⟨rfl, K2, h4⟩
      rw [HPE.out.2] at h4
      rw [HPE.out.1]
      have HN : Hid (∃ K0 K1, Herd w w4 [(K0, tw wg (ft l t (k + 1))), (K1, te eg l)]) := ⟨_, _, h4⟩
      clear h4 hc HH
      go_wp2
      go_roundw
      case rel => exact ⟨k + 1, by omega, by go_num, HN⟩
      case measure => simp [intOf]; omega
    · obtain rfl : k = t.length := by omega
      have hlt' : ¬ (t.length : Int) < (t.length : Int) := by omega
      obtain ⟨R, HR⟩ : ∃ R, Hid (R = ft l t t.length) := ⟨_, rfl⟩
      rw [← HR.out] at HH
      obtain ⟨Z, HZ⟩ : ∃ Z : Nat, Hid (Z = R.length) := ⟨_, rfl⟩
      have hzz : Z ≤ 268435456 := by rw [HZ.out]; exact (HH.out.bit 0 rfl).2
      by_cases h0 : t.length = 0
      · obtain rfl : t = [] := List.eq_nil_of_length_eq_zero h0
        have hz0 : Z = 0 := by
          rw [HZ.out, HR.out]; simp [ft, kep, flat]
        clear h0
        go_wp2_with fail
        have HL1 := hide (hlen HH.out 0 rfl)
        rw [← HZ.out] at HL1
        refine HL1.out.mono ?_
        rintro e w5 ⟨rfl, h5⟩
        have HL2 := hide (hlen h5 0 rfl)
        rw [← HZ.out] at HL2
        clear h5 HL1
        go_wp2_with fail
        refine HL2.out.mono ?_
        rintro e w6 ⟨rfl, h6⟩
        have HB6 := hide h6.bel
        have hzb : ((Z : Int) == 0) = true := beq_iff_eq.2 (by omega)
        have HZ0 := hide hz0
        clear h6 HL2 hz0
        go_wp2
        go_ret2
        refine ⟨?_, HB6.out⟩
        rw [← HR.out, ← HZ.out]
        first | done | rfl | (simp [hzb]; have := HZ0.out; omega)
      · have h0' : ((t.length : Int) == 0) = false := beq_eq_false_iff_ne.2 (by omega)
        have hne : ¬ t = [] := fun e => h0 (by rw [e]; rfl)
        have hnl : ¬ t.length = 0 := h0
        have hni : ¬ (t.length : Int) = 0 := by omega
        have HD : Hid (dcE l = 0) := HDC.out (fun e => h0 (by rw [e]; rfl))
        clear h0
        have hB1 := HH.out.bit 0 rfl
        obtain ⟨P, HP⟩ : ∃ P, Hid (P = pack R) := ⟨_, rfl⟩
        have hup := unpack_pack hB1.1
        have hpl := length_pack hB1.1
        obtain ⟨Zz, HZz⟩ : ∃ Q, Hid (pad R = R ++ Q) := ⟨_, rfl⟩
        have HPB : Hid (Bit (R ++ Zz)) := by rw [← HZz.out]; exact bit_pad hB1.1
        have hP1 : (pack R).length ≤ 33554432 := by rw [hpl]; have := hB1.2; omega
        rw [← HP.out] at hup hP1
        have HUP := hide hup
        clear hup hpl hB1
        go_wp2_with fail
        refine (hbytes HH.out 0 rfl).mono ?_
        rintro e w5 ⟨a5, c5, K5, rfl, h5⟩
        rw [← HP.out] at h5 ⊢
        have H5 : Hid (Herd w w5 [(K0, tw wg R), (K1, te eg l), (K5, tl (.slice a5 P.length c5) P)]) := h5
        clear h5 HH
        go_wp2_with fail
        refine (hnewR H5.out _ P (H5.out.sb 2 rfl) HUP.out.2 hP1).mono ?_
        rintro e w6 ⟨rg, Kr, rfl, h6⟩
        rw [HUP.out.1, HZz.out] at h6
        have H6 : Hid (Herd w w6 [(K0, tw wg R), (K1, te eg l), (K5, tl (.slice a5 P.length c5) P), (Kr, tr rg (R ++ Zz) 0)]) := h6
        clear h6 H5
        go_wp2_with fail
        refine (copied_any _ l w6 (HSL.out.below H6.out.bel) (by have := HLL.out; omega)).mono ?_
        rintro e w7 ⟨a7, c7, rfl, ho7, hb7⟩
        have HO7 := hide ho7.sb
        have H7 := hide (H6.out.below hb7)
        clear ho7 hb7 H6
        go_wp2_with fail
        refine (hdecode H7.out _ l HO7.out).mono ?_
        rintro e w8 (⟨h0, _⟩ | ⟨_, dg, Kd, rfl, h8⟩)
        · exact absurd HD.out h0
        have HT8 : Hid (Herd w w8 [(K0, tw wg R), (K1, te eg l), (K5, tl (.slice a5 P.length c5) P), (Kr, tr rg (R ++ Zz) (ft l t 0).length), (Kd, td dg l)]) := by
          have : (ft l t 0).length = 0 := by simp [ft, kep, flat]
          rw [this]; exact h8
        clear h8 H7 HO7
        go_wp2
        go_loopw [13] (fun i wr => ∃ k : Nat, k ≤ t.length ∧ i = .int .i64 (k : Int) ∧ Hid (Herd w wr [(K0, tw wg R), (K1, te eg l), (K5, tl (.slice a5 P.length c5) P), (Kr, tr rg (R ++ Zz) (ft l t k).length), (Kd, td dg l)])) (fun i _ => t.length - (intOf i).toNat)
        case atStart => exact ⟨0, Nat.zero_le _, rfl, HT8⟩
        case round =>
          clear HT8
          obtain ⟨k, hk2, rfl, HT⟩ := hrel
          by_cases hlt2 : k < t.length
          · have hlt2' : (k : Int) < (t.length : Int) := by omega
            have HNE : Hid (lnI l (t.getD k 0) ≠ 0) := HOK.out _ (by rw [List.getD_eq_getElem?_getD, List.getElem?_eq_getElem hlt2]; exact List.getElem_mem hlt2)
            have HRD : Hid (nxE l (R ++ Zz) (ft l t k).length = 0 ∧ ((nxS l (R ++ Zz) (ft l t k).length : Nat) : Int) = t.getD k 0 ∧ nxP l (R ++ Zz) (ft l t k).length = (ft l t (k + 1)).length) := by
              have h := HPB.out
              rw [HR.out] at h ⊢
              exact ft_read HD.out h hlt2 HNE.out
            clear HNE
            go_wp2_with fail
            refine (hnext HT.out 4 3 rfl rfl).mono ?_
            rintro e w9 ⟨rfl, h9⟩
            rw [HRD.out.2.2] at h9
            rw [HRD.out.1, HRD.out.2.1]
            have HN : Hid (Herd w w9 [(K0, tw wg R), (K1, te eg l), (K5, tl (.slice a5 P.length c5) P), (Kr, tr rg (R ++ Zz) (ft l t (k + 1)).length), (Kd, td dg l)]) := h9
            obtain ⟨b, o, cx, hv, -, -, hc⟩ := (HS.out.below h9.bel).get61 (k := k) hlt2
            simp only [Value.slice.injEq, true_and] at hv
            obtain ⟨rfl, rfl⟩ := hv
            have htj := HBY.out k
            obtain ⟨x, HX⟩ : ∃ x, Hid (x = t.getD k 0) := ⟨_, rfl⟩
            rw [← HX.out] at hc htj ⊢
            have hxx : (x != x) = false := by simp
            clear h9 HT HRD
            go_wp2
            go_roundw
            case rel => exact ⟨k + 1, by omega, by go_num, HN⟩
            case measure => simp [intOf]; omega
          · obtain rfl : k = t.length := by omega
            have hlt2' : ¬ (t.length : Int) < (t.length : Int) := by omega
            rw [← HR.out, ← HZ.out] at HT
            have HL1 := hide (hlen HT.out 0 rfl)
            rw [← HZ.out] at HL1
            go_wp2_with fail
            refine HL1.out.mono ?_
            rintro e w10 ⟨rfl, h10⟩
            have HA := hide (hat h10 3 rfl)
            clear h10 HL1 HT
            go_wp2_with fail
            refine HA.out.mono ?_
            rintro e w11 ⟨rfl, h11⟩
            have HL2 := hide (hlen h11 0 rfl)
            rw [← HZ.out] at HL2
            clear h11 HA
            go_wp2_with fail
            refine HL2.out.mono ?_
            rintro e w12 ⟨rfl, h12⟩
            have HB12 := hide h12.bel
            have hzb : ((Z : Int) == (Z : Int)) = true := by simp
            clear h12 HL2
            go_wp2
            go_ret2
            refine ⟨?_, HB12.out⟩
            rw [← HR.out, ← HZ.out]
            first | done | rfl | simp [hzb]
end Go.Proofs.Ytncniahpglgkmaa

