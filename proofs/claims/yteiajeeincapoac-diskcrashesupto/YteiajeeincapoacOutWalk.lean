import Derived.Test.YteiajeeincapoacOutcome
namespace Go.Proofs.Yteiajeeincapoac
open Go.RowKit Go.Maps

def PBd (st : St) : Prop := ∀ s, ∀ p ∈ st.pcs s, p.1 + p.2.1 + p.2.2.length ≤ 16777216

theorem outcome_any {w : World} {K : Nat → Nat} {g : Nat} {st : St} {vsec : Value} {sec : List Int} (size rest : Int) (h : Rep w K g st) (hz : st.sizes.length ≤ 10000000000000) (hsec : SI w vsec sec) (hb : behind st size ≤ 16777216) (hd : st.dur.length ≤ 16777216) (hp : PBd st) :
    Calls Try.prog 33 #[.pointer (some ⟨g, 0, none⟩), .agg #[.int .i64 size, vsec, .int .i64 rest]] w fun e w' => ∃ a c, e = .returned (.slice a (behind st size) c) ∧ OB w' w.heap.size (.slice a (behind st size) c) (outcomeL st (size, sec, rest)) ∧ Below w.heap.size w w' := by
  have HR := hide h
  have HSec := hide hsec
  obtain ⟨asec, csec, hv, hsl, hsc, hsn, hscell⟩ := hsec
  subst hv
  unfold maxLen at hsc
  obtain ⟨vn, vd, m, vs, D, hV⟩ := h
  have HV := hide hV
  obtain ⟨ad, cd, hvd⟩ := hV.hd.shape
  subst hvd
  obtain ⟨i0, hi, hz0, hz1, hz2⟩ := info_parts info5
  generalize hN : behind st size = N at *
  have HN := hide hN
  clear hN
  have HSC := hide hscell
  clear hV hscell
  obtain ⟨W0, hW0⟩ : ∃ W0, W0 = w.alloc (.cells #[.int .i64 size, .slice asec sec.length csec, .int .i64 rest] 26) := ⟨_, rfl⟩
  have HW0 := hide hW0
  have hb0 : Below w.heap.size w W0 := by rw [hW0]; exact (Below.refl _ _).alloc (Nat.le_refl _) _
  have hs0 : W0.heap.size = w.heap.size + 1 := by rw [hW0]; exact size_alloc' _ _
  have hbx0 : W0.heap[w.heap.size]? = some (.cells #[.int .i64 size, .slice asec sec.length csec, .int .i64 rest] 26 (0, 0)) := by rw [hW0]; exact heap_alloc_new _ _
  have HB0 := hide hb0
  have HS0 := hide hs0
  have HBX := hide hbx0
  clear hb0 hW0 hs0 hbx0
  go_enter Try.func33, Try.ntmps33
  go_wp2_with fail
  rw [← HW0.out]
  refine (sizeBehind_any size (HR.out.below HB0.out) hz).mono ?_
  rintro e W0 ⟨rfl, rfl⟩
  rw [HN.out]
  go_wp2_with (at_make; refine wpList_make_full _ rfl _ _ 22 rfl w.heap.size 5 i0 (.int .u8 0) 1 Try.underlying22 hi hz0 hz1 _ _ _ _ N rfl rfl rfl rfl ?b2 ?b3 ?b4 ?_)
  case b2 => rw [hz2]; omega
  case b3 => unfold maxLen; omega
  case b4 => rw [HS0.out]; omega
  intro w1 hown hgrow
  rw [madeBytes, HS0.out] at hown
  rw [HS0.out]
  obtain ⟨hF, _⟩ := ownsRow_full hown
  have hb1 : Below (w.heap.size + 1) W0 w1 := ⟨hgrow.os, hgrow.tape, hgrow.output, hgrow.size, fun k hk => hgrow.block k (by rw [HS0.out]; omega) (by simp)⟩
  have HF := hide hF
  have hs1 : w.heap.size + 1 < w1.heap.size := (Array.getElem?_eq_some_iff.1 hF).1
  clear hown hgrow hF
  have hdc1 := HV.out.dc.below (HB0.out.trans (hb1.mono (by omega))) (Nat.le_refl _)
  obtain ⟨_, _, e2, _, _, _⟩ := hdc1.at
  have HB1 := hide hb1
  clear hb1 hdc1
  obtain ⟨cs, hcs⟩ : ∃ cs, cs = (st.dur.take N).map (Value.int .u8) := ⟨_, rfl⟩
  have HS := hide hcs
  clear hcs
  have C1 : Hid (cs.length = Nat.min st.dur.length N) := by show _ = _; rw [HS.out]; simp only [List.length_map, List.length_take]; show _ = min _ _; omega
  have C2 : Hid (0 < cs.length → (some (⟨w.heap.size + 1, 0, none⟩ : Addr)) = some ⟨w.heap.size + 1, 0, none⟩ ∧ ∃ x, ad = some x ∧ ∀ j v, cs[j]? = some v → w1.cell? (x.add j) = some v) := by
    intro hp
    refine ⟨rfl, ?_⟩
    obtain ⟨ao, cap, he, k1, k2, k3, k4⟩ := HV.out.hd.sb
    simp only [Value.slice.injEq] at he
    obtain ⟨rfl, -, rfl⟩ := he
    rw [HS.out, List.length_map, List.length_take] at hp
    cases ad with
    | none => have := k3 rfl; omega
    | some x =>
      refine ⟨x, rfl, fun j u hj => ?_⟩
      rw [HS.out] at hj
      obtain ⟨hjl, rfl⟩ := List.getElem?_eq_some_iff.1 hj
      have hjl' : j < st.dur.length := by simp at hjl; omega
      have hc := k4 x rfl j hjl'
      rw [(HB0.out.trans (HB1.out.mono (by omega))).cell (World.block_lt_of_cell? _ _ hc), hc]
      simp [hjl']
  have C3 : Hid (0 + cs.length ≤ (List.replicate N (Value.int .u8 0)).length) := by show _ ≤ _; rw [HS.out]; simp; omega
  have C4 : Hid (∀ v ∈ cs, v.oneCell' = true) := by rw [HS.out]; intro u hu; obtain ⟨n, _, rfl⟩ := List.mem_map.1 hu; rfl
  go_wp2_with (refine wpList_copy_gr rfl _ _ 22 22 rfl 5 Try.underlying22 sizeByte _ _ _ _ _ _ rfl rfl (w.heap.size + 1) 0 (List.replicate N (Value.int .u8 0)) 5 HF.out cs C1.out C2.out C3.out C4.out ?_)
  intro w2 HF2 hgr2
  have hf2 : w2.heap[w.heap.size + 1]? = some (.cells ((outTo st sec rest N 0).map (Value.int .u8)).toArray 5 (0, 0)) := by
    rw [HF2.out, HS.out]
    congr 3
    unfold outTo resz splice
    by_cases hle : N ≤ st.dur.length
    · rw [if_pos hle]
      simp [Nat.min_eq_left hle]
    · rw [if_neg hle]
      simp [List.take_of_length_le (show st.dur.length ≤ N by omega)]
  have hb2 : Below (w.heap.size + 1) W0 w2 := HB1.out.trans ⟨hgr2.os, hgr2.tape, hgr2.output, hgr2.size, fun k hk => hgr2.block k (by omega) (by simp; omega)⟩
  have HF0 := hide hf2
  have HB2 := hide hb2
  clear hf2 HF2 hgr2 C1 C2 C3 C4 e2 hb2 HF HB1 HS
  go_wp2
  go_loopw [6] (fun i wr => ∃ k : Nat, i = .int .i64 k ∧ k ≤ (N + 511) / 512 ∧ Hid (wr.heap[w.heap.size + 1]? = some (.cells ((outTo st sec rest N k).map (Value.int .u8)).toArray 5 (0, 0))) ∧ Hid (Below (w.heap.size + 1) W0 wr)) (fun i _ => 40000 - (intOf i).toNat)
  case atStart => exact ⟨0, rfl, Nat.zero_le _, HF0, HB2⟩
  case round =>
    obtain ⟨k, rfl, hk, HF, HB⟩ := hrel
    clear HF0 HB2
    have hk2 : (k : Int) * 512 = ((k * 512 : Nat) : Int) := by omega
    by_cases hlt : k * 512 < N
    · have hlt' : (k : Int) * 512 < (N : Int) := by omega
      clear hk2
      have hbw : Below w.heap.size w wr := HB0.out.trans (HB.out.mono (by omega))
      have HBW := hide hbw
      have hdcr := HV.out.dc.below hbw (Nat.le_refl _)
      obtain ⟨_, _, _, e3, _, _⟩ := hdcr.at
      have hbox : wr.heap[w.heap.size]? = some (.cells #[.int .i64 size, .slice asec sec.length csec, .int .i64 rest] 26 (0, 0)) := (HB.out.block w.heap.size (by omega)).trans HBX.out
      have x1 : wr.cell? ⟨w.heap.size, 1, none⟩ = some (.slice asec sec.length csec) := by simp [World.cell?, hbox]
      obtain ⟨rs, x2, HRS⟩ : ∃ rs, wr.cell? ⟨w.heap.size, 2, none⟩ = some (.int .i64 rs) ∧ Hid (rs = rest) := ⟨rest, by simp [World.cell?, hbox], rfl⟩
      clear hdcr hbox hbw
      obtain ⟨n0, hn0, hmap⟩ := HV.out.hm
      obtain ⟨vp, hvp, hrole, pcells, hpok, hprow⟩ := HV.out.rows k
      have hlk := lookup_row (ownsMap_same hmap (HBW.out.block m (HV.out.sup m (by rw [HV.out.km]; omega)))) (show k ≤ 9223372036854775807 by omega) hvp
      have HPK := hide hpok
      have HPR := hide hprow
      have HVP := hide hrole
      clear hpok hprow hrole hvp hmap hn0
      obtain ⟨ap, cp, hvs⟩ : ∃ a c, vp = .slice a (st.pcs k).length c := by
        rcases HPR.out.2 with ⟨e1, e2⟩ | ⟨b, c, cur, e1, _⟩
        · exact ⟨none, 0, by rw [e1, e2]⟩
        · exact ⟨_, _, e1⟩
      have hcp : (st.pcs k).length ≤ cp ∧ cp ≤ 9223372036854775807 := by
        rcases HPR.out.2 with ⟨e1, e2⟩ | ⟨b, c, cur, e1, _, _, e4, e5, _⟩
        · rw [hvs] at e1
          simp only [Value.slice.injEq] at e1
          omega
        · rw [hvs] at e1
          simp only [Value.slice.injEq] at e1
          unfold maxLen at e5
          omega
      obtain ⟨hcp1, hcp2⟩ := hcp
      subst hvs
      by_cases hks : k < sec.length
      · have hks' : (k : Int) < (sec.length : Int) := by omega
        cases asec with
        | none => have := hsn rfl; omega
        | some xs =>
        obtain ⟨bs, os, rfl⟩ := addr_lit (HSC.out xs rfl 0 (by omega))
        obtain ⟨wn, x3, HWN⟩ : ∃ wn, wr.cell? ⟨bs, os + k, none⟩ = some (.int .i64 wn) ∧ Hid (wn = wantedN sec rest k) := by
          have h := HSC.out _ rfl k hks
          rw [Addr.add_lit] at h
          refine ⟨sec.getD k 0, ?_, ?_⟩
          · rw [HBW.out.cell (World.block_lt_of_cell? _ _ h), h]
          · show _ = _
            unfold wantedN
            rw [if_pos hks]
        go_wp2_with fail
        refine (kept_any _ _ _).mono ?_
        rintro e wr ⟨rfl, rfl⟩
        have hq1 : keptN wn (st.pcs k).length ≤ (st.pcs k).length := by unfold keptN; omega
        obtain ⟨q, hq⟩ : ∃ q, keptN wn (st.pcs k).length = q := ⟨_, rfl⟩
        rw [hq] at hq1 ⊢
        have HQ := hide hq
        clear hq
        have hq2 : (q : Int) ≤ (cp : Int) := by omega
        have hq3 : q ≤ 9223372036854775807 := by omega
        go_wp2_with fail
        obtain ⟨wo, hwo⟩ : ∃ wo : World, wo = wr := ⟨_, rfl⟩
        go_loopw [54] (fun j wq => ∃ i : Nat, j = .int .i64 i ∧ i ≤ q ∧ Hid (wq.heap[w.heap.size + 1]? = some (.cells ((((st.pcs k).take i).foldl paintL (outTo st sec rest N k)).map (Value.int .u8)).toArray 5 (0, 0))) ∧ Hid (Below (w.heap.size + 1) W0 wq)) (fun j _ => q - (intOf j).toNat)
        case atStart => exact ⟨0, rfl, Nat.zero_le _, HF, HB⟩
        case round =>
          obtain ⟨i, rfl, hi2, HF3, HB3⟩ := hrel
          clear x1 x2 x3 hlk e3
          by_cases hiq : i < q
          · have hiq' : (i : Int) < (q : Int) := by omega
            have hBW3 : Below w.heap.size w wr := HB0.out.trans (HB3.out.mono (by omega))
            obtain ⟨bp, hap, hg1, hg2⟩ : ∃ bp, ap = some ⟨bp, 0, none⟩ ∧ bp < w.heap.size ∧ ∀ j u, pcells[j]? = some u → w.cell? ⟨bp, j, none⟩ = some u := by
              rcases HPR.out.2 with ⟨e1, e2⟩ | ⟨b, c, cur, e1, e2, e3, _⟩
              · omega
              · simp only [Value.slice.injEq] at e1
                refine ⟨b, e1.1, (Array.getElem?_eq_some_iff.1 e3).1, fun j u hj => ?_⟩
                have := World.ownsRow.cells HPR.out (g := b) (by rw [e1.1]; rfl) j u hj
                rw [Addr.add_lit, Nat.zero_add] at this
                exact this
            obtain ⟨vd, p1, p2, p3, p4, p5⟩ := HPK.out.at _ _ i (by omega)
            obtain ⟨pp, hpp⟩ : ∃ pp, (st.pcs k).getD i (0, 0, []) = pp := ⟨_, rfl⟩
            rw [hpp] at p1 p2 p4
            have hbd := hp k pp (by rw [← hpp]; simp [List.getD, show i < (st.pcs k).length by omega])
            have r1 : wr.cell? ⟨bp, i * 3, none⟩ = some (.int .i64 pp.1) := (hBW3.cell (by exact hg1)).trans (hg2 _ _ p1)
            have r2 : wr.cell? ⟨bp, i * 3 + 1, none⟩ = some (.int .i64 pp.2.1) := (hBW3.cell (by exact hg1)).trans (hg2 _ _ p2)
            have r3 : wr.cell? ⟨bp, i * 3 + 2, none⟩ = some vd := (hBW3.cell (by exact hg1)).trans (hg2 _ _ p3)
            have HP4 := hide p4
            obtain ⟨av, cv, hvd2, _⟩ := p4
            subst hvd2
            obtain ⟨pa, pz, pd⟩ := pp
            simp only [] at r1 r2 r3 hbd
            rw [hap]
            have HBW3 := hide hBW3
            have HHP := hide hpp
            have P5 := hide p5
            clear hap p1 p2 p3 p5 hpp hBW3 hg1 hg2
            have hf1 : w.heap.size + 1 < wr.heap.size := (Array.getElem?_eq_some_iff.1 HF3.out).1
            have hfF : (wr.alloc (.cells #[.int .i64 pa, .int .i64 pz, .slice av pd.length cv] 73)).heap[w.heap.size + 1]? = some (.cells ((((st.pcs k).take i).foldl paintL (outTo st sec rest N k)).map (Value.int .u8)).toArray 5 (0, 0)) := (Below.heap_alloc _ _ _ hf1).trans HF3.out
            have HFF := hide hfF
            clear hfF
            obtain ⟨lc, hlc⟩ : ∃ lc, ((st.pcs k).take i).foldl paintL (outTo st sec rest N k) = lc := ⟨_, rfl⟩
            have hlN : lc.length = N := by rw [← hlc, foldl_paint_length, length_outTo]
            rw [hlc] at HFF
            have HLC := hide hlc
            have hob := OB.of_full (base := 0) HFF.out (Nat.zero_le _) (by rw [hlN]; unfold maxLen; omega)
            rw [hlN] at hob
            have HOB := hide hob
            have HLN := hide hlN
            clear hob hlc hlN
            have hsb2 := hide ((HP4.out.below HBW3.out).below ((Below.refl wr.heap.size wr).alloc (Nat.le_refl _) (.cells #[.int .i64 pa, .int .i64 pz, .slice av pd.length cv] 73)))
            go_wp2_with fail
            refine (paint_any HOB.out (by rw [HLN.out]; exact hb) (by omega) hsb2.out ?hne).mono ?_
            case hne =>
              intro kk hk1 hk2
              simp [Value.ownBlock] at hk1
              subst hk1
              have := HV.out.sup _ (by rw [P5.out _ hk2]; omega)
              omega
            rintro e w5 ⟨rfl, hob5, hgr5⟩
            have hf5 := (ownsRow_full (n := N) (xs := (paintL lc (pa, pz, pd)).map (Value.int .u8)) (by have h := hob5; unfold OB at h; rwa [length_paintL, HLN.out] at h)).1
            have HF5 : Hid (w5.heap[w.heap.size + 1]? = some (.cells ((((st.pcs k).take (i + 1)).foldl paintL (outTo st sec rest N k)).map (Value.int .u8)).toArray 5 (0, 0))) := by
              show _ = _
              rw [hf5, List.take_succ_eq_append_getElem (show i < (st.pcs k).length by omega), List.foldl_append, HLC.out]
              have : (st.pcs k)[i]'(by omega) = (pa, pz, pd) := by
                have h := HHP.out
                simpa [List.getD, show i < (st.pcs k).length by omega] using h
              rw [this]
              rfl
            have HB5 : Hid (Below (w.heap.size + 1) W0 w5) := HB3.out.trans ((((Below.refl (w.heap.size + 1) wr).alloc (by omega) _)).trans ⟨hgr5.os, hgr5.tape, hgr5.output, hgr5.size, fun kk hk => hgr5.block kk (by rw [size_alloc']; omega) (by simp [Value.ownBlock]; omega)⟩)
            clear hob5 hgr5 hf5 r1 r2 r3
            go_wp2
            go_roundw
            case rel => exact ⟨i + 1, by go_num, by omega, HF5, HB5⟩
            case measure => simp [intOf]; omega
          · have hiq2 : i = q := by omega
            have HF6 : Hid (wr.heap[w.heap.size + 1]? = some (.cells ((outTo st sec rest N (k + 1)).map (Value.int .u8)).toArray 5 (0, 0))) := by
              show _ = _
              rw [HF3.out, hiq2, ← HQ.out, HWN.out]
              rfl
            have hiq3 : ¬ (i : Int) < (q : Int) := by omega
            clear hiq2
            go_wp2
            go_roundw
            case rel => exact ⟨k + 1, by go_num, by omega, HF6, HB3⟩
            case measure => simp [intOf]; omega
      · have hks' : ¬ (k : Int) < (sec.length : Int) := by omega
        obtain ⟨wn, hwn⟩ : ∃ wn, wn = rs := ⟨_, rfl⟩
        rw [← hwn] at x2 HRS
        clear hwn
        have HWN : Hid (wn = wantedN sec rest k) := by show _ = _; unfold wantedN; rw [if_neg hks]; exact HRS.out
        go_wp2_with fail
        refine (kept_any _ _ _).mono ?_
        rintro e wr ⟨rfl, rfl⟩
        have hq1 : keptN wn (st.pcs k).length ≤ (st.pcs k).length := by unfold keptN; omega
        obtain ⟨q, hq⟩ : ∃ q, keptN wn (st.pcs k).length = q := ⟨_, rfl⟩
        rw [hq] at hq1 ⊢
        have HQ := hide hq
        clear hq
        have hq2 : (q : Int) ≤ (cp : Int) := by omega
        have hq3 : q ≤ 9223372036854775807 := by omega
        go_wp2_with fail
        obtain ⟨wo, hwo⟩ : ∃ wo : World, wo = wr := ⟨_, rfl⟩
        go_loopw [54] (fun j wq => ∃ i : Nat, j = .int .i64 i ∧ i ≤ q ∧ Hid (wq.heap[w.heap.size + 1]? = some (.cells ((((st.pcs k).take i).foldl paintL (outTo st sec rest N k)).map (Value.int .u8)).toArray 5 (0, 0))) ∧ Hid (Below (w.heap.size + 1) W0 wq)) (fun j _ => q - (intOf j).toNat)
        case atStart => exact ⟨0, rfl, Nat.zero_le _, HF, HB⟩
        case round =>
          obtain ⟨i, rfl, hi2, HF3, HB3⟩ := hrel
          clear x1 x2 hlk e3
          by_cases hiq : i < q
          · have hiq' : (i : Int) < (q : Int) := by omega
            have hBW3 : Below w.heap.size w wr := HB0.out.trans (HB3.out.mono (by omega))
            obtain ⟨bp, hap, hg1, hg2⟩ : ∃ bp, ap = some ⟨bp, 0, none⟩ ∧ bp < w.heap.size ∧ ∀ j u, pcells[j]? = some u → w.cell? ⟨bp, j, none⟩ = some u := by
              rcases HPR.out.2 with ⟨e1, e2⟩ | ⟨b, c, cur, e1, e2, e3, _⟩
              · omega
              · simp only [Value.slice.injEq] at e1
                refine ⟨b, e1.1, (Array.getElem?_eq_some_iff.1 e3).1, fun j u hj => ?_⟩
                have := World.ownsRow.cells HPR.out (g := b) (by rw [e1.1]; rfl) j u hj
                rw [Addr.add_lit, Nat.zero_add] at this
                exact this
            obtain ⟨vd, p1, p2, p3, p4, p5⟩ := HPK.out.at _ _ i (by omega)
            obtain ⟨pp, hpp⟩ : ∃ pp, (st.pcs k).getD i (0, 0, []) = pp := ⟨_, rfl⟩
            rw [hpp] at p1 p2 p4
            have hbd := hp k pp (by rw [← hpp]; simp [List.getD, show i < (st.pcs k).length by omega])
            have r1 : wr.cell? ⟨bp, i * 3, none⟩ = some (.int .i64 pp.1) := (hBW3.cell (by exact hg1)).trans (hg2 _ _ p1)
            have r2 : wr.cell? ⟨bp, i * 3 + 1, none⟩ = some (.int .i64 pp.2.1) := (hBW3.cell (by exact hg1)).trans (hg2 _ _ p2)
            have r3 : wr.cell? ⟨bp, i * 3 + 2, none⟩ = some vd := (hBW3.cell (by exact hg1)).trans (hg2 _ _ p3)
            have HP4 := hide p4
            obtain ⟨av, cv, hvd2, _⟩ := p4
            subst hvd2
            obtain ⟨pa, pz, pd⟩ := pp
            simp only [] at r1 r2 r3 hbd
            rw [hap]
            have HBW3 := hide hBW3
            have HHP := hide hpp
            have P5 := hide p5
            clear hap p1 p2 p3 p5 hpp hBW3 hg1 hg2
            have hf1 : w.heap.size + 1 < wr.heap.size := (Array.getElem?_eq_some_iff.1 HF3.out).1
            have hfF : (wr.alloc (.cells #[.int .i64 pa, .int .i64 pz, .slice av pd.length cv] 73)).heap[w.heap.size + 1]? = some (.cells ((((st.pcs k).take i).foldl paintL (outTo st sec rest N k)).map (Value.int .u8)).toArray 5 (0, 0)) := (Below.heap_alloc _ _ _ hf1).trans HF3.out
            have HFF := hide hfF
            clear hfF
            obtain ⟨lc, hlc⟩ : ∃ lc, ((st.pcs k).take i).foldl paintL (outTo st sec rest N k) = lc := ⟨_, rfl⟩
            have hlN : lc.length = N := by rw [← hlc, foldl_paint_length, length_outTo]
            rw [hlc] at HFF
            have HLC := hide hlc
            have hob := OB.of_full (base := 0) HFF.out (Nat.zero_le _) (by rw [hlN]; unfold maxLen; omega)
            rw [hlN] at hob
            have HOB := hide hob
            have HLN := hide hlN
            clear hob hlc hlN
            have hsb2 := hide ((HP4.out.below HBW3.out).below ((Below.refl wr.heap.size wr).alloc (Nat.le_refl _) (.cells #[.int .i64 pa, .int .i64 pz, .slice av pd.length cv] 73)))
            go_wp2_with fail
            refine (paint_any HOB.out (by rw [HLN.out]; exact hb) (by omega) hsb2.out ?hne).mono ?_
            case hne =>
              intro kk hk1 hk2
              simp [Value.ownBlock] at hk1
              subst hk1
              have := HV.out.sup _ (by rw [P5.out _ hk2]; omega)
              omega
            rintro e w5 ⟨rfl, hob5, hgr5⟩
            have hf5 := (ownsRow_full (n := N) (xs := (paintL lc (pa, pz, pd)).map (Value.int .u8)) (by have h := hob5; unfold OB at h; rwa [length_paintL, HLN.out] at h)).1
            have HF5 : Hid (w5.heap[w.heap.size + 1]? = some (.cells ((((st.pcs k).take (i + 1)).foldl paintL (outTo st sec rest N k)).map (Value.int .u8)).toArray 5 (0, 0))) := by
              show _ = _
              rw [hf5, List.take_succ_eq_append_getElem (show i < (st.pcs k).length by omega), List.foldl_append, HLC.out]
              have : (st.pcs k)[i]'(by omega) = (pa, pz, pd) := by
                have h := HHP.out
                simpa [List.getD, show i < (st.pcs k).length by omega] using h
              rw [this]
              rfl
            have HB5 : Hid (Below (w.heap.size + 1) W0 w5) := HB3.out.trans ((((Below.refl (w.heap.size + 1) wr).alloc (by omega) _)).trans ⟨hgr5.os, hgr5.tape, hgr5.output, hgr5.size, fun kk hk => hgr5.block kk (by rw [size_alloc']; omega) (by simp [Value.ownBlock]; omega)⟩)
            clear hob5 hgr5 hf5 r1 r2 r3
            go_wp2
            go_roundw
            case rel => exact ⟨i + 1, by go_num, by omega, HF5, HB5⟩
            case measure => simp [intOf]; omega
          · have hiq2 : i = q := by omega
            have HF6 : Hid (wr.heap[w.heap.size + 1]? = some (.cells ((outTo st sec rest N (k + 1)).map (Value.int .u8)).toArray 5 (0, 0))) := by
              show _ = _
              rw [HF3.out, hiq2, ← HQ.out, HWN.out]
              rfl
            have hiq3 : ¬ (i : Int) < (q : Int) := by omega
            clear hiq2
            go_wp2
            go_roundw
            case rel => exact ⟨k + 1, by go_num, by omega, HF6, HB3⟩
            case measure => simp [intOf]; omega
    · have hlt' : ¬ (k : Int) * 512 < (N : Int) := by omega
      have hkk : k = (N + 511) / 512 := by omega
      have hfin : OB wr w.heap.size (.slice (some ⟨w.heap.size + 1, 0, none⟩) N N) (outcomeL st (size, sec, rest)) := by
        have h1 := HF.out
        have h2 : outcomeL st (size, sec, rest) = outTo st sec rest N k := by unfold outcomeL; simp only []; rw [HN.out, hkk]
        rw [h2]
        have h3 := OB.of_full (base := w.heap.size) h1 (by omega) (by rw [length_outTo]; unfold maxLen; omega)
        rwa [length_outTo] at h3
      have HFIN := hide hfin
      have HBF := hide (HB0.out.trans (HB.out.mono (show w.heap.size ≤ w.heap.size + 1 by omega)))
      clear hk2 hkk hfin
      go_wp2
      go_ret
      exact ⟨_, _, rfl, HFIN.out, HBF.out⟩
end Go.Proofs.Yteiajeeincapoac
