import Derived.Test.YteiajeeincapoacROut
namespace Go.Proofs.Yteiajeeincapoac
open Go.RowKit Go.Maps
set_option linter.unusedSimpArgs false

set_option maxRecDepth 20000 in
set_option maxHeartbeats 4000000 in
theorem routcome_any {w : World} {K : Nat → Nat} {g : Nat} {st : RSt} {vsec : Value} {sec : List Int} (size rest : Int) (h : RRep w K g st) (hz : st.sizes.length ≤ 2000000) (hsec : SI w vsec sec) (hb : rbehind st size ≤ 16777216) (hd : st.dur.length ≤ 16777216) (hp : RBd st.rps) (hpl : st.rps.length ≤ 100000000000) (hps : ∀ p ∈ st.rps, p.2.1 + p.2.2.length ≤ 16777216) :
    Calls Try.prog 34 #[.pointer (some ⟨g, 0, none⟩), .agg #[.int .i64 size, vsec, .int .i64 rest]] w fun e w' => ∃ a c, e = .returned (.slice a (rbehind st size) c) ∧ OB w' w.heap.size (.slice a (rbehind st size) c) (rOut (resz st.dur (rbehind st size)) sec rest st.rps) ∧ Below w.heap.size w w' := by
  have HR := hide h
  have HSec := hide hsec
  obtain ⟨asec, csec, hv, hsl, hsc, hsn, hscell⟩ := hsec
  subst hv
  unfold maxLen at hsc
  obtain ⟨vn, vd, vp, vs, hV⟩ := h
  have HV := hide hV
  obtain ⟨ad, cd, hvd⟩ := hV.hd.shape
  subst hvd
  obtain ⟨az, cz, hvs⟩ := OI.shape hV.hs
  subst hvs
  obtain ⟨N, hN⟩ : ∃ N, N = rbehind st size := ⟨_, rfl⟩
  rw [← hN] at hb ⊢
  have HN := hide hN
  obtain ⟨_, _, c2, c3, c4, _⟩ := hV.rc.at
  clear hN hV hscell
  obtain ⟨W0, hW0⟩ : ∃ W0, W0 = w.alloc (.cells #[.int .i64 size, .slice asec sec.length csec, .int .i64 rest] 26) := ⟨_, rfl⟩
  have HW0 := hide hW0
  have hb0 : Below w.heap.size w W0 := by rw [hW0]; exact (Below.refl _ _).alloc (Nat.le_refl _) _
  have hbx0 : W0.heap[w.heap.size]? = some (.cells #[.int .i64 size, .slice asec sec.length csec, .int .i64 rest] 26 (0, 0)) := by rw [hW0]; exact heap_alloc_new _ _
  have x0 : (w.alloc (.cells #[.int .i64 size, .slice asec sec.length csec, .int .i64 rest] 26)).cell? ⟨w.heap.size, 0, none⟩ = some (.int .i64 size) := by rw [← HW0.out]; simp [World.cell?, hbx0]
  have d2 : (w.alloc (.cells #[.int .i64 size, .slice asec sec.length csec, .int .i64 rest] 26)).cell? ⟨g, 2, none⟩ = some (.slice ad st.dur.length cd) := by rw [← HW0.out]; exact keep1 hb0 c2
  have d4 : (w.alloc (.cells #[.int .i64 size, .slice asec sec.length csec, .int .i64 rest] 26)).cell? ⟨g, 4, none⟩ = some (.slice az st.sizes.length cz) := by rw [← HW0.out]; exact keep1 hb0 c4
  have HB0 := hide hb0
  have HBX := hide hbx0
  have HS0 : Hid (W0.heap.size = w.heap.size + 1) := by show _ = _; rw [hW0]; exact size_alloc' _ _
  clear hb0 hW0 hbx0 c2 c3 c4
  obtain ⟨kc, hkc⟩ : ∃ kc : Int, kc = if (st.sizes.length : Int) < size then (st.sizes.length : Int) else size := ⟨_, rfl⟩
  have HKC := hide hkc
  have HSZ : Hid (0 < kc → ∃ (kk gz : Nat), kc = (kk : Int) ∧ 0 < kk ∧ kk ≤ st.sizes.length ∧ az = some ⟨gz, 0, none⟩ ∧ W0.cell? ⟨gz, kk - 1, none⟩ = some (.int .i64 N)) := by
    intro hpos
    obtain ⟨kk, hkk⟩ := Int.eq_ofNat_of_zero_le (show 0 ≤ kc by omega)
    have hk1 : 0 < kk := by omega
    have hk2 : kk ≤ st.sizes.length := by rw [hkc] at hkk; split at hkk <;> omega
    have hkn : keptN size st.sizes.length = kk := by unfold keptN; rw [hkc] at hkk; split at hkk <;> omega
    have hso := HV.out.hs
    have hlt := World.ownsRow.lt hso
    have hcell := @World.ownsRow.cells _ _ _ _ _ _ _ hso
    rcases hso.2 with ⟨e1, e2⟩ | ⟨gz, cap, cur, e1, _⟩
    · omega
    · simp only [Value.slice.injEq] at e1
      obtain ⟨rfl, -, -⟩ := e1
      refine ⟨kk, gz, hkk, hk1, hk2, rfl, ?_⟩
      have h := hcell (g := gz) rfl (kk - 1) (.int .i64 N) (by
        rw [HN.out]
        unfold rbehind
        rw [hkn, if_pos hk1]
        simp [List.getD, show kk - 1 < st.sizes.length by omega])
      rw [Addr.add_lit, Nat.zero_add] at h
      rw [HB0.out.cell (hlt gz rfl).2]
      exact h
  have HSN : Hid (¬ 0 < kc → N = st.dur.length) := by
    intro hneg
    rw [HN.out]
    unfold rbehind
    rw [if_neg]
    unfold keptN
    rw [hkc] at hneg
    split at hneg <;> omega
  rw [← HW0.out] at x0 d2 d4
  clear hkc
  have hcz : st.sizes.length ≤ cz ∧ cz ≤ 9223372036854775807 := by
    rcases HV.out.hs.2 with ⟨e1, e2⟩ | ⟨b, c, cur, e1, _, _, e4, e5, _⟩
    · simp only [Value.slice.injEq] at e1
      omega
    · simp only [Value.slice.injEq] at e1
      unfold maxLen at e5
      omega
  obtain ⟨hcz1, hcz2⟩ := hcz
  go_enter Try.func34, Try.ntmps34
  rw [HW0.out] at x0 d2 d4
  go_upto_if 28 with (fail)
  rw [← HW0.out] at x0 d2 d4 ⊢
  go_cut [6] (fun n6 wd => n6 = .int .i64 kc ∧ wd = W0)
  case first =>
    by_cases hgt : (st.sizes.length : Int) < size
    · have HE : Hid (kc = st.sizes.length) := by show _ = _; rw [HKC.out, if_pos hgt]
      go_wp2_with fail
      go_meet
      case rel => exact ⟨by rw [HE.out], rfl⟩
    · have HE : Hid (kc = size) := by show _ = _; rw [HKC.out, if_neg hgt]
      go_wp2_with fail
      go_meet
      case rel => exact ⟨by rw [HE.out], rfl⟩
  case rest =>
    obtain ⟨rfl, rfl⟩ := hcut
    go_upto_if 35 with (fail)
    go_cut [5] (fun n5 wd => n5 = .int .i64 N ∧ wd = wc)
    case first =>
      by_cases hpos : 0 < kc
      · obtain ⟨kk, gz, hkk, hk1, hk2, haz, hcell⟩ := HSZ.out hpos
        subst hkk haz
        have hi1 : (0 : Int) ≤ (kk : Int) - 1 := by omega
        have hi2 : ((kk : Int) - 1) < (st.sizes.length : Int) := by omega
        have hi3 : ((kk : Int) - 1).toNat = kk - 1 := by omega
        go_wp2_with fail
        go_meet
        case rel => exact ⟨rfl, rfl⟩
      · have HE := hide (HSN.out hpos)
        go_wp2_with fail
        go_meet
        case rel => exact ⟨by rw [HE.out], rfl⟩
    case rest =>
      obtain ⟨rfl, rfl⟩ := hcut
      clear HSZ HSN
      obtain ⟨i0, hi, hz0, hz1, hz2⟩ := info_parts info5
      go_wp2_with (at_make; refine wpList_make_full _ rfl _ _ 22 rfl w.heap.size 5 i0 (.int .u8 0) 1 Try.underlying22 hi hz0 hz1 _ _ _ _ N rfl rfl rfl rfl ?b2 ?b3 ?b4 ?_)
      case b2 => rw [hz2]; omega
      case b3 => unfold maxLen; omega
      case b4 => rw [HS0.out]; omega
      intro w1 hown hgrow
      rw [madeBytes, HS0.out] at hown
      rw [HS0.out]
      obtain ⟨hF, _⟩ := ownsRow_full hown
      have hb1 : Below (w.heap.size + 1) wc w1 := ⟨hgrow.os, hgrow.tape, hgrow.output, hgrow.size, fun k hk => hgrow.block k (by rw [HS0.out]; omega) (by simp)⟩
      have HF := hide hF
      have hs1 : w.heap.size + 1 < w1.heap.size := (Array.getElem?_eq_some_iff.1 hF).1
      have e2 : w1.cell? ⟨g, 2, none⟩ = some (.slice ad st.dur.length cd) := by
        have hg := HV.out.rc.lt
        rw [hb1.cell (by show g < _; omega)]
        exact d2
      have HB1 := hide hb1
      clear hown hgrow hF hb1 x0 d2 d4
      obtain ⟨cs, hcs⟩ : ∃ cs, cs = (st.dur.take N).map (Value.int .u8) := ⟨_, rfl⟩
      have HS := hide hcs
      clear hcs
      have C1 : Hid (cs.length = Nat.min st.dur.length N) := by show _ = _; rw [HS.out]; simp only [List.length_map, List.length_take]; show _ = min _ _; omega
      have C2 : Hid (0 < cs.length → (some (⟨w.heap.size + 1, 0, none⟩ : Addr)) = some ⟨w.heap.size + 1, 0, none⟩ ∧ ∃ x, ad = some x ∧ ∀ j v, cs[j]? = some v → w1.cell? (x.add j) = some v) := by
        intro hp
        refine ⟨rfl, ?_⟩
        obtain ⟨ao, cap, he, k1, k2, k3, k4⟩ := HV.out.hd.sb
        simp only [Value.slice.injEq] at he
        obtain ⟨rfl, -, rfl⟩ := he
        rw [HS.out, List.length_map, List.length_take] at hp
        cases ad with
        | none => have := k3 rfl; omega
        | some x =>
          refine ⟨x, rfl, fun j u hj => ?_⟩
          rw [HS.out] at hj
          obtain ⟨hjl, rfl⟩ := List.getElem?_eq_some_iff.1 hj
          have hjl' : j < st.dur.length := by simp at hjl; omega
          have hc := k4 x rfl j hjl'
          rw [(HB0.out.trans (HB1.out.mono (by omega))).cell (World.block_lt_of_cell? _ _ hc), hc]
          simp [hjl']
      have C3 : Hid (0 + cs.length ≤ (List.replicate N (Value.int .u8 0)).length) := by show _ ≤ _; rw [HS.out]; simp; omega
      have C4 : Hid (∀ v ∈ cs, v.oneCell' = true) := by rw [HS.out]; intro u hu; obtain ⟨n, _, rfl⟩ := List.mem_map.1 hu; rfl
      go_wp2_with (refine wpList_copy_gr rfl _ _ 22 22 rfl 5 Try.underlying22 sizeByte _ _ _ _ _ _ rfl rfl (w.heap.size + 1) 0 (List.replicate N (Value.int .u8 0)) 5 HF.out cs C1.out C2.out C3.out C4.out ?_)
      intro w2 HF2 hgr2
      have hf2 : w2.heap[w.heap.size + 1]? = some (.cells ((resz st.dur N).map (Value.int .u8)).toArray 5 (0, 0)) := by
        rw [HF2.out, HS.out]
        congr 3
        unfold resz splice
        by_cases hle : N ≤ st.dur.length
        · rw [if_pos hle]
          simp [Nat.min_eq_left hle]
        · rw [if_neg hle]
          simp [List.take_of_length_le (show st.dur.length ≤ N by omega)]
      have hb2 : Below (w.heap.size + 1) wc w2 := HB1.out.trans ⟨hgr2.os, hgr2.tape, hgr2.output, hgr2.size, fun k hk => hgr2.block k (by omega) (by simp; omega)⟩
      have hs2 : w.heap.size + 1 < w2.heap.size := (Array.getElem?_eq_some_iff.1 hf2).1
      have HF0 := hide hf2
      have HB2 := hide hb2
      clear hf2 HF2 hgr2 C1 C2 C3 C4 e2 hb2 HF HB1 HS hs1
      obtain ⟨pcells, hpok, hprow⟩ := HV.out.hp
      obtain ⟨ap, cp, hvp⟩ : ∃ a c, vp = .slice a st.rps.length c := by
        rcases hprow.2 with ⟨e1, e2⟩ | ⟨b, c, cur, e1, _⟩
        · exact ⟨none, 0, by rw [e1, e2]⟩
        · exact ⟨_, _, e1⟩
      subst hvp
      have HPC : Hid (∀ W' : World, Below (w.heap.size + 1) wc W' → W'.cell? ⟨g, 3, none⟩ = some (.slice ap st.rps.length cp) ∧ ∀ (j : Nat) (p : Nat × Nat × List Int), st.rps[j]? = some p → ∃ gp vdat, ap = some ⟨gp, 0, none⟩ ∧ W'.cell? ⟨gp, j * 3, none⟩ = some (.int .i64 p.1) ∧ W'.cell? ⟨gp, j * 3 + 1, none⟩ = some (.int .i64 p.2.1) ∧ W'.cell? ⟨gp, j * 3 + 2, none⟩ = some vdat ∧ SB W' vdat p.2.2 ∧ p.1 ≤ 32768 ∧ p.1 * 512 ≤ p.2.1 ∧ p.2.1 + p.2.2.length ≤ 16777216 ∧ ∀ b, vdat.ownBlock = some b → b < w.heap.size) := by
        intro W' hW'
        have hbw : Below w.heap.size w W' := HB0.out.trans (hW'.mono (by omega))
        have gl := HV.out.rc.lt
        obtain ⟨_, _, _, t3, _⟩ := HV.out.rc.at
        refine ⟨keep1 hbw t3, fun j p hj => ?_⟩
        have hjl := (List.getElem?_eq_some_iff.1 hj).1
        have hgd : st.rps.getD j (0, 0, []) = p := by simp [List.getD, hj]
        obtain ⟨vdat, q0, q1, q2, q3, q4⟩ := PcsOK.at _ _ hpok j hjl
        rw [hgd] at q0 q1 q3
        have hlt := World.ownsRow.lt hprow
        have hc := @World.ownsRow.cells _ _ _ _ _ _ _ hprow
        have hmem := List.mem_of_getElem? hj
        have hbd := hp.sec p hmem
        have hbe := hps p hmem
        rcases hprow.2 with ⟨e1, e2⟩ | ⟨gp, c, cur, e1, _⟩
        · omega
        · simp only [Value.slice.injEq] at e1
          obtain ⟨rfl, -, -⟩ := e1
          have hg := (hlt gp rfl).2
          have cc : ∀ i u, pcells[i]? = some u → W'.cell? ⟨gp, i, none⟩ = some u := fun i u hu => by
            have h := hc (g := gp) rfl i u hu
            rw [Addr.add_lit, Nat.zero_add] at h
            rw [hbw.cell hg]
            exact h
          refine ⟨gp, vdat, rfl, cc _ _ q0, cc _ _ q1, cc _ _ q2, q3.below hbw, by omega, hbd.1, hbe, fun b hb => HV.out.sup b (by rw [q4 b hb]; omega)⟩
      clear hpok hprow
      have hcp : st.rps.length ≤ cp ∧ cp ≤ 9223372036854775807 := by
        rcases HV.out.hp with ⟨cs9, _, hrow9⟩
        rcases hrow9.2 with ⟨e1, e2⟩ | ⟨b, c, cur, e1, _, _, e4, e5, _⟩
        · simp only [Value.slice.injEq] at e1
          omega
        · simp only [Value.slice.injEq] at e1
          unfold maxLen at e5
          omega
      obtain ⟨hcp1, hcp2⟩ := hcp
      go_wp2
      go_loopw [8, 9] (fun la i wr => ∃ k L : Nat, la = .int .i64 L ∧ i = .int .i64 k ∧ k ≤ st.rps.length ∧ L ≤ 40000 ∧ wr = w2 ∧ Hid (∀ (j : Nat) (p : Nat × Nat × List Int), j < k → st.rps[j]? = some p → p.1 ≤ L)) (fun _ i _ => st.rps.length - (intOf i).toNat)
      case atStart => exact ⟨0, 0, rfl, rfl, Nat.zero_le _, by omega, rfl, fun j p hj => by omega⟩
      case round =>
        obtain ⟨k, L, rfl, rfl, hk, hL, hw, HI⟩ := hrel
        subst hw
        obtain ⟨t3, hpc⟩ := HPC.out wr HB2.out
        by_cases hlt : k < st.rps.length
        · have hlt' : (k : Int) < (st.rps.length : Int) := by omega
          obtain ⟨p, hpp⟩ : ∃ p, st.rps[k]? = some p := ⟨st.rps[k], by simp [hlt]⟩
          obtain ⟨gp, vdat, hap, q0, q1, q2, _, hs1, _⟩ := hpc k p hpp
          subst hap
          have HPP := hide hpp
          clear hpc hpp q1 q2
          by_cases hgt : L < p.1
          · have hgt' : (L : Int) < (p.1 : Int) := by omega
            go_wp2
            go_roundw
            case rel =>
              refine ⟨k + 1, p.1, rfl, by go_num, by omega, by omega, trivial, fun j q hj hq => ?_⟩
              by_cases ej : j = k
              · subst ej
                have e := HPP.out.symm.trans hq
                simp only [Option.some.injEq] at e
                rw [e]
                exact Nat.le_refl _
              · have := HI.out j q (by omega) hq
                omega
            case measure => simp [intOf]; omega
          · have hgt' : ¬ (L : Int) < (p.1 : Int) := by omega
            go_wp2
            go_roundw
            case rel =>
              refine ⟨k + 1, L, rfl, by go_num, by omega, by omega, trivial, fun j q hj hq => ?_⟩
              by_cases ej : j = k
              · subst ej
                have e := HPP.out.symm.trans hq
                simp only [Option.some.injEq] at e
                rw [← e]
                omega
              · exact HI.out j q (by omega) hq
            case measure => simp [intOf]; omega
        · have hlt' : ¬ (k : Int) < (st.rps.length : Int) := by omega
          have HLL : Hid (∀ (j : Nat) (p : Nat × Nat × List Int), st.rps[j]? = some p → p.1 ≤ L) := fun j p hj => HI.out j p (by have := (List.getElem?_eq_some_iff.1 hj).1; omega) hj
          clear hpc HI
          obtain ⟨i3, hi3, hz30, hz31, hz32⟩ := info_parts info3
          obtain ⟨S, hS⟩ : ∃ S, S = wr.heap.size := ⟨_, rfl⟩
          have hS1 : w.heap.size + 1 < S := by omega
          have HSE := hide hS
          have hLi : (L : Int) + 1 = ((L + 1 : Nat) : Int) := by omega
          have HLI := hide hLi
          clear hLi
          go_wp2_with (at_make; refine wpList_make_full _ rfl _ _ 24 rfl wr.heap.size 3 i3 (.int .i64 0) 1 Try.underlying24 hi3 hz30 hz31 _ _ _ _ (L + 1) rfl rfl rfl (by first | rfl | (simp; done)) ?b2 ?b3 ?b4 ?_)
          case b2 => first | omega | (rw [hz32]; omega)
          case b3 => unfold maxLen; omega
          intro w3 hown hgrow
          rw [madeInts] at hown
          obtain ⟨hG, _⟩ := ownsRow_full' hown
          have hf3 : w3.heap[w.heap.size + 1]? = some (.cells ((rOut (resz st.dur N) sec rest (st.rps.take 0)).map (Value.int .u8)).toArray 5 (0, 0)) := (hgrow.block (w.heap.size + 1) (by omega) (by simp)).trans HF0.out
          have hg3 : w3.heap[S]? = some (.cells ((List.range (L + 1)).map (fun s => Value.int .i64 (seenOf (st.rps.take 0) s))).toArray 3 (0, 0)) := by
            rw [hS, hG]
            congr 3
            apply List.ext_getElem
            · simp
            · intro i h1 h2
              simp [seenOf]
          have hb3 : Below (w.heap.size + 1) wc w3 := HB2.out.trans ⟨hgrow.os, hgrow.tape, hgrow.output, hgrow.size, fun k hk => hgrow.block k (by omega) (by simp)⟩
          have HF3 := hide hf3
          have HG3 := hide hg3
          have HB3 := hide hb3
          clear hown hgrow hG hf3 hg3 hb3 HF0 HB2 t3 hk hL
          rw [← HSE.out]
          clear hS
          go_wp2
          go_loopw [11] (fun i wq => ∃ k : Nat, i = .int .i64 k ∧ k ≤ st.rps.length ∧ Hid (wq.heap[w.heap.size + 1]? = some (.cells ((rOut (resz st.dur N) sec rest (st.rps.take k)).map (Value.int .u8)).toArray 5 (0, 0))) ∧ Hid (wq.heap[S]? = some (.cells ((List.range (L + 1)).map (fun s => Value.int .i64 (seenOf (st.rps.take k) s))).toArray 3 (0, 0))) ∧ Hid (Below (w.heap.size + 1) wc wq)) (fun i _ => st.rps.length - (intOf i).toNat)
          case atStart => exact ⟨0, rfl, Nat.zero_le _, HF3.out, HG3.out, HB3.out⟩
          case round =>
            obtain ⟨k, rfl, hk, HO, HG, HB⟩ := hrel
            clear HF3 HG3 HB3
            obtain ⟨t3, hpc⟩ := HPC.out wr HB.out
            by_cases hlt : k < st.rps.length
            case neg =>
              have hlt' : ¬ (k : Int) < (st.rps.length : Int) := by omega
              have ek : st.rps.take k = st.rps := List.take_of_length_le (by omega)
              have HEK := hide ek
              clear hpc ek
              go_wp2
              go_ret
              have ho := HO.out
              rw [HEK.out] at ho
              have hl : (rOut (resz st.dur N) sec rest st.rps).length = N := by rw [length_rOut, length_resz]
              refine ⟨_, _, rfl, ?_, HB0.out.trans (HB.out.mono (by omega))⟩
              have h2 := OB.of_full (base := w.heap.size) ho (by omega) (by rw [hl]; unfold maxLen; omega)
              rw [hl] at h2
              exact h2
            case pos =>
              have hlt' : (k : Int) < (st.rps.length : Int) := by omega
              obtain ⟨p, hpp⟩ : ∃ p, st.rps[k]? = some p := ⟨st.rps[k], by simp [hlt]⟩
              obtain ⟨gp, vdat, hap, q0, q1, q2, hsb, hs1, hs2, hs3, hs4⟩ := hpc k p hpp
              subst hap
              have hpL := HLL.out k p hpp
              have htk : st.rps.take (k + 1) = st.rps.take k ++ [p] := by
                rw [List.take_add_one, hpp]
                rfl
              obtain ⟨avd, cvd, hvd, hvd1, hvd2, _⟩ := id hsb
              subst hvd
              unfold maxLen at hvd2
              have HSBD := hide hsb
              have HTK := hide htk
              have hbox : wr.heap[w.heap.size]? = some (.cells #[.int .i64 size, .slice asec sec.length csec, .int .i64 rest] 26 (0, 0)) := (HB.out.block w.heap.size (by omega)).trans HBX.out
              have y0 : wr.cell? ⟨w.heap.size, 0, none⟩ = some (.int .i64 size) := by simp [World.cell?, hbox]
              have y1 : wr.cell? ⟨w.heap.size, 1, none⟩ = some (.slice asec sec.length csec) := by simp [World.cell?, hbox]
              have y2 : wr.cell? ⟨w.heap.size, 2, none⟩ = some (.int .i64 rest) := by simp [World.cell?, hbox]
              have HSI : Hid (SI wr (.slice asec sec.length csec) sec) := HSec.out.below (HB0.out.trans (HB.out.mono (by omega)))
              have hSw : S < wr.heap.size := (Array.getElem?_eq_some_iff.1 HG.out).1
              have hbv : Below wr.heap.size wr (wr.alloc (.cells #[.int .i64 p.1, .int .i64 p.2.1, .slice avd p.2.2.length cvd] 79)) := (Below.refl _ _).alloc (Nat.le_refl _) _
              have z0 := keep1 hbv y0
              have z1 := keep1 hbv y1
              have z2 := keep1 hbv y2
              obtain ⟨V0, hV0⟩ : ∃ V0, V0 = (wr.alloc (.cells #[.int .i64 p.1, .int .i64 p.2.1, .slice avd p.2.2.length cvd] 79)) := ⟨_, rfl⟩
              have HV0 := hide hV0
              have hbp : V0.heap[wr.heap.size]? = some (.cells #[.int .i64 p.1, .int .i64 p.2.1, .slice avd p.2.2.length cvd] 79 (0, 0)) := by rw [hV0]; exact heap_alloc_new _ _
              have hZ0 : V0.heap.size = wr.heap.size + 1 := by rw [hV0]; exact size_alloc' _ _
              have hbv2 : Below wr.heap.size wr V0 := by rw [hV0]; exact hbv
              have HBP := hide hbp
              have HBV := hide hbv2
              have HZ0 := hide hZ0
              clear hpc hpp hsb htk hbox hbv hV0 hbp hZ0 hbv2
              go_wp2_with fail
              rw [← HV0.out]
              refine (rkept_any size rest p.1 (HSI.out.below HBV.out)).mono ?_
              rintro e w4 ⟨rfl, hb4⟩
              have hSw4 : wr.heap.size < w4.heap.size := by have := hb4.size; rw [HZ0.out] at this; omega
              have HK4 : Hid (∀ b, b < wr.heap.size → w4.heap[b]? = wr.heap[b]?) := fun b hb => (hb4.block b (by rw [HZ0.out]; omega)).trans (HBV.out.block b hb)
              have HP4 : Hid (w4.heap[wr.heap.size]? = some (.cells #[.int .i64 p.1, .int .i64 p.2.1, .slice avd p.2.2.length cvd] 79 (0, 0))) := (hb4.block wr.heap.size (by rw [HZ0.out]; omega)).trans HBP.out
              have HB4 : Hid (Below (w.heap.size + 1) wc w4) := HB.out.trans ((HBV.out.trans (hb4.mono (by rw [HZ0.out]; omega))).mono (by omega))
              have u0 : w4.cell? ⟨wr.heap.size, 0, none⟩ = some (.int .i64 p.1) := by simp [World.cell?, HP4.out]
              have u1 : w4.cell? ⟨wr.heap.size, 1, none⟩ = some (.int .i64 p.2.1) := by simp [World.cell?, HP4.out]
              have u2 : w4.cell? ⟨wr.heap.size, 2, none⟩ = some (.slice avd p.2.2.length cvd) := by simp [World.cell?, HP4.out]
              obtain ⟨sn, hsn⟩ : ∃ sn, sn = seenOf (st.rps.take k) p.1 := ⟨_, rfl⟩
              have HSNN := hide hsn
              have hG4 : w4.heap[S]? = some (.cells ((List.range (L + 1)).map (fun s => Value.int .i64 (seenOf (st.rps.take k) s))).toArray 3 (0, 0)) := (HK4.out S hSw).trans HG.out
              have g4 : w4.cell? ⟨S, p.1, none⟩ = some (.int .i64 sn) := by
                simp only [World.cell?, hG4]
                simp [hsn, show p.1 < L + 1 by omega]
              have f4 : ∀ o, w4.frozen? ⟨S, o, none⟩ = false := fun o => by simp [World.frozen?, hG4]
              have HG4 := hide hG4
              have hpl1 : (p.1 : Int) < (L : Int) + 1 := by omega
              obtain ⟨wn, hwn⟩ : ∃ wn, wn = wantedN sec rest p.1 := ⟨_, rfl⟩
              rw [← hwn]
              have HWN := hide hwn
              have hsnb : sn ≤ 100000000000 := by
                rw [hsn]
                unfold seenOf
                exact Nat.le_trans (List.length_filter_le _ _) (Nat.le_trans (by rw [List.length_take]; omega) hpl)
              clear hb4 z0 z1 z2 y0 y1 y2 q0 q1 q2 t3 hsn hG4 hwn
              by_cases hsw : (sn : Int) < wn
              case neg =>
                have hsw' : ¬ (sn : Int) < wn := hsw
                have HRO : Hid (rOut (resz st.dur N) sec rest (st.rps.take (k + 1)) = rOut (resz st.dur N) sec rest (st.rps.take k)) := by
                  show _ = _
                  rw [HTK.out, rOut_snoc, if_neg (by rw [← HSNN.out, ← HWN.out]; exact hsw)]
                have hwr1 : IntKind.i64.wrap ((sn : Int) + 1) = (sn : Int) + 1 := by rw [IntKind.wrap_i64]; omega
                have hO4 := (HK4.out (w.heap.size + 1) (by omega)).trans HO.out
                have HO4 := hide hO4
                clear hO4 hsw
                go_wp2_with fail
                go_region
                all_goals
                  go_wp2
                  go_roundw
                  case rel =>
                    refine ⟨k + 1, by go_num, by omega, ?_, ?_, HB4.out.trans ⟨rfl, rfl, rfl, by show _ ≤ (w4.setCell ⟨S, p.1, none⟩ (.int .i64 ((sn : Int) + 1))).heap.size; rw [size_setCell]; exact Nat.le_refl _, fun b hb => setCell_others w4 S p.1 _ b (by omega)⟩⟩
                    · show (w4.setCell ⟨S, p.1, none⟩ (.int .i64 ((sn : Int) + 1))).heap[w.heap.size + 1]? = _
                      rw [HRO.out, setCell_others _ _ _ _ _ (by omega)]
                      exact HO4.out
                    · show (w4.setCell ⟨S, p.1, none⟩ (.int .i64 ((sn : Int) + 1))).heap[S]? = _
                      rw [set_block _ HG4.out, seen_step _ _ _ _ HSNN.out, HTK.out]
                  case measure => simp [intOf]; omega
              case pos =>
                obtain ⟨CUR, hCUR⟩ : ∃ CUR, CUR = rOut (resz st.dur N) sec rest (st.rps.take k) := ⟨_, rfl⟩
                have hCL : CUR.length = N := by rw [hCUR, length_rOut, length_resz]
                have HRO : Hid (rOut (resz st.dur N) sec rest (st.rps.take (k + 1)) = paintL CUR (p.2.1, 0, p.2.2)) := by
                  show _ = _
                  rw [HTK.out, rOut_snoc, if_pos (by rw [← HSNN.out, ← HWN.out]; exact hsw), ← hCUR]
                have hO4 : w4.heap[w.heap.size + 1]? = some (.cells (CUR.map (Value.int .u8)).toArray 5 (0, 0)) := by rw [hCUR]; exact (HK4.out (w.heap.size + 1) (by omega)).trans HO.out
                have HO4 : Hid (w4.heap[w.heap.size + 1]? = some (.cells ((splice CUR p.2.1 (p.2.2.take 0)).map (Value.int .u8)).toArray 5 (0, 0))) := by
                  show _ = _
                  rw [hO4]
                  simp [splice]
                have HCL := hide hCL
                have HSB4 : Hid (SB w4 (.slice avd p.2.2.length cvd) p.2.2) := HSBD.out.same fun b hb => HK4.out b (by have := hs4 b hb; omega)
                have hwr1 : IntKind.i64.wrap ((sn : Int) + 1) = (sn : Int) + 1 := by rw [IntKind.wrap_i64]; omega
                have hs4' : ∀ b, (Value.slice avd p.2.2.length cvd).ownBlock = some b → b < w.heap.size := hs4
                have HS4 := hide hs4'
                clear hO4 hCUR hCL hs4 hs4'
                have HQ3 : Hid (∀ W' : World, w4.grownBy W' (some (w.heap.size + 1)) → (W'.cell? ⟨wr.heap.size, 0, none⟩ = some (.int .i64 p.1) ∧ W'.cell? ⟨wr.heap.size, 1, none⟩ = some (.int .i64 p.2.1) ∧ W'.cell? ⟨wr.heap.size, 2, none⟩ = some (.slice avd p.2.2.length cvd)) ∧
                    (W'.heap[S]? = some (.cells ((List.range (L + 1)).map (fun s => Value.int .i64 (seenOf (st.rps.take k) s))).toArray 3 (0, 0))) ∧ Below (w.heap.size + 1) wc W' ∧ SB W' (.slice avd p.2.2.length cvd) p.2.2) := by
                  intro W' hg
                  have e1 := (hg.block wr.heap.size hSw4 (by simp; omega)).trans HP4.out
                  refine ⟨⟨by simp [World.cell?, e1], by simp [World.cell?, e1], by simp [World.cell?, e1]⟩, (hg.block S (by omega) (by simp; omega)).trans HG4.out, HB4.out.trans ⟨hg.os, hg.tape, hg.output, hg.size, fun b hb => hg.block b (by omega) (by simp; omega)⟩, HSB4.out.same fun b hb => hg.block b (by have := HS4.out b hb; omega) (by simp; have := HS4.out b hb; omega)⟩
                clear u0 u1 u2 g4 f4
                obtain ⟨u0, u1, u2⟩ := (HQ3.out w4 (World.grownBy.refl _ _)).1
                have g4 : w4.cell? ⟨S, p.1, none⟩ = some (.int .i64 sn) := by
                  simp only [World.cell?, HG4.out]
                  rw [HSNN.out]
                  simp [show p.1 < L + 1 by omega]
                go_wp2_with fail
                go_loopw [14] (fun j wq => ∃ jj : Nat, j = .int .i64 jj ∧ jj ≤ p.2.2.length ∧ (jj = 0 ∨ p.2.1 + jj ≤ N) ∧ Hid (wq.heap[w.heap.size + 1]? = some (.cells ((splice CUR p.2.1 (p.2.2.take jj)).map (Value.int .u8)).toArray 5 (0, 0))) ∧ Hid (w4.grownBy wq (some (w.heap.size + 1)))) (fun j _ => p.2.2.length - (intOf j).toNat)
                case atStart => exact ⟨0, rfl, Nat.zero_le _, .inl rfl, HO4.out, World.grownBy.refl _ _⟩
                case round =>
                  obtain ⟨jj, rfl, hj1, hj2, HOJ, HGJ⟩ := hrel
                  clear u0 u1 u2 g4
                  obtain ⟨⟨u0, u1, u2⟩, hG5, hB5, hSB5⟩ := HQ3.out wr HGJ.out
                  have HG5 := hide hG5
                  have HB5 := hide hB5
                  have HSB5 := hide hSB5
                  clear hG5 hB5 hSB5
                  by_cases hgo : jj < p.2.2.length ∧ p.2.1 + jj < N
                  case pos =>
                    obtain ⟨hg1, hg2⟩ := hgo
                    have hg1' : (jj : Int) < (p.2.2.length : Int) := by omega
                    have hg2' : (p.2.1 : Int) + (jj : Int) < (N : Int) := by omega
                    obtain ⟨bd, od, hab, hcell⟩ : ∃ bd od, avd = some ⟨bd, od, none⟩ ∧ wr.cell? ⟨bd, od + jj, none⟩ = some (.int .u8 (p.2.2.getD jj 0)) := by
                      obtain ⟨ao, cap, e1, h1, h2, h3, h4⟩ := HSB5.out
                      simp only [Value.slice.injEq] at e1
                      obtain ⟨rfl, -, rfl⟩ := e1
                      cases avd with
                      | none => have := h3 rfl; omega
                      | some x =>
                        obtain ⟨b, o, rfl⟩ := addr_lit (h4 x rfl 0 (by omega))
                        exact ⟨b, o, rfl, by have := h4 _ rfl jj hg1; rwa [Addr.add_lit] at this⟩
                    subst hab
                    obtain ⟨dv, hdv⟩ : ∃ dv, dv = p.2.2.getD jj 0 := ⟨_, rfl⟩
                    rw [← hdv] at hcell
                    have HDV := hide hdv
                    clear hdv
                    obtain ⟨q, hq⟩ : ∃ q, q = p.2.1 + jj := ⟨_, rfl⟩
                    have hqi : (p.2.1 : Int) + (jj : Int) = (q : Int) := by omega
                    have hqn : (q : Int) < (N : Int) := by omega
                    have hqw : IntKind.i64.wrap (q : Int) = (q : Int) := by rw [IntKind.wrap_i64]; omega
                    have HQQ := hide hq
                    have hcs : (splice CUR p.2.1 (p.2.2.take jj)).length = N := by rw [length_splice _ _ _ (by rw [HCL.out]; simp; omega), HCL.out]
                    obtain ⟨ov, hov⟩ : ∃ ov, wr.cell? ⟨w.heap.size + 1, q, none⟩ = some ov := by
                      refine ⟨((splice CUR p.2.1 (p.2.2.take jj)).map (Value.int .u8))[q]'(by rw [List.length_map, hcs]; omega), ?_⟩
                      simp only [World.cell?, HOJ.out]
                      simp [hcs, show q < N by omega]
                    have hfo : wr.frozen? ⟨w.heap.size + 1, q, none⟩ = false := by simp [World.frozen?, HOJ.out]
                    have HFIN : Hid ((wr.setCell ⟨w.heap.size + 1, q, none⟩ (.int .u8 dv)).heap[w.heap.size + 1]? = some (.cells ((splice CUR p.2.1 (p.2.2.take (jj + 1))).map (Value.int .u8)).toArray 5 (0, 0))) := by
                      show _ = _
                      rw [set_block _ HOJ.out, HQQ.out, HDV.out, splice_set _ _ _ _ hg1 (by rw [HCL.out]; omega)]
                    have HGF : Hid (w4.grownBy (wr.setCell ⟨w.heap.size + 1, q, none⟩ (.int .u8 dv)) (some (w.heap.size + 1))) := HGJ.out.trans ⟨rfl, rfl, rfl, by rw [size_setCell]; exact Nat.le_refl _, fun b _ hb => setCell_others _ _ _ _ b (fun e => hb (by rw [e]))⟩
                    clear hq hcs
                    go_wp2_with fail
                    go_region
                    all_goals
                      go_wp2
                      go_roundw
                      case rel => exact ⟨jj + 1, by go_num, by omega, .inr (by omega), HFIN.out, ⟨HGF.out.os, HGF.out.tape, HGF.out.output, HGF.out.size, fun b hb hn => HGF.out.block b hb hn⟩⟩
                      case measure => simp [intOf]; omega
                  case neg =>
                    have HRO2 : Hid (rOut (resz st.dur N) sec rest (st.rps.take (k + 1)) = splice CUR p.2.1 (p.2.2.take jj)) := by
                      show _ = _
                      rw [HRO.out, paint_end _ _ _ jj hj1 (by rw [HCL.out]; exact hj2) (by rw [HCL.out]; exact hgo)]
                    have g5 : wr.cell? ⟨S, p.1, none⟩ = some (.int .i64 sn) := by
                      simp only [World.cell?, HG5.out]
                      rw [HSNN.out]
                      simp [show p.1 < L + 1 by omega]
                    have f5 : wr.frozen? ⟨S, p.1, none⟩ = false := by simp [World.frozen?, HG5.out]
                    by_cases hg1 : jj < p.2.2.length
                    case' pos =>
                      have hg1' : (jj : Int) < (p.2.2.length : Int) := by omega
                      have hg2' : ¬ (p.2.1 : Int) + (jj : Int) < (N : Int) := by omega
                    case' neg =>
                      have hg1' : ¬ (jj : Int) < (p.2.2.length : Int) := by omega
                    all_goals
                      clear hgo hg1
                      go_wp2_with fail
                      go_region
                      all_goals
                        go_wp2
                        go_roundw
                        case rel =>
                          refine ⟨k + 1, by go_num, by omega, ?_, ?_, HB5.out.trans ⟨rfl, rfl, rfl, by show _ ≤ (wr.setCell ⟨S, p.1, none⟩ (.int .i64 ((sn : Int) + 1))).heap.size; rw [size_setCell]; exact Nat.le_refl _, fun b hb => setCell_others wr S p.1 _ b (by omega)⟩⟩
                          · show (wr.setCell ⟨S, p.1, none⟩ (.int .i64 ((sn : Int) + 1))).heap[w.heap.size + 1]? = _
                            rw [HRO2.out, setCell_others _ _ _ _ _ (by omega)]
                            exact HOJ.out
                          · show (wr.setCell ⟨S, p.1, none⟩ (.int .i64 ((sn : Int) + 1))).heap[S]? = _
                            rw [set_block _ HG5.out, seen_step _ _ _ _ HSNN.out, HTK.out]
                        case measure => simp [intOf]; omega
end Go.Proofs.Yteiajeeincapoac
