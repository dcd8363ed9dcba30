import Derived.Test.YteiajeeincapoacRLay
namespace Go.Proofs.Yteiajeeincapoac
open Go.RowKit Go.Maps

structure RInv (st : RSt) : Prop where
  room : st.room ≤ 16777216
  now : st.now.length ≤ st.room
  dur : st.dur.length ≤ st.room
  calls : st.calls ≤ 2000000
  f1 : -1 ≤ st.fuse
  f2 : st.fuse ≤ 9223372036854775807
  rps : st.rps.length ≤ st.calls * 40000
  sizes : st.sizes.length ≤ st.calls

theorem carry_same (st : RSt) : (carrySt st).room = st.room ∧ (carrySt st).now = st.now ∧ (carrySt st).dur = st.dur ∧ (carrySt st).rps = st.rps ∧ (carrySt st).sizes = st.sizes := by
  unfold carrySt
  split <;> exact ⟨rfl, rfl, rfl, rfl, rfl⟩

def layR (st : RSt) (F : Nat) (D : List Int) (qs : List (Nat × Nat × List Int)) : RSt :=
  { st with now := splice (resz st.now (max st.now.length (F + D.length))) F D, rps := st.rps ++ qs, sizes := if st.now.length < F + D.length then st.sizes ++ [F + D.length] else st.sizes }

def rwErr (st : RSt) (off : Int) (n : Nat) : Int := if st.live = false then 12 else if off < 0 then 1 else if (st.room : Int) < off + n then 10 else if st.fuse = 0 then 12 else 0

def RWr (st : RSt) (off : Int) (data : List Int) (st' : RSt) : Prop :=
  if st.live = false ∨ off < 0 ∨ (st.room : Int) < off + data.length then st' = st else if st.fuse = 0 ∨ data.length = 0 then st' = carrySt st else
  ∃ qs, RP (min off.toNat st.now.length) (List.replicate (off.toNat - st.now.length) 0 ++ data) (List.replicate (off.toNat - st.now.length) 0 ++ data).length qs ∧ qs.length ≤ 40000 ∧ st' = layR (carrySt st) (min off.toNat st.now.length) (List.replicate (off.toNat - st.now.length) 0 ++ data) qs

theorem rsizes_fin {w3 w6 w : World} {K K' : Nat → Nat} {g n : Nat} {st : RSt} {vn vd vp vs v' : Value} {O : Obj} (hV : RRepV w3 K' g st vn vd vp vs) (hF : Fr K K' w w3) (hown : w6.ownsRow 0 3 1 v' (st.sizes.length + 1) ((st.sizes.map fun (n : Nat) => Value.int .i64 n) ++ [.int .i64 n])) (hgr : (w3.alloc O).grownBy w6 vs.ownBlock) (hloc : v'.ownBlock = vs.ownBlock ∨ v'.ownBlock = some (w3.heap.size + 1)) :
    ∃ K'', RRep (w6.setCell ⟨g, 4, none⟩ v') K'' g { st with sizes := st.sizes ++ [n] } ∧ Fr K K'' w (w6.setCell ⟨g, 4, none⟩ v') := by
  have hg2 : w3.grownBy w6 vs.ownBlock := (World.grownBy_alloc w3 _ _).trans hgr
  have hoi : OI w6 v' (st.sizes ++ [n]) := by
    show w6.ownsRow 0 3 1 v' (st.sizes ++ [n]).length _
    rw [List.length_append, List.map_append]
    exact hown
  obtain ⟨K2, h1, h2⟩ := hV.setSizes hoi hg2 (fun k hk => by
    rcases hloc with e | e
    · exact .inl (e.symm.trans hk)
    · right; rw [e] at hk; simp at hk; omega) (fun k hk => (World.ownsRow.lt hown k hk).2)
  exact ⟨K2, ⟨_, _, _, _, h1⟩, hF.trans h2⟩

theorem SB.lt {w : World} {v : Value} {l : List Int} (h : SB w v l) (h0 : 0 < l.length) : ∀ q, v.ownBlock = some q → q < w.heap.size := by
  obtain ⟨ao, cap, rfl, h1, h2, h3, h4⟩ := h
  intro q hq
  cases ao with
  | none => simp [Value.ownBlock] at hq
  | some x =>
    simp only [Value.ownBlock, Option.some.injEq] at hq
    subst hq
    have := World.block_lt_of_cell? _ _ (h4 x rfl 0 h0)
    rwa [add_block] at this

theorem SB.fr {w w' : World} {K K' : Nat → Nat} {v : Value} {l : List Int} (h : SB w v l) (h0 : 0 < l.length) (hr : Role K v 0) (hF : Fr K K' w w') : SB w' v l ∧ Role K' v 0 :=
  ⟨h.same fun q hq => hF.block q (h.lt h0 q hq) (.inl (hr q hq)), fun q hq => (hF.role q (h.lt h0 q hq)).trans (hr q hq)⟩

theorem whole_splice (z : Nat) (data : List Int) : splice (List.replicate (z + data.length) (0 : Int)) z data = List.replicate z 0 ++ data := by
  unfold splice
  rw [List.take_replicate, List.drop_replicate, show min z (z + data.length) = z by omega, show z + data.length - (z + data.length) = 0 by omega]
  simp

set_option linter.unusedSimpArgs false in
set_option maxRecDepth 20000 in
set_option maxHeartbeats 4000000 in
theorem rwrite_any {w : World} {K : Nat → Nat} {g : Nat} {st : RSt} {v : Value} {data : List Int} (off : Int) (h : RRep w K g st) (hI : RInv st) (hv : SB w v data) (hk0 : 0 < data.length → Role K v 0) :
    Calls Try.prog 26 #[.pointer (some ⟨g, 0, none⟩), .int .i64 off, v] w fun e w' => e = .returned (.int .i64 (rwErr st off data.length)) ∧ ∃ K' st', RRep w' K' g st' ∧ Fr K K' w w' ∧ RWr st off data st' := by
  have HR := hide h
  have HSB := hide hv
  have HK0 := hide hk0
  obtain ⟨av, cv, hvv, hcv1, hcv2, _⟩ := hv
  unfold maxLen at hcv2
  subst hvv
  obtain ⟨vn, vd, vp, vs, hV⟩ := h
  obtain ⟨c0, _, _, _, _, _, _, c7⟩ := hV.rc.at
  have h1 := hI.room
  have h2 := hI.now
  have h3 := hI.calls
  have h4 := hI.f1
  have h5 := hI.f2
  have h6 := hI.rps
  have h7 := hI.sizes
  clear hV hk0 hI
  cases hd : st.live
  case false =>
    have HE : Hid (rwErr st off data.length = 12 ∧ RWr st off data st) := ⟨by unfold rwErr; rw [if_pos hd], by unfold RWr; rw [if_pos (.inl hd)]⟩
    rw [hd] at c7
    clear hd
    go_enter Try.func26, Try.ntmps26
    go_wp2
    go_ret
    rw [HE.out.1]
    exact ⟨rfl, K, st, HR.out, Fr.refl _ _, HE.out.2⟩
  case true =>
    rw [hd] at c7
    have hd' : ¬ st.live = false := by rw [hd]; simp
    have HD := hide hd'
    clear hd hd'
    by_cases hn0 : off < 0
    · have HE : Hid (rwErr st off data.length = 1 ∧ RWr st off data st) := ⟨by unfold rwErr; rw [if_neg HD.out, if_pos hn0], by unfold RWr; rw [if_pos (.inr (.inl hn0))]⟩
      go_enter Try.func26, Try.ntmps26
      go_wp2
      go_ret
      rw [HE.out.1]
      exact ⟨rfl, K, st, HR.out, Fr.refl _ _, HE.out.2⟩
    · by_cases hnc : (st.room : Int) < off + data.length
      · have HE : Hid (rwErr st off data.length = 10 ∧ RWr st off data st) := ⟨by unfold rwErr; rw [if_neg HD.out, if_neg hn0, if_pos hnc], by unfold RWr; rw [if_pos (.inr (.inr hnc))]⟩
        by_cases hx : (st.room : Int) < off
        · go_enter Try.func26, Try.ntmps26
          go_wp2
          go_ret
          rw [HE.out.1]
          exact ⟨rfl, K, st, HR.out, Fr.refl _ _, HE.out.2⟩
        · have hx2 : (st.room : Int) - off < data.length := by omega
          go_enter Try.func26, Try.ntmps26
          go_wp2
          go_ret
          rw [HE.out.1]
          exact ⟨rfl, K, st, HR.out, Fr.refl _ _, HE.out.2⟩
      · obtain ⟨k, rfl⟩ := Int.eq_ofNat_of_zero_le (show 0 ≤ off by omega)
        have hx1 : ¬ (st.room : Int) < (k : Int) := by omega
        have hx2 : ¬ (st.room : Int) - (k : Int) < data.length := by omega
        have hbad : ¬ (st.live = false ∨ (k : Int) < 0 ∨ (st.room : Int) < (k : Int) + data.length) := by
          rintro (e | e | e)
          · exact HD.out e
          · omega
          · exact hnc e
        by_cases hf : st.fuse = 0
        · have HE : Hid (rwErr st k data.length = 12 ∧ RWr st k data (carrySt st)) := ⟨by unfold rwErr; rw [if_neg HD.out, if_neg hn0, if_neg hnc, if_pos hf], by unfold RWr; rw [if_neg hbad, if_pos (.inl hf)]⟩
          have HC : Hid ((!carryNo st) = false) := by show _ = _; simp [carryNo, hf]
          clear hbad hf
          go_enter Try.func26, Try.ntmps26
          go_wp2_with fail
          refine (carried_any HR.out (by omega) h4 h5).mono ?_
          rintro e w2 ⟨rfl, hR2, hF2⟩
          rw [HC.out]
          have HR2 := hide hR2
          have HF2 := hide hF2
          clear hR2 hF2 c0 c7
          go_wp2
          go_ret
          rw [HE.out.1]
          exact ⟨rfl, K, _, HR2.out, HF2.out, HE.out.2⟩
        · have HE1 : Hid (rwErr st k data.length = 0) := by show _ = _; unfold rwErr; rw [if_neg HD.out, if_neg hn0, if_neg hnc, if_neg hf]
          have HC : Hid ((!carryNo st) = true) := by show _ = _; simp [carryNo, hf]
          by_cases he : data.length = 0
          · have HE2 : Hid (RWr st k data (carrySt st)) := by show RWr _ _ _ _; unfold RWr; rw [if_neg hbad, if_pos (.inr he)]
            have he' : ((data.length : Int) == 0) = true := beq_iff_eq.2 (by omega)
            clear hbad hf he
            go_enter Try.func26, Try.ntmps26
            go_wp2_with fail
            refine (carried_any HR.out (by omega) h4 h5).mono ?_
            rintro e w2 ⟨rfl, hR2, hF2⟩
            rw [HC.out]
            have HR2 := hide hR2
            have HF2 := hide hF2
            clear hR2 hF2 c0 c7
            go_wp2
            go_ret
            rw [HE1.out]
            exact ⟨rfl, K, _, HR2.out, HF2.out, HE2.out⟩
          · have hpos : 0 < data.length := by omega
            have he' : ((data.length : Int) == 0) = false := beq_eq_false_iff_ne.2 (by omega)
            obtain ⟨F, hF⟩ : ∃ F, F = min k st.now.length := ⟨_, rfl⟩
            obtain ⟨D, hD⟩ : ∃ D, D = List.replicate (k - st.now.length) (0 : Int) ++ data := ⟨_, rfl⟩
            have HE2 : Hid (∀ qs, RP F D D.length qs → qs.length ≤ 40000 → RWr st k data (layR (carrySt st) F D qs)) := by
              intro qs q1 q2
              unfold RWr
              rw [if_neg hbad, if_neg (by rintro (e | e); exact hf e; exact he e), Int.toNat_natCast, ← hF, ← hD]
              exact ⟨qs, q1, q2, rfl⟩
            have hDl : D.length = k - st.now.length + data.length := by rw [hD]; simp
            have HFD := hide hF
            have HDD := hide hD
            have HDL := hide hDl
            have hFE : F + D.length = k + data.length := by omega
            have hFle : F ≤ st.now.length := by omega
            have hcar := carry_same st
            have HCAR := hide hcar
            have hrpl : st.rps.length ≤ 3000000000000 := by omega
            clear hbad hf he hF hD hDl hcar
            go_enter Try.func26, Try.ntmps26
            go_wp2_with fail
            refine (carried_any HR.out (by omega) h4 h5).mono ?_
            rintro e w2 ⟨rfl, hR2, hF2⟩
            rw [HC.out]
            have HS2 := hide (HSB.out.fr hpos (HK0.out hpos) hF2)
            have HR2 := hide hR2
            have HF2 := hide hF2
            obtain ⟨vn2, vd2, vp2, vs2, hV2⟩ := hR2
            obtain ⟨_, q1, _⟩ := hV2.rc.at
            obtain ⟨a2, c2, hvn2⟩ := hV2.hn.shape
            rw [HCAR.out.2.1] at hvn2
            subst hvn2
            clear hF2 c0 c7 hV2
            by_cases hks : k ≤ st.now.length
            case' pos =>
              have hks' : (k : Int) ≤ (st.now.length : Int) := by omega
              have eF : k = F := by rw [HFD.out]; omega
              have eD : data = D := by rw [HDD.out, show k - st.now.length = 0 by omega]; rfl
              have HEF := hide eF
              have HED := hide eD
              clear eF eD hks
              go_wp2_with fail
              refine (rlay_any k HR2.out (by rw [HCAR.out.2.1]; omega) (by rw [HCAR.out.2.1]; omega) (by omega) (by rw [HCAR.out.2.2.2.1]; exact hrpl) HS2.out.1 HS2.out.2 hpos).mono ?_
              rintro e w4 ⟨rfl, K4, qs, hq1, hq2, hR4, hF4⟩
              have hR4 : RRep w4 K4 g { carrySt st with now := splice (resz (carrySt st).now (max (carrySt st).now.length (F + D.length))) F D, rps := (carrySt st).rps ++ qs } := by rw [← HEF.out, ← HED.out]; exact hR4
              have hq1 : RP F D D.length qs := by rw [← HEF.out, ← HED.out]; exact hq1
              have HF4 := hide (HF2.out.trans hF4)
              have HR4 := hide hR4
              have HQ1 := hide hq1
              have HQ2 := hide hq2
              clear hF4 hR4 hq1 hq2 q1
            case' neg =>
              have hks' : ¬ (k : Int) ≤ (st.now.length : Int) := by omega
              obtain ⟨Z, hZ⟩ : ∃ Z, Z = k - st.now.length := ⟨_, rfl⟩
              obtain ⟨M, hM⟩ : ∃ M, M = Z + data.length := ⟨_, rfl⟩
              have hZi : (k : Int) - (st.now.length : Int) = (Z : Int) := by omega
              have hMi : (Z : Int) + (data.length : Int) = (M : Int) := by omega
              obtain ⟨i0, hi, hz0, hz1, hz2⟩ := info_parts info5
              have hZM : (Z : Int) ≤ (M : Int) := by omega
              have hZM2 : ¬ M = Z := by omega
              have eF : st.now.length = F := by rw [HFD.out]; omega
              have eD : List.replicate Z (0 : Int) ++ data = D := by rw [HDD.out, hZ]
              have HEF := hide eF
              have HED := hide eD
              have HM := hide hM
              have HML : Hid (M ≤ 16777216) := by show _ ≤ _; omega
              have HMM : Hid (M * 1 ≤ 281474976710656 ∧ M ≤ 16777216 ∧ data.length ≤ M - Z ∧ Z + data.length ≤ M) := by show _ ∧ _; omega
              clear eF eD hks hZ hM
              go_wp2_with (at_make; refine wpList_make_full _ rfl _ _ 22 rfl w2.heap.size 5 i0 (.int .u8 0) 1 Try.underlying22 hi hz0 hz1 _ _ _ _ M rfl rfl rfl rfl ?b2 ?b3 ?b4 ?_)
              case b2 => rw [hz2]; have := HMM.out; omega
              case b3 => unfold maxLen; have := HMM.out; omega
              case b4 => exact Nat.le_refl _
              intro w3 hown hgrow
              rw [madeBytes] at hown
              obtain ⟨hg, _⟩ := ownsRow_full hown
              have hb3 : Below w2.heap.size w2 w3 := (Below.refl _ _).grown hgrow (Nat.le_refl _) (fun k hk => by cases hk)
              have HG3 := hide hg
              have HB3 := hide hb3
              have hsb3 := HS2.out.1.below hb3
              obtain ⟨ao, cap, hvv, hlc, hcm, hnil, hcell⟩ := hsb3
              simp only [Value.slice.injEq] at hvv
              obtain ⟨rfl, -, rfl⟩ := hvv
              have HN := hide hnil
              have HCC := hide hcell
              obtain ⟨xs, hxs⟩ : ∃ xs, xs = data.map (Value.int .u8) := ⟨_, rfl⟩
              have HXS := hide hxs
              have C1 : Hid (xs.length = Nat.min data.length (M - Z)) := by show _ = _; rw [hxs, List.length_map]; exact (Nat.min_eq_left HMM.out.2.2.1).symm
              have C2 : Hid (0 < xs.length → (some (⟨w2.heap.size, Z, none⟩ : Addr)) = some ⟨w2.heap.size, Z, none⟩ ∧ ∃ x, av = some x ∧ ∀ j v, xs[j]? = some v → w3.cell? (x.add j) = some v) := by
                intro _
                refine ⟨rfl, ?_⟩
                cases av with
                | none => have := HN.out rfl; omega
                | some x =>
                  refine ⟨x, rfl, fun j u hj => ?_⟩
                  rw [HXS.out] at hj
                  obtain ⟨hjl, rfl⟩ := List.getElem?_eq_some_iff.1 hj
                  have hjl' : j < data.length := by simpa using hjl
                  rw [HCC.out x rfl j hjl']
                  simp [hjl']
              have C3 : Hid (Z + xs.length ≤ (List.replicate M (Value.int .u8 0)).length) := by show _ ≤ _; rw [hxs]; simp; exact HMM.out.2.2.2
              have C4 : Hid (∀ v ∈ xs, v.oneCell' = true) := by rw [hxs]; intro u hu; obtain ⟨n, _, rfl⟩ := List.mem_map.1 hu; rfl
              have HM2 := hide hMi
              have HFE := hide hFE
              clear hown hgrow hg hb3 hnil hcell hxs q1 hMi hFE
              go_wp2_with (refine wpList_copy_gr rfl _ _ 22 22 rfl 5 Try.underlying22 sizeByte _ _ _ _ _ _ rfl rfl w2.heap.size Z (List.replicate M (Value.int .u8 0)) 5 HG3.out xs C1.out C2.out C3.out C4.out ?_)
              intro w5 HW5 hgr5
              have hb5 : Below w2.heap.size w2 w5 := HB3.out.trans ⟨hgr5.os, hgr5.tape, hgr5.output, hgr5.size, fun k hk => hgr5.block k (by have := HB3.out.size; omega) (by simp; omega)⟩
              have hDM : D.length = M := by rw [← HED.out, HM.out]; simp
              have hob5 : OB w5 w2.heap.size (.slice (some ⟨w2.heap.size, 0, none⟩) M M) D := by
                have e : splice (List.replicate M (Value.int .u8 0)) Z xs = D.map (Value.int .u8) := by
                  rw [HXS.out, ← HED.out, ← whole_splice, map_splice, List.map_replicate, HM.out]
                have h := HW5.out
                rw [e] at h
                have h2 := OB.of_full (base := w2.heap.size) h (Nat.le_refl _) (by rw [hDM]; unfold maxLen; have := HML.out; omega)
                rw [hDM] at h2
                exact h2
              have HO5 := hide hob5
              have HR5 := hide (HR2.out.below hb5)
              have HK5 : Hid (Role K (.slice (some ⟨w2.heap.size, 0, none⟩) M M) 0) := fun q hq => by
                simp only [Value.ownBlock, Option.some.injEq] at hq
                by_cases e : K q = 0
                · exact e
                · have := HR2.out.sup q e; omega
              have HF5 := hide (HF2.out.trans (Fr.of_below (K := K) hb5))
              have hDpos : 0 < D.length := by rw [hDM, HM.out]; omega
              clear hb5 hgr5 HW5 C1 C2 C3 C4 hob5
              clear hDM
              have hFE := HFE.out
              go_wp2_with fail
              refine (rlay_any st.now.length HR5.out (by rw [HCAR.out.2.1]; omega) (by rw [HCAR.out.2.1]; exact Nat.le_refl _) (by rw [HEF.out]; omega) (by rw [HCAR.out.2.2.2.1]; exact hrpl) HO5.out.sb HK5.out hDpos).mono ?_
              rintro e w4 ⟨rfl, K4, qs, hq1, hq2, hR4, hF4⟩
              have hR4 : RRep w4 K4 g { carrySt st with now := splice (resz (carrySt st).now (max (carrySt st).now.length (F + D.length))) F D, rps := (carrySt st).rps ++ qs } := by rw [HEF.out] at hR4; exact hR4
              have hq1 : RP F D D.length qs := by rw [HEF.out] at hq1; exact hq1
              have HF4 := hide (HF5.out.trans hF4)
              have HR4 := hide hR4
              have HQ1 := hide hq1
              have HQ2 := hide hq2
              clear hF4 hR4 hq1 hq2
            all_goals
              obtain ⟨vn4, vd4, vp4, vs4, hV4⟩ := HR4.out
              obtain ⟨_, g1, _, _, g4, _⟩ := hV4.rc.at
              have hfz := hV4.rc.free
              have hlen4 : (splice (resz (carrySt st).now (max (carrySt st).now.length (F + D.length))) F D).length = max st.now.length (k + data.length) := by
                rw [length_splice _ _ _ (by rw [length_resz, HCAR.out.2.1]; omega), length_resz, HCAR.out.2.1, hFE]
              obtain ⟨a4, c4, hvn4⟩ := hV4.hn.shape
              simp only [hlen4] at hvn4
              subst hvn4
              have HV4 := hide hV4
              by_cases hgw : st.now.length < k + data.length
              · obtain ⟨E, hE⟩ : ∃ E, E = k + data.length := ⟨_, rfl⟩
                have hmx : max st.now.length (k + data.length) = E := by omega
                rw [hmx] at g1
                have hne : ((E : Int) != (st.now.length : Int)) = true := bne_iff_ne.2 (by omega)
                have HFE2 : Hid (F + D.length = E) := by show _ = _; omega
                have HLE : Hid (st.now.length < E) := by show _ < _; omega
                obtain ⟨az, cz, hvs4⟩ := OI.shape hV4.hs
                simp only [HCAR.out.2.2.2.2] at hvs4
                subst hvs4
                have hso : w4.ownsRow 0 3 1 (.slice az st.sizes.length cz) st.sizes.length (st.sizes.map fun (n : Nat) => Value.int .i64 n) := by
                  have := hV4.hs
                  unfold OI at this
                  simp only [HCAR.out.2.2.2.2] at this
                  exact this
                have hsn : (Value.slice az st.sizes.length cz).ownBlock ≠ some g := fun e => by have := hV4.ks g e; rw [hV4.kg] at this; omega
                have gl := hV4.rc.lt
                obtain ⟨i3, hi3, hz30, hz31, hz32⟩ := info_parts info3
                have HI3 := hide hi3
                have HZ30 := hide hz30
                have HZ31 := hide hz31
                have HZ32 := hide hz32
                have HSO := hide hso
                have HP1 : Hid (0 < 1) := by show 0 < 1; omega
                have HPM : Hid (st.sizes.length + 1 ≤ maxLen) := by show _ ≤ _; unfold maxLen; omega
                have HPB : Hid ((st.sizes.length + 1) * 8 ≤ 140737488355328) := by show _ ≤ _; omega
                have k1 : (w4.alloc (.cells #[.int .i64 E] 3)).cell? ⟨g, 4, none⟩ = some (.slice az st.sizes.length cz) := keep1 ((Below.refl w4.heap.size w4).alloc (Nat.le_refl _) _) g4
                have HROW : Hid (∀ W : World, W.heap = (w4.alloc (.cells #[.int .i64 E] 3)).heap → W.ownsRow 0 3 1 (.slice az st.sizes.length cz) st.sizes.length (st.sizes.map fun (n : Nat) => Value.int .i64 n)) := fun W hW => ownsRow_same HSO.out fun q hq => by rw [hW]; exact Below.heap_alloc _ _ q (World.ownsRow.lt HSO.out q hq).2
                have HG6 : Hid (∀ (w6 : World), (w4.alloc (.cells #[.int .i64 E] 3)).drew.grownBy w6 (Value.slice az st.sizes.length cz).ownBlock → w6.cell? ⟨g, 4, none⟩ = some (.slice az st.sizes.length cz) ∧ w6.frozen? ⟨g, 4, none⟩ = false) := fun w6 hg => by
                  have e1 : w6.heap[g]? = w4.heap[g]? := (hg.block g (by show g < (w4.alloc _).heap.size; rw [size_alloc']; omega) (fun e => hsn e.symm)).trans (Below.heap_alloc _ _ g gl)
                  have hrc := HV4.out.rc.of_heap e1
                  exact ⟨hrc.at.2.2.2.2.1, hrc.free 4⟩
                clear hV4 hlen4 hgw hmx hE hFE hi3 hz30 hz31 hz32 hso h1 h2 h3 h4 h5 h6 h7
                go_wp2_with fail
                go_region_law (refine step_append_lies _ (by rfl) _ _ _ (by rfl) 0 3 i3 _ 1 8 Try.underlying24 HI3.out HZ30.out HZ31.out HZ32.out rfl HP1.out (.slice az st.sizes.length cz) st.sizes.length (st.sizes.map fun (n : Nat) => Value.int .i64 n) (by simp [Act.eval, Act.put]) (HROW.out _ (by rfl)) ⟨w4.heap.size, 0, none⟩ 1 1 [.int .i64 E] (by simp [Act.eval, Act.put]) (by rfl) (World.news_of_block (cs := #[.int .i64 E]) (t := 3) (fr := (0, 0)) (heap_alloc_new w4 _)) (fun u hu => by rw [List.mem_singleton.1 hu]; rfl) HP1.out HPM.out HPB.out (Nat.zero_le _) (w4.heap.size + 1) (by simp) ?_; intro gg cap6 w6 hown6 hgrow6 hat6 hlt6; obtain ⟨t4, tf⟩ := HG6.out w6 hgrow6; have HALL := hide (And.intro hown6 (And.intro hgrow6 hat6)); clear hown6 hgrow6 hat6 hlt6)
                all_goals
                  obtain ⟨hown6, hgrow6, hat6⟩ := HALL.out
                  have hfin := rsizes_fin (n := E) (st := { carrySt st with now := splice (resz (carrySt st).now (max (carrySt st).now.length (F + D.length))) F D, rps := (carrySt st).rps ++ qs }) (v' := .slice (some ⟨gg, 0, none⟩) (st.sizes.length + 1) cap6) HV4.out HF4.out (by simp only [HCAR.out.2.2.2.2]; exact hown6) (O := .cells #[.int .i64 E] 3) ⟨hgrow6.os, hgrow6.tape, hgrow6.output, hgrow6.size, fun k hk hne => hgrow6.block k hk hne⟩ (hat6.elim (fun e => .inl e.symm) (fun e => .inr (by rw [← e]; rfl)))
                  have HFI := hide hfin
                  have HFIN : Hid (RWr st k data { carrySt st with now := splice (resz (carrySt st).now (max (carrySt st).now.length (F + D.length))) F D, rps := (carrySt st).rps ++ qs, sizes := (carrySt st).sizes ++ [E] }) := by
                    have h := HE2.out qs HQ1.out HQ2.out
                    unfold layR at h
                    rw [if_pos (by rw [HCAR.out.2.1, HFE2.out]; exact HLE.out), HFE2.out] at h
                    rw [HFE2.out]
                    exact h
                  clear hown6 hgrow6 hat6 hfin HALL t4 tf k1
                  go_wp2
                  go_ret
                  rw [HE1.out]
                  obtain ⟨K7, hR7, hF7⟩ := HFI.out
                  exact ⟨rfl, K7, _, hR7, hF7, HFIN.out⟩
              · have hmx : max st.now.length (k + data.length) = st.now.length := by omega
                rw [hmx] at g1
                have hne : ((st.now.length : Int) != (st.now.length : Int)) = false := by simp
                have HFIN : Hid (RWr st k data { carrySt st with now := splice (resz (carrySt st).now (max (carrySt st).now.length (F + D.length))) F D, rps := (carrySt st).rps ++ qs }) := by
                  have h := HE2.out qs HQ1.out HQ2.out
                  unfold layR at h
                  rw [if_neg (by rw [HCAR.out.2.1]; omega)] at h
                  exact h
                clear hV4 hlen4 hgw hmx hFE
                go_wp2
                go_ret
                rw [HE1.out]
                exact ⟨rfl, K4, _, HR4.out, HF4.out, HFIN.out⟩
end Go.Proofs.Yteiajeeincapoac
