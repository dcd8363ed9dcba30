import Derived.Test.YtiabhmdefaabgabDoorGSnd
namespace Go.Proofs.YtiabhmdefaabgabDoor
open Go.RowKit Go.Maps
set_option maxRecDepth 20000
set_option linter.unusedVariables false

theorem Herd.growB {W w w' : World} {xs : List ((Nat → Nat) × Thing)} (H : Herd W w xs) (i : Nat) {K : Nat → Nat} {v v' : Value} {l l' : List Int} (hi : xs[i]? = some (K, tl v l)) (ho : OB w' 0 v' l') (hg : Grew w w' v v') : ∃ K', Herd W w' (xs.set i (K', tl v' l')) := by
  have hp : (tl v l).P w K := H.rep i _ hi
  have hs : w.heap.size ≤ w'.heap.size := hg.by.size
  refine ⟨fun k => if k < w.heap.size then K k else if v'.ownBlock = some k then 1 else 0, H.op i hi (x' := tl v' l') ⟨ho, fun k hk => ?_, fun k hk => ?_⟩ ⟨hg.by.os, hg.by.tape, hg.by.output, hs, fun k hk h0 => ?_, fun k hk => by simp [hk]⟩⟩
  · by_cases c : k < w.heap.size
    · simp only [c, if_true]
      rcases hg.at with e | e
      · rw [e] at hk
        simp at hk
        omega
      · exact hp.2.1 k (by rw [← e]; exact hk)
    · simp [c, hk]
  · by_cases c : k < w.heap.size
    · omega
    · simp only [c, if_false] at hk
      by_cases e : v'.ownBlock = some k
      · exact (ho.lt k e).2
      · simp [e] at hk
  · exact hg.by.block k hk (fun e => hp.2.1 k e.symm h0)

theorem cut_row {B : List Int} {k : Nat} (hb : Bit B) (hk : k < (pack B).length) : unpack ((pack B).take k) = B.take (8 * k) ∧ 8 * k < B.length := by
  have hl := length_pack hb
  have h8 : 8 * k < B.length := by omega
  refine ⟨?_, h8⟩
  rw [unpack_take, (unpack_pack hb).1]
  unfold pad
  rw [List.take_append_of_le_length (by omega)]

set_option maxHeartbeats 8000000 in
theorem headerCut_walk (v1 v2 v3 : Value) (at' : Int) (l d t : List Int) (w : World) (s1 : SI w v1 l) (s2 : SI w v2 d) (s3 : SB w v3 t) (hby : Byt t) (hn0 : -9223372036854775808 ≤ at') (hn1 : at' ≤ 9223372036854775807) (T : Tab w) (O : Odr w) :
    Calls Tryd.prog 7 #[v1, v2, .int .i64 at', v3] w fun e w' => e = .returned (.bool true) ∧ Below w.heap.size w w' := by
  have H1 := hide s1
  have H2 := hide s2
  have H3 := hide s3
  have HBY := hide hby
  have HT := hide T
  have HO := hide O
  have HVD := hide (verdict_any _ _ l d w s1 s2)
  rw [← vd_mk] at HVD
  obtain ⟨a1, c1, rfl, -, -⟩ := s1.open
  obtain ⟨a2, c2, rfl, -, -⟩ := s2.open
  obtain ⟨a3, c3, hv3, hc3, hd3, -, -⟩ := s3
  subst hv3
  unfold maxLen at hd3
  clear s1 s2 hby T O
  obtain ⟨E, HE⟩ : ∃ E, Hid (E = mkE l d) := ⟨_, rfl⟩
  rw [← HE.out] at HVD
  go_enter Tryd.func7, Tryd.ntmps7
  go_wp2_with fail
  refine HVD.out.mono ?_
  rintro e w1 ⟨rfl, hw1⟩
  rw [hw1]
  clear hw1
  by_cases e0 : E = 0
  case neg =>
    have e0' : (E != 0) = true := by simpa using e0
    go_wp2
    go_ret
    exact ⟨rfl, Below.refl _ _⟩
  subst e0
  by_cases g3 : 1048576 < t.length
  · have g3' : (1048576 : Int) < (t.length : Int) := by omega
    go_wp2
    go_ret
    exact ⟨rfl, Below.refl _ _⟩
  have g3' : ¬ (1048576 : Int) < (t.length : Int) := by omega
  have HM0 : Hid (mkE l d = 0) := HE.out.symm
  have hl1 := (mk_facts HM0.out).1
  have hl2 := (mk_facts HM0.out).2.1
  have HNW := hide (hnewW (Herd.nil w))
  go_wp2_with fail
  refine HNW.out.mono ?_
  rintro e w2 ⟨g, K2, rfl, h2⟩
  have HX2 := hide h2
  clear h2 HNW HVD
  go_wp2_with fail
  refine (ints_any _ l w2 (H1.out.below HX2.out.bel) (by omega)).mono ?_
  rintro e w3 ⟨v4, rfl, hv4, o4, b4⟩
  subst hv4
  have HX3 := hide (HX2.out.below b4)
  have HO3 := hide o4
  clear o4 b4
  go_wp2_with fail
  refine (ints_any _ d w3 (H2.out.below HX3.out.bel) (by omega)).mono ?_
  rintro e w4 ⟨v5, rfl, hv5, o5, b5⟩
  subst hv5
  have HX4 := hide (HX3.out.below b5)
  have HWR := hide (hwrite HX4.out 0 rfl _ _ l d (HO3.out.below b5 (Nat.le_refl _)).sb o5.sb HT.out HO.out)
  obtain ⟨wf1, wf2, -⟩ := wr_facts (l := l) (d := d) (row := []) (by simp)
  rw [wf1, wf2 HM0.out, HM0.out, List.nil_append] at HWR
  clear o5 b5 wf1 wf2
  go_wp2_with fail
  refine HWR.out.mono ?_
  rintro e w5 ⟨rfl, K5, h5⟩
  have HX5 : Hid (Herd w w5 [(K5, tw g (mkB l d))]) := h5
  have HBT := hide (HX5.out.bit 0 rfl).1
  have HBS := hide (hbytes HX5.out 0 rfl)
  have HBL := hide (mkB_len HM0.out).2
  obtain ⟨B, HB⟩ : ∃ B, Hid (B = mkB l d) := ⟨_, rfl⟩
  rw [← HB.out] at HBT HBS HBL
  obtain ⟨P, HP⟩ : ∃ P, Hid (P = pack B) := ⟨_, rfl⟩
  have hpl : P.length ≤ 2000 := by rw [HP.out, length_pack HBT.out]; have := HBL.out; omega
  have HPB : Hid (Byt P) := by rw [HP.out]; exact hide (unpack_pack HBT.out).2
  rw [← HP.out] at HBS
  clear h5 HWR HX2 HX3 HX4 HO3
  go_wp2_with fail
  refine HBS.out.mono ?_
  rintro e w6 ⟨aW, cW, K6, rfl, h6⟩
  have HX6 : Hid (Herd w w6 [(K5, tw g B), (K6, tl (.slice aW P.length cW) P)]) := h6
  clear h6 HBS HX5
  by_cases q1 : at' < 0
  · have q1' : decide (at' < 0) = true := decide_eq_true q1
    go_wp2
    go_ret
    exact ⟨rfl, HX6.out.bel⟩
  have q1' : decide (at' < 0) = false := decide_eq_false q1
  obtain ⟨k, rfl⟩ := Int.eq_ofNat_of_zero_le (show 0 ≤ at' by omega)
  by_cases q2 : P.length < k
  · have q2' : (P.length : Int) < (k : Int) := by omega
    go_wp2
    go_ret
    exact ⟨rfl, HX6.out.bel⟩
  have q2' : ¬ (P.length : Int) < (k : Int) := by omega
  have hk0 : 0 ≤ (k : Int) := by omega
  clear q1 q1' hn0 hn1
  go_wp2_with (at_make; refine wpList_mk rfl _ _ rfl _ _ _ _ k k rfl rfl rfl rfl (Nat.le_refl _) (by omega) ?_)
  intro w7 hg hb1
  have Hg : Hid (w7.heap[w6.heap.size]? = some (.cells (List.replicate k (Value.int .u8 0)).toArray 5 (0, 0))) := hg
  have HSW := hide (HX6.out.sb 1 rfl)
  have hcell := HSW.out
  obtain ⟨ao', cap', e1, -, -, e4, e5⟩ := hcell
  simp only [Value.slice.injEq] at e1
  obtain ⟨rfl, -, rfl⟩ := e1
  have HC4 := hide e4
  have HC5 := hide e5
  obtain ⟨cs, HS⟩ : ∃ cs, Hid (cs = (P.take k).map (Value.int .u8)) := ⟨_, rfl⟩
  have hcl : cs.length = k := by rw [HS.out, List.length_map, List.length_take]; omega
  have C1 : Hid (cs.length = Nat.min P.length k) := by show _ = _; rw [hcl]; exact (Nat.min_eq_right (by omega)).symm
  have C2 : Hid (0 < cs.length → (some (⟨w6.heap.size, 0, none⟩ : Addr)) = some ⟨w6.heap.size, 0, none⟩ ∧ ∃ ad, aW = some ad ∧ ∀ j v, cs[j]? = some v → w7.cell? (ad.add j) = some v) := by
    intro hp
    refine ⟨rfl, ?_⟩
    cases aW with
    | none =>
      have := HC4.out rfl
      have := HSW.out
      obtain ⟨_, _, e1, e2, _⟩ := this
      simp only [Value.slice.injEq] at e1
      obtain ⟨-, -, rfl⟩ := e1
      omega
    | some x =>
      refine ⟨x, rfl, fun j u hj => ?_⟩
      rw [HS.out] at hj
      obtain ⟨hjl, rfl⟩ := List.getElem?_eq_some_iff.1 hj
      have hjl' : j < P.length := by rw [List.length_map, List.length_take] at hjl; omega
      have hc := HC5.out x rfl j hjl'
      rw [hb1.cell (by have := World.block_lt_of_cell? _ _ hc; exact this), hc]
      simp [hjl']
  have C3 : Hid (0 + cs.length ≤ (List.replicate k (Value.int .u8 0)).length) := by show _ ≤ _; rw [hcl, List.length_replicate]; omega
  have C4 : Hid (∀ v ∈ cs, v.oneCell' = true) := by rw [HS.out]; intro u hu; obtain ⟨n, _, rfl⟩ := List.mem_map.1 hu; rfl
  clear hg e4 e5
  go_wp2_with (refine wpList_copy_splice rfl _ _ 43 43 rfl 5 Tryd.underlying43 sizeByte _ _ _ _ _ _ rfl rfl w6.heap.size 0 (List.replicate k (Value.int .u8 0)) 5 Hg.out cs C1.out C2.out C3.out C4.out w6.heap.size w6 hb1 (Nat.le_refl _) ?_)
  intro w8 HG2 hb2
  have hkl : (P.take k).length = k := by rw [List.length_take]; omega
  have hfin : OB w8 w6.heap.size (.slice (some ⟨w6.heap.size, 0, none⟩) (P.take k).length (P.take k).length) (P.take k) := by
    refine OB.of_full ?_ (Nat.le_refl _) (by unfold maxLen; omega)
    rw [HG2.out, splice_all _ _ (by rw [hcl, List.length_replicate]), HS.out]
  rw [hkl] at hfin
  obtain ⟨K8, h8⟩ := HX6.out.list hb2 hfin
  have HX8 : Hid (Herd w w8 [(K5, tw g B), (K6, tl (.slice aW P.length cW) P), (K8, tl (.slice (some ⟨w6.heap.size, 0, none⟩) k k) (P.take k))]) := h8
  have HNR := hide (hnewR h8 _ (P.take k) hfin.sb (byt_take HPB.out k) (by omega))
  clear h8 hfin HG2 hb2 hb1 Hg C1 C2 C3 C4 HS HC4 HC5 HSW hcl
  go_wp2_with fail
  refine HNR.out.mono ?_
  rintro e w9 ⟨gr, K9, rfl, h9⟩
  have HX9 : Hid (Herd w w9 [(K5, tw g B), (K6, tl (.slice aW P.length cW) P), (K8, tl (.slice (some ⟨w6.heap.size, 0, none⟩) k k) (P.take k)), (K9, tr gr (unpack (P.take k)) 0)]) := h9
  have HRD := hide (hread HX9.out 3 rfl HT.out HO.out)
  clear h9 HNR
  by_cases q3 : k < P.length
  · have q3' : (k : Int) < (P.length : Int) := by omega
    obtain ⟨r1, r2⟩ := cut_row (B := B) (k := k) HBT.out (by rw [← HP.out]; exact q3)
    rw [← HP.out] at r1
    obtain ⟨z1, z2, z3⟩ := rd_cut (row := B.take (8 * k)) (t := B.drop (8 * k)) HM0.out (by rw [List.take_append_drop]; exact HBT.out) (by rw [List.take_append_drop]; exact HB.out) (fun e => by have := congrArg List.length e; rw [List.length_drop] at this; simp at this; omega)
    rw [← r1] at z1 z2 z3
    rw [z1, z2, z3] at HRD
    clear r1 r2 z1 z2 z3
    go_wp2_with fail
    refine HRD.out.mono ?_
    rintro e w10 ⟨aA, cA, aB, cB, q, KA, KB, rfl, hq, h10⟩
    have HBD := hide h10.bel
    clear h10 hq
    go_wp2_with fail
    refine (lnm_any w10 70).mono ?_
    rintro e w11 ⟨rfl, hw11⟩
    rw [hw11]
    clear hw11
    go_wp2
    go_ret
    exact ⟨rfl, HBD.out⟩
  · obtain rfl : P.length = k := by omega
    have q3' : ¬ (P.length : Int) < (P.length : Int) := by omega
    have htk : P.take P.length = P := List.take_of_length_le (Nat.le_refl _)
    have hrp : rdA (unpack P) 0 = (0, mkL l, mkD d, (mkB l d).length) := by rw [HP.out]; exact rd_pad HM0.out HBT.out HB.out
    rw [htk] at HRD HX9
    rw [hrp] at HRD
    simp only at HRD
    clear htk hrp
    go_wp2_with fail
    refine HRD.out.mono ?_
    rintro e w10 ⟨aA, cA, aB, cB, q, KA, KB, rfl, hq, h10⟩
    have hqq : q = (mkB l d).length := hq trivial
    rw [← HB.out] at hqq
    subst hqq
    have HXA : Hid (Herd w w10 [(K5, tw g B), (K6, tl (.slice aW P.length cW) P), (K8, tl (.slice (some ⟨w6.heap.size, 0, none⟩) P.length P.length) P), (K9, tr gr (unpack P) B.length), (KA, ti (.slice aA (mkL l).length cA) (mkL l)), (KB, ti (.slice aB (mkD d).length cB) (mkD d))]) := h10
    have HOB : Hid (OB w10 0 (.slice (some ⟨w6.heap.size, 0, none⟩) P.length P.length) P) := (HXA.out.rep 2 _ rfl).1
    have HSR := hide (H3.out.below HXA.out.bel).src
    clear h10 hq HRD HX9 HX8 HX6
    go_wp2_with (at_builtin; refine wpList_app rfl _ _ 43 rfl 0 _ _ P t rfl HOB.out rfl HSR.out (by omega) (Nat.zero_le _) ?_)
    intro v' wc ho hgr
    obtain ⟨S, HSS⟩ : ∃ S, Hid (S = P ++ t) := ⟨_, rfl⟩
    rw [← HSS.out] at ho
    have hsl : S.length ≤ 2000000 := by rw [HSS.out, List.length_append]; omega
    have HSB : Hid (Byt S) := by rw [HSS.out]; exact hide (byt_append HPB.out HBY.out)
    obtain ⟨K11, h11⟩ := HXA.out.growB 2 rfl ho hgr
    obtain ⟨aS, cS, rfl⟩ := ho.shape
    have HXB : Hid (Herd w wc [(K5, tw g B), (K6, tl (.slice aW P.length cW) P), (K11, tl (.slice aS S.length cS) S), (K9, tr gr (unpack P) B.length), (KA, ti (.slice aA (mkL l).length cA) (mkL l)), (KB, ti (.slice aB (mkD d).length cB) (mkD d))]) := h11
    have HNR2 := hide (hnewR HXB.out _ S (HXB.out.sb 2 rfl) HSB.out (by omega))
    clear h11 ho hgr HOB HSR
    go_wp2_with fail
    refine HNR2.out.mono ?_
    rintro e w12 ⟨gs, K12, rfl, h12⟩
    have HXC : Hid (Herd w w12 [(K5, tw g B), (K6, tl (.slice aW P.length cW) P), (K11, tl (.slice aS S.length cS) S), (K9, tr gr (unpack P) B.length), (KA, ti (.slice aA (mkL l).length cA) (mkL l)), (KB, ti (.slice aB (mkD d).length cB) (mkD d)), (K12, tr gs (unpack S) 0)]) := h12
    have HRD2 := hide (hread HXC.out 6 rfl HT.out HO.out)
    have hrd : rdA (unpack S) 0 = (0, mkL l, mkD d, B.length) := by
      have := rd_back (p := 0) (row := unpack S) (rest := List.replicate ((B.length + 7) / 8 * 8 - B.length) 0 ++ unpack t) HM0.out (bit_unpack _) (by rw [List.drop_zero, HSS.out, unpack_append, HP.out, (unpack_pack HBT.out).1, ← HB.out]; unfold pad; rw [List.append_assoc])
      rw [this, Nat.zero_add, ← HB.out]
    rw [hrd] at HRD2
    simp only at HRD2
    clear h12 hrd HNR2 HXB HXA
    go_wp2_with fail
    refine HRD2.out.mono ?_
    rintro e w13 ⟨aX, cX, aY, cY, q, KX, KY, rfl, hq, h13⟩
    have hqq : q = B.length := hq trivial
    subst hqq
    have HXD : Hid (Herd w w13 [(K5, tw g B), (K6, tl (.slice aW P.length cW) P), (K11, tl (.slice aS S.length cS) S), (K9, tr gr (unpack P) B.length), (KA, ti (.slice aA (mkL l).length cA) (mkL l)), (KB, ti (.slice aB (mkD d).length cB) (mkD d)), (K12, tr gs (unpack S) B.length), (KX, ti (.slice aX (mkL l).length cX) (mkL l)), (KY, ti (.slice aY (mkD d).length cY) (mkD d))]) := h13
    have HQ1 := hide (isame_any _ _ (mkL l) (mkL l) w13 (HXD.out.isi 4 rfl) (HXD.out.isi 7 rfl))
    rw [show eqI (mkL l) (mkL l) = true by simp [eqI]] at HQ1
    clear h13 hq HRD2 HXC
    go_wp2_with fail
    refine HQ1.out.mono ?_
    rintro e w14 ⟨rfl, n14, hw14⟩
    have HXE := hide (HXD.out.drewN n14)
    rw [← hw14] at HXE
    have HQ2 := hide (isame_any _ _ (mkD d) (mkD d) w14 (HXE.out.isi 5 rfl) (HXE.out.isi 8 rfl))
    rw [show eqI (mkD d) (mkD d) = true by simp [eqI]] at HQ2
    clear hw14 HXD
    go_wp2_with fail
    refine HQ2.out.mono ?_
    rintro e w15 ⟨rfl, n15, hw15⟩
    have HXF := hide (HXE.out.drewN n15)
    rw [← hw15] at HXF
    have HA1 := hide (hat HXF.out 3 rfl)
    clear hw15 HXE
    go_wp2_with fail
    refine HA1.out.mono ?_
    rintro e w16 ⟨rfl, h16⟩
    have HXG := hide h16
    have HA2 := hide (hat HXG.out 6 rfl)
    clear h16 HXF
    go_wp2_with fail
    refine HA2.out.mono ?_
    rintro e w17 ⟨rfl, h17⟩
    have HXH := hide h17
    have HA3 := hide (hat HXH.out 3 rfl)
    clear h17 HXG
    go_wp2_with fail
    refine HA3.out.mono ?_
    rintro e w18 ⟨rfl, h18⟩
    have HXI := hide h18
    have HA4 := hide (hlen HXI.out 0 rfl)
    clear h18 HXH
    go_wp2_with fail
    refine HA4.out.mono ?_
    rintro e w19 ⟨rfl, h19⟩
    have HBD := hide h19.bel
    clear h19
    go_wp2
    go_ret
    exact ⟨rfl, HBD.out⟩
end Go.Proofs.YtiabhmdefaabgabDoor

