import Derived.Test.YteiajeeincapoaaCalls2
import Derived.Test.YteiajeeincapoaaShrinks
namespace Go.Proofs.Yteiajeeincapoaa
open Go.RowKit Go.Maps

def oneSt (l : List Int) (c off : Nat) (data : List Int) : St := { cap := c, now := paintL l (off, 0, data), dur := l, pcs := fun s => if s = off / 512 then [(off, 0, data)] else [], sizes := [], calls := 1, dead := false, fused := false, left := 0, ents := rnds off (off + data.length) }

theorem write_one (l data : List Int) (c off : Nat) (h2 : l.length ≤ c) (hd : 0 < data.length) (hf : off + data.length ≤ l.length) (hone : (off + data.length - 1) / 512 = off / 512) :
    writeErr (stNew l c) off data.length = 0 ∧ writeSt (stNew l c) off data = oneSt l c off data := by
  have hdd : (stNew l c).dead = false := rfl
  have hs : spendNo (stNew l c) = false := rfl
  constructor
  · unfold writeErr
    rw [hdd, hs, if_neg (by simp), if_neg (by omega), if_neg (by show ¬ ((c : Nat) : Int) < _; omega), if_neg (by simp)]
  · unfold writeSt
    rw [hdd, hs, if_neg (by simp), if_neg (by omega), if_neg (by show ¬ ((c : Nat) : Int) < _; omega), if_neg (by simp), if_neg (by omega)]
    have hp : putP (stNew l c) (off : Int).toNat data = (off, 0, data) := by
      show (min off l.length, off - min off l.length, data) = _
      rw [show min off l.length = off by omega, Nat.sub_self]
    rw [hp]
    have he : endP (off, 0, data) = off + data.length := by simp [endP]
    have hg : growSt (spendSt (stNew l c)) (endP (off, 0, data)) = spendSt (stNew l c) := by
      unfold growSt
      rw [if_neg (by rw [he]; show ¬ l.length < _; omega)]
    have hpc : pcsTo (fun _ => []) (off, 0, data) (off + data.length) = fun s => if s = off / 512 then [(off, 0, data)] else [] := by
      funext s
      unfold pcsTo
      rw [he]
      by_cases e : s = off / 512
      · rw [if_pos (by simp only []; omega), if_pos e]
        have e1 : max off (s * 512) = off := by omega
        have e2 : min (off + data.length) ((s + 1) * 512) = off + data.length := by omega
        simp only [e1, e2, List.nil_append]
        unfold partP
        simp only [Nat.add_zero, Nat.max_self, Nat.sub_self, List.drop_zero]
        rw [if_neg (by omega), Nat.add_sub_cancel_left, List.take_length]
      · rw [if_neg (by simp only []; omega), if_neg e]
    unfold layAll laySt putSt
    rw [hg, he]
    show ({ cap := c, now := paintL l (off, 0, data), dur := l, pcs := pcsTo (fun _ => []) (off, 0, data) (off + data.length), sizes := [], calls := 1, dead := false, fused := false, left := 0, ents := 0 + rnds off (off + data.length) } : St) = _
    rw [hpc, Nat.zero_add]
    rfl

theorem outTo_one (l data sec : List Int) (c off : Nat) (rest : Int) : ∀ k, outTo (oneSt l c off data) sec rest l.length k = if off / 512 < k ∧ 0 < wantedN sec rest (off / 512) then paintL l (off, 0, data) else l
  | 0 => by
    rw [if_neg (by omega)]
    show resz l l.length = l
    unfold resz
    rw [if_pos (Nat.le_refl _), List.take_length]
  | k + 1 => by
    unfold outTo
    rw [outTo_one l data sec c off rest k]
    show List.foldl paintL _ (List.take (keptN (wantedN sec rest k) (if k = off / 512 then [(off, 0, data)] else []).length) (if k = off / 512 then [(off, 0, data)] else [])) = _
    by_cases e : k = off / 512
    · rw [if_pos e]
      subst e
      rw [if_neg (by omega)]
      unfold keptN
      by_cases h : 0 < wantedN sec rest (off / 512)
      · rw [if_pos ⟨by omega, h⟩]
        simp only [List.length_singleton]
        rw [show min (wantedN sec rest (off / 512)).toNat 1 = 1 by omega]
        rfl
      · rw [if_neg (by omega)]
        simp only [List.length_singleton]
        rw [show min (wantedN sec rest (off / 512)).toNat 1 = 0 by omega]
        rfl
    · rw [if_neg e, List.take_nil, List.foldl_nil]
      by_cases h : off / 512 < k ∧ 0 < wantedN sec rest (off / 512)
      · rw [if_pos h, if_pos ⟨by omega, h.2⟩]
      · rw [if_neg h, if_neg (by omega)]

theorem out_one (l data sec : List Int) (c off : Nat) (a rest : Int) (hd : 0 < data.length) (hf : off + data.length ≤ l.length) :
    outcomeL (oneSt l c off data) (a, sec, rest) = if 0 < wantedN sec rest (off / 512) then splice l off data else l := by
  have hb : behind (oneSt l c off data) a = l.length := by
    unfold behind keptN
    show (if 0 < min a.toNat 0 then _ else l.length) = _
    rw [if_neg (by omega)]
  unfold outcomeL
  simp only []
  rw [hb, outTo_one]
  have hp : paintL l (off, 0, data) = splice l off data := by
    unfold paintL
    rw [if_neg (by simp only []; omega)]
    simp only [List.replicate_zero, List.nil_append]
    rw [List.take_of_length_le (by omega)]
  rw [hp]
  by_cases h : 0 < wantedN sec rest (off / 512)
  · rw [if_pos ⟨by omega, h⟩, if_pos h]
  · rw [if_neg (by omega), if_neg h]

set_option maxHeartbeats 4000000 in
theorem one_walk (v vsec vdata : Value) (l sec data : List Int) (c off cs rest : Int) (w : World) (hs : SB w v l) (hsec : SI w vsec sec) (hdat : SB w vdata data) (hr : sec.length ≤ 17592186043904) (hoff : off ≤ 9223372036854775807) (hoff2 : -9223372036854775808 ≤ off) :
    Calls Try.prog 5 #[v, .int .i64 c, .int .i64 off, vdata, .agg #[.int .i64 cs, vsec, .int .i64 rest]] w fun e w' => e = .returned (.bool true) ∧ Below w.heap.size w w' := by
  have HS := hide hs
  have HSEC := hide hsec
  have HDAT := hide hdat
  obtain ⟨ao, k, hv, hk1, hk2, _⟩ := hs
  unfold maxLen at hk2
  subst hv
  obtain ⟨asx, ks, hv, hks1, hks2, _, _⟩ := hsec
  unfold maxLen at hks2
  subst hv
  obtain ⟨av, kv, hv, hkv1, hkv2, _⟩ := hdat
  unfold maxLen at hkv2
  subst hv
  obtain ⟨W0, hW0⟩ : ∃ W0, W0 = w.alloc (.cells #[.int .i64 cs, .slice asx sec.length ks, .int .i64 rest] 34) := ⟨_, rfl⟩
  have hb0 : Below w.heap.size w W0 := by rw [hW0]; exact (Below.refl _ _).alloc (Nat.le_refl _) _
  have hs0 : W0.heap.size = w.heap.size + 1 := by rw [hW0]; exact size_alloc' _ _
  have hbx0 : W0.heap[w.heap.size]? = some (.cells #[.int .i64 cs, .slice asx sec.length ks, .int .i64 rest] 34 (0, 0)) := by rw [hW0]; exact heap_alloc_new _ _
  have HW0 := hide hW0
  have HS0 := hide hs0
  have HB0 := hide hb0
  have HBX := hide hbx0
  clear hW0 hs0 hb0 hbx0
  by_cases hfit : 0 ≤ c ∧ c ≤ 16777216 ∧ (l.length : Int) ≤ c
  case neg =>
    go_enter Try.func5, Try.ntmps5
    go_wp2_with fail
    rw [← HW0.out]
    refine (fits_no ao l.length k c _ hfit (by omega)).mono ?_
    rintro e W0 ⟨rfl, rfl⟩
    clear hfit
    go_wp2
    go_ret
    exact ⟨rfl, HB0.out⟩
  case pos =>
    obtain ⟨hf0, hf1, hf2⟩ := hfit
    obtain ⟨cn, rfl⟩ := Int.eq_ofNat_of_zero_le hf0
    have HFY := hide (fun W => fits_yes ao l.length k cn W (by omega) hf1 hf2 (by omega))
    by_cases hgood : 0 ≤ off ∧ 0 < data.length ∧ off + data.length ≤ l.length
    case neg =>
      by_cases h1 : off < 0
      · go_enter Try.func5, Try.ntmps5
        go_wp2_with fail
        rw [← HW0.out]
        refine (HFY.out _).mono ?_
        rintro e W0 ⟨rfl, rfl⟩
        clear hgood
        go_wp2
        go_ret
        exact ⟨rfl, HB0.out⟩
      · by_cases h2 : data.length = 0
        · have h2' : ((data.length : Int) == 0) = true := beq_iff_eq.2 (by omega)
          clear hgood h2
          go_enter Try.func5, Try.ntmps5
          go_wp2_with fail
          rw [← HW0.out]
          refine (HFY.out _).mono ?_
          rintro e W0 ⟨rfl, rfl⟩
          go_wp2
          go_ret
          exact ⟨rfl, HB0.out⟩
        · have h2' : ((data.length : Int) == 0) = false := beq_eq_false_iff_ne.2 (by omega)
          by_cases h3 : (l.length : Int) < off
          · clear hgood h2
            go_enter Try.func5, Try.ntmps5
            go_wp2_with fail
            rw [← HW0.out]
            refine (HFY.out _).mono ?_
            rintro e W0 ⟨rfl, rfl⟩
            go_wp2
            go_ret
            exact ⟨rfl, HB0.out⟩
          · have h4 : (l.length : Int) - off < data.length := by omega
            clear hgood h2
            go_enter Try.func5, Try.ntmps5
            go_wp2_with fail
            rw [← HW0.out]
            refine (HFY.out _).mono ?_
            rintro e W0 ⟨rfl, rfl⟩
            go_wp2
            go_ret
            exact ⟨rfl, HB0.out⟩
    case pos =>
      obtain ⟨hg0, hg1, hg2⟩ := hgood
      obtain ⟨o, rfl⟩ := Int.eq_ofNat_of_zero_le hg0
      have h1 : ¬ (o : Int) < 0 := by omega
      have h2' : ((data.length : Int) == 0) = false := beq_eq_false_iff_ne.2 (by omega)
      have h3 : ¬ (l.length : Int) < (o : Int) := by omega
      have h4 : ¬ (l.length : Int) - (o : Int) < data.length := by omega
      by_cases hone : (o + data.length - 1) / 512 = o / 512
      case neg =>
        have h5 : (((o : Int) + (data.length : Int) - 1) / 512 == (o : Int) / 512) = false := beq_eq_false_iff_ne.2 (by omega)
        have h6 : (((o : Int) + (data.length : Int) - 1) / 512 != (o : Int) / 512) = true := by rw [bne_iff_ne]; omega
        clear hone
        go_enter Try.func5, Try.ntmps5
        go_wp2_with fail
        rw [← HW0.out]
        refine (HFY.out _).mono ?_
        rintro e W0 ⟨rfl, rfl⟩
        go_wp2
        go_ret
        exact ⟨rfl, HB0.out⟩
      case pos =>
        have h6 : (((o : Int) + (data.length : Int) - 1) / 512 != (o : Int) / 512) = false := by rw [bne_eq_false_iff_eq]; omega
        have HWO := hide (write_one l data cn o (by omega) hg1 (by omega) hone)
        have HOO := hide (out_one l data sec cn o cs rest hg1 (by omega))
        clear hone
        obtain ⟨sc, hsc⟩ : ∃ sc, o / 512 = sc := ⟨_, rfl⟩
        rw [hsc] at HOO
        have HSCI : Hid ((o : Int) / 512 = (sc : Int)) := by show _ = _; omega
        have hsc2 : sc ≤ 40000 := by omega
        clear hsc
        go_enter Try.func5, Try.ntmps5
        go_wp2_with fail
        rw [← HW0.out]
        refine (HFY.out _).mono ?_
        rintro e W0 ⟨rfl, rfl⟩
        go_wp2_with fail
        rw [HSCI.out]
        clear h6 h1 h2' h3 h4
        refine (fresh_any _ l cn _ (HS.out.below HB0.out) (by omega) (by omega)).mono ?_
        rintro e w1 ⟨g, K, rfl, hR1, hU1, hb1⟩
        have HR1 := hide hR1
        have HU1 := hide hU1
        have HB1 := hide hb1
        have HBw1 := hide (HB0.out.trans (hb1.mono HB0.out.size))
        clear hR1 hU1 hb1
        go_wp2_with fail
        refine (clone_any _ data _ (HDAT.out.below HBw1.out) (by omega)).mono ?_
        rintro e w1b ⟨_, rfl, rfl, hob1, hb1b⟩
        have HOB1 := hide hob1
        have HB1b := hide hb1b
        have HR1b := hide (HR1.out.below hb1b)
        have HK1b : Hid (Role K (.slice (some ⟨w1.heap.size, 0, none⟩) data.length data.length) 0) := fun q hq => by
          simp only [Value.ownBlock, Option.some.injEq] at hq
          obtain ⟨_, _, _, _, _, hv⟩ := HR1.out
          by_cases hk : K q = 0
          · exact hk
          · have := hv.sup q hk; omega
        clear hob1 hb1b
        go_wp2_with fail
        refine (write_any (data := data) o HR1b.out (pinv_new l cn (by omega) (by omega)) (small_new l cn) HOB1.out.sb HK1b.out).mono ?_
        rintro e w2 ⟨rfl, K2, hR2, hF2⟩
        rw [HWO.out.1]
        rw [HWO.out.2] at hR2
        have HR2 := hide hR2
        have s1 := HB1.out.size
        have s1b := HB1b.out.size
        have HB2 : Hid (Below W0.heap.size W0 w2) := HB1.out.trans ((HB1b.out.mono s1).trans (hF2.below HU1.out (by omega)))
        have HU2 := hide (hF2.up HU1.out (by omega))
        have HBw2 : Hid (Below w.heap.size w w2) := HB0.out.trans (HB2.out.mono HB0.out.size)
        have hbx2 : w2.heap[w.heap.size]? = some (.cells #[.int .i64 cs, .slice asx sec.length ks, .int .i64 rest] 34 (0, 0)) := (HB2.out.block w.heap.size (by rw [HS0.out]; omega)).trans HBX.out
        have x0 : w2.cell? ⟨w.heap.size, 0, none⟩ = some (.int .i64 cs) := by simp [World.cell?, hbx2]
        have x1 : w2.cell? ⟨w.heap.size, 1, none⟩ = some (.slice asx sec.length ks) := by simp [World.cell?, hbx2]
        have x2 : w2.cell? ⟨w.heap.size, 2, none⟩ = some (.int .i64 rest) := by simp [World.cell?, hbx2]
        clear hR2 hF2 hbx2
        go_wp2_with fail
        refine (choice_any cs rest _ sec _ (HSEC.out.below HBw2.out) hr).mono ?_
        rintro e w3 ⟨b, rfl, hsi, hbb, hb3⟩
        have HSI := hide hsi
        have HB3 := hide hb3
        have HR3 := hide (HR2.out.below hb3)
        have HK3 : Hid (Role K2 (.slice (some ⟨b, 0, none⟩) sec.length sec.length) 0) := fun q hq => by
          simp only [Value.ownBlock, Option.some.injEq] at hq
          obtain ⟨_, _, _, _, _, hv⟩ := HR2.out
          by_cases hk : K2 q = 0
          · exact hk
          · have := hv.sup q hk; omega
        have y1 := keep1 hb3 x1
        have y2 := keep1 hb3 x2
        clear hsi hb3 x0 x1 x2 hbb
        go_wp2_with fail
        refine (crash_any (st := oneSt l cn o data) cs rest HR3.out ?p1 ?p2 HSI.out HK3.out).mono ?_
        case p1 =>
          refine ⟨by show cn ≤ _; omega, by show (paintL l _).length ≤ cn; rw [length_paintL]; omega, by show l.length ≤ cn; omega, fun q hq => by simp [oneSt] at hq, fun s p hp => ?_⟩
          have hp2 : p ∈ (if s = o / 512 then [(o, 0, data)] else []) := hp
          by_cases e : s = o / 512
          · rw [if_pos e, List.mem_singleton] at hp2
            subst hp2
            simp only []
            omega
          · rw [if_neg e] at hp2; cases hp2
        case p2 => show 0 ≤ _; omega
        rintro e w4 ⟨g4, K4, rfl, _, hR4, hU4, hF4⟩
        rw [HOO.out] at hR4
        have HR4 := hide hR4
        have s2 := HB2.out.size
        have s3 := HB3.out.size
        have h4b := hF4.below HU2.out (show W0.heap.size ≤ w3.heap.size by omega)
        have HBw4 : Hid (Below w.heap.size w w4) := HBw2.out.trans ((HB3.out.mono HBw2.out.size).trans (h4b.mono HB0.out.size))
        have z1 : w4.cell? ⟨w.heap.size, 1, none⟩ = some (.slice asx sec.length ks) := by
          rw [h4b.cell (by show w.heap.size < _; rw [HS0.out]; omega)]; exact y1
        obtain ⟨rs, z2, HRS⟩ : ∃ rs, w4.cell? ⟨w.heap.size, 2, none⟩ = some (.int .i64 rs) ∧ Hid (rs = rest) := ⟨rest, by rw [h4b.cell (by show w.heap.size < _; rw [HS0.out]; omega)]; exact y2, rfl⟩
        clear hR4 hF4 y1 y2 hU4 h4b
        obtain ⟨vn, vd, m, vs, D, hV⟩ := HR4.out
        have HV := hide hV
        clear hV
        obtain ⟨wn, hwn⟩ : ∃ wn : Int, Hid (wn = wantedN sec rest sc) := ⟨_, rfl⟩
        have hbw := HBw4.out.size
        by_cases hks : sc < sec.length
        · cases asx with
          | none =>
            obtain ⟨ao', k', e1, e2, e3, e4, _⟩ := HSEC.out
            simp only [Value.slice.injEq] at e1
            have := e4 e1.1.symm
            omega
          | some xs =>
          have hxs : ∃ bs os, xs = ⟨bs, os, none⟩ ∧ ∀ i, i < sec.length → w.cell? ⟨bs, os + i, none⟩ = some (.int .i64 (sec.getD i 0)) := by
            obtain ⟨ao', k', e1, e2, e3, e4, e5⟩ := HSEC.out
            simp only [Value.slice.injEq] at e1
            obtain ⟨bs, os, rfl⟩ := addr_lit (e5 xs e1.1.symm 0 (by omega))
            exact ⟨bs, os, rfl, fun i hi => by have := e5 _ e1.1.symm i hi; rwa [Addr.add_lit] at this⟩
          obtain ⟨bs, os, rfl, hcell⟩ := hxs
          have u1 : w4.cell? ⟨bs, os + sc, none⟩ = some (.int .i64 wn) := by
            have h := hcell sc hks
            rw [HBw4.out.cell (World.block_lt_of_cell? _ _ h), h, hwn.out]
            unfold wantedN
            rw [if_pos hks]
          have hks' : (sc : Int) < (sec.length : Int) := by omega
          have hs0' : (0 : Int) ≤ (sc : Int) := by omega
          clear hcell hks
          go_wp2_with fail
          refine (clone_any _ l _ (HS.out.below HBw4.out) (by omega)).mono ?_
          rintro e w5 ⟨_, rfl, rfl, hob5, hb5⟩
          have HOB5 := hide hob5
          have HB5 := hide hb5
          have HBw5 := hide (HBw4.out.trans (hb5.mono HBw4.out.size))
          have HF5 : Hid (w5.heap[w4.heap.size]? = some (.cells (l.map (Value.int .u8)).toArray 5 (0, 0))) := (ownsRow_full (xs := l.map (Value.int .u8)) (n := l.length) hob5).1
          have HD5 := hide (HDAT.out.below HBw5.out)
          clear hob5 hb5 z1 z2
          by_cases hwp : 0 < wn
          · have hpos : 0 < wantedN sec rest sc := by rw [← hwn.out]; exact hwp
            rw [if_pos hpos] at HV
            have hoc : (o : Int) ≤ (l.length : Int) := by omega
            have ho0 : (0 : Int) ≤ (o : Int) := by omega
            have hne : ¬ l.length = o := by omega
            obtain ⟨csd, hcsd⟩ : ∃ csd, csd = data.map (Value.int .u8) := ⟨_, rfl⟩
            have HCS := hide hcsd
            clear hcsd
            have C1 : Hid (csd.length = Nat.min data.length (l.length - o)) := by show _ = _; rw [HCS.out, List.length_map]; show _ = min _ _; omega
            have C2 : Hid (0 < csd.length → (some (⟨w4.heap.size, o, none⟩ : Addr)) = some ⟨w4.heap.size, o, none⟩ ∧ ∃ ad, av = some ad ∧ ∀ j v, csd[j]? = some v → w5.cell? (ad.add j) = some v) := by
              intro _
              refine ⟨rfl, ?_⟩
              obtain ⟨a9, k9, e1, e2, e3, e4, e5⟩ := HD5.out
              simp only [Value.slice.injEq] at e1
              cases av with
              | none => have := e4 e1.1.symm; omega
              | some y =>
                refine ⟨y, rfl, fun j u hj => ?_⟩
                rw [HCS.out] at hj
                obtain ⟨hjl, rfl⟩ := List.getElem?_eq_some_iff.1 hj
                have hjl' : j < data.length := by simpa using hjl
                rw [e5 y e1.1.symm j hjl']
                simp [hjl']
            have C3 : Hid (o + csd.length ≤ (l.map (Value.int .u8)).length) := by show _ ≤ _; rw [HCS.out]; simp; omega
            have C4 : Hid (∀ v ∈ csd, v.oneCell' = true) := by rw [HCS.out]; intro u hu; obtain ⟨n, _, rfl⟩ := List.mem_map.1 hu; rfl
            obtain ⟨w6, hcp, hF6, hgr6⟩ := run_copy_gr (P := Try.prog) w5 22 22 3 5 Try.underlying22 sizeByte (some ⟨w4.heap.size, o, none⟩) av (l.length - o) (l.length - o) data.length kv w4.heap.size o (l.map (Value.int .u8)) 5 HF5.out csd C1.out C2.out C3.out C4.out
            have HF6 := hide hF6
            clear hF6
            have hls : (splice l o data).length = l.length := length_splice _ _ _ (by omega)
            have hob6 : OB w6 0 (.slice (some ⟨w4.heap.size, 0, none⟩) l.length l.length) (splice l o data) := by
              have h := HF6.out
              rw [HCS.out, ← map_splice] at h
              have h2 := OB.of_full (base := 0) h (Nat.zero_le _) (by rw [hls]; unfold maxLen; omega)
              rw [hls] at h2
              exact h2
            have HOB6 := hide hob6
            have s5 := HB5.out.size
            have HBw6 : Hid (Below w.heap.size w w6) := HBw5.out.trans ⟨hgr6.os, hgr6.tape, hgr6.output, hgr6.size, fun q hq => hgr6.block q (by omega) (by simp; omega)⟩
            have HV6 : Hid (DC w6 g4 (stNew (splice l o data) cn).cap vn vd m vs (stNew (splice l o data) cn).calls (stNew (splice l o data) cn).dead (stNew (splice l o data) cn).fused (stNew (splice l o data) cn).left ∧ SB w6 vn (splice l o data)) := by
              have hk : ∀ q, q < w4.heap.size → w6.heap[q]? = w4.heap[q]? := fun q hq => (hgr6.block q (by omega) (by simp; omega)).trans (HB5.out.block q hq)
              exact ⟨(hk g4 HV.out.dc.lt).trans HV.out.dc, HV.out.hn.sb.same fun q hq => hk q (HV.out.sup q (by rw [HV.out.kn q hq]; omega))⟩
            clear hob6 hgr6 C1 C2 C3 C4 hls
            go_wp2_with fail
            refine (image_any HV6.out.1 HV6.out.2 (by rw [length_splice _ _ _ (by omega)]; omega)).mono ?_
            rintro e w7 ⟨a7, c7, rfl, hob7, hb7⟩
            have HOB7 := hide hob7
            have HB7 := hide hb7
            have HBw7 := hide (HBw6.out.trans (hb7.mono HBw6.out.size))
            clear hob7 hb7
            go_wp2_with fail
            refine (same_any _ _ (splice l o data) (splice l o data) _ HOB7.out.sb (HOB6.out.sb.below HB7.out)).mono ?_
            rintro e w8 ⟨rfl, n8, rfl⟩
            rw [eqB_self]
            go_wp2
            go_ret
            exact ⟨rfl, below_drewN HBw7.out _⟩
          · have hpos : ¬ 0 < wantedN sec rest sc := by rw [← hwn.out]; exact hwp
            rw [if_neg hpos] at HV
            clear hpos
            go_wp2_with fail
            refine (image_any (HV.out.dc.below HB5.out (Nat.le_refl _)) (HV.out.hn.sb.below HB5.out) (by show l.length ≤ _; omega)).mono ?_
            rintro e w7 ⟨a7, c7, rfl, hob7, hb7⟩
            have HOB7 := hide hob7
            have HB7 := hide hb7
            have HBw7 := hide (HBw5.out.trans (hb7.mono HBw5.out.size))
            clear hob7 hb7
            go_wp2_with fail
            refine (same_any _ _ l l _ HOB7.out.sb (HOB5.out.sb.below HB7.out)).mono ?_
            rintro e w8 ⟨rfl, n8, rfl⟩
            rw [eqB_self]
            go_wp2
            go_ret
            exact ⟨rfl, below_drewN HBw7.out _⟩
        · have hks' : ¬ (sc : Int) < (sec.length : Int) := by omega
          have e : rs = wn := by rw [HRS.out, hwn.out]; unfold wantedN; rw [if_neg hks]
          rw [e] at z2
          clear e hks
          go_wp2_with fail
          refine (clone_any _ l _ (HS.out.below HBw4.out) (by omega)).mono ?_
          rintro e w5 ⟨_, rfl, rfl, hob5, hb5⟩
          have HOB5 := hide hob5
          have HB5 := hide hb5
          have HBw5 := hide (HBw4.out.trans (hb5.mono HBw4.out.size))
          have HF5 : Hid (w5.heap[w4.heap.size]? = some (.cells (l.map (Value.int .u8)).toArray 5 (0, 0))) := (ownsRow_full (xs := l.map (Value.int .u8)) (n := l.length) hob5).1
          have HD5 := hide (HDAT.out.below HBw5.out)
          clear hob5 hb5 z1 z2
          by_cases hwp : 0 < wn
          · have hpos : 0 < wantedN sec rest sc := by rw [← hwn.out]; exact hwp
            rw [if_pos hpos] at HV
            have hoc : (o : Int) ≤ (l.length : Int) := by omega
            have ho0 : (0 : Int) ≤ (o : Int) := by omega
            have hne : ¬ l.length = o := by omega
            obtain ⟨csd, hcsd⟩ : ∃ csd, csd = data.map (Value.int .u8) := ⟨_, rfl⟩
            have HCS := hide hcsd
            clear hcsd
            have C1 : Hid (csd.length = Nat.min data.length (l.length - o)) := by show _ = _; rw [HCS.out, List.length_map]; show _ = min _ _; omega
            have C2 : Hid (0 < csd.length → (some (⟨w4.heap.size, o, none⟩ : Addr)) = some ⟨w4.heap.size, o, none⟩ ∧ ∃ ad, av = some ad ∧ ∀ j v, csd[j]? = some v → w5.cell? (ad.add j) = some v) := by
              intro _
              refine ⟨rfl, ?_⟩
              obtain ⟨a9, k9, e1, e2, e3, e4, e5⟩ := HD5.out
              simp only [Value.slice.injEq] at e1
              cases av with
              | none => have := e4 e1.1.symm; omega
              | some y =>
                refine ⟨y, rfl, fun j u hj => ?_⟩
                rw [HCS.out] at hj
                obtain ⟨hjl, rfl⟩ := List.getElem?_eq_some_iff.1 hj
                have hjl' : j < data.length := by simpa using hjl
                rw [e5 y e1.1.symm j hjl']
                simp [hjl']
            have C3 : Hid (o + csd.length ≤ (l.map (Value.int .u8)).length) := by show _ ≤ _; rw [HCS.out]; simp; omega
            have C4 : Hid (∀ v ∈ csd, v.oneCell' = true) := by rw [HCS.out]; intro u hu; obtain ⟨n, _, rfl⟩ := List.mem_map.1 hu; rfl
            obtain ⟨w6, hcp, hF6, hgr6⟩ := run_copy_gr (P := Try.prog) w5 22 22 3 5 Try.underlying22 sizeByte (some ⟨w4.heap.size, o, none⟩) av (l.length - o) (l.length - o) data.length kv w4.heap.size o (l.map (Value.int .u8)) 5 HF5.out csd C1.out C2.out C3.out C4.out
            have HF6 := hide hF6
            clear hF6
            have hls : (splice l o data).length = l.length := length_splice _ _ _ (by omega)
            have hob6 : OB w6 0 (.slice (some ⟨w4.heap.size, 0, none⟩) l.length l.length) (splice l o data) := by
              have h := HF6.out
              rw [HCS.out, ← map_splice] at h
              have h2 := OB.of_full (base := 0) h (Nat.zero_le _) (by rw [hls]; unfold maxLen; omega)
              rw [hls] at h2
              exact h2
            have HOB6 := hide hob6
            have s5 := HB5.out.size
            have HBw6 : Hid (Below w.heap.size w w6) := HBw5.out.trans ⟨hgr6.os, hgr6.tape, hgr6.output, hgr6.size, fun q hq => hgr6.block q (by omega) (by simp; omega)⟩
            have HV6 : Hid (DC w6 g4 (stNew (splice l o data) cn).cap vn vd m vs (stNew (splice l o data) cn).calls (stNew (splice l o data) cn).dead (stNew (splice l o data) cn).fused (stNew (splice l o data) cn).left ∧ SB w6 vn (splice l o data)) := by
              have hk : ∀ q, q < w4.heap.size → w6.heap[q]? = w4.heap[q]? := fun q hq => (hgr6.block q (by omega) (by simp; omega)).trans (HB5.out.block q hq)
              exact ⟨(hk g4 HV.out.dc.lt).trans HV.out.dc, HV.out.hn.sb.same fun q hq => hk q (HV.out.sup q (by rw [HV.out.kn q hq]; omega))⟩
            clear hob6 hgr6 C1 C2 C3 C4 hls
            go_wp2_with fail
            refine (image_any HV6.out.1 HV6.out.2 (by rw [length_splice _ _ _ (by omega)]; omega)).mono ?_
            rintro e w7 ⟨a7, c7, rfl, hob7, hb7⟩
            have HOB7 := hide hob7
            have HB7 := hide hb7
            have HBw7 := hide (HBw6.out.trans (hb7.mono HBw6.out.size))
            clear hob7 hb7
            go_wp2_with fail
            refine (same_any _ _ (splice l o data) (splice l o data) _ HOB7.out.sb (HOB6.out.sb.below HB7.out)).mono ?_
            rintro e w8 ⟨rfl, n8, rfl⟩
            rw [eqB_self]
            go_wp2
            go_ret
            exact ⟨rfl, below_drewN HBw7.out _⟩
          · have hpos : ¬ 0 < wantedN sec rest sc := by rw [← hwn.out]; exact hwp
            rw [if_neg hpos] at HV
            clear hpos
            go_wp2_with fail
            refine (image_any (HV.out.dc.below HB5.out (Nat.le_refl _)) (HV.out.hn.sb.below HB5.out) (by show l.length ≤ _; omega)).mono ?_
            rintro e w7 ⟨a7, c7, rfl, hob7, hb7⟩
            have HOB7 := hide hob7
            have HB7 := hide hb7
            have HBw7 := hide (HBw5.out.trans (hb7.mono HBw5.out.size))
            clear hob7 hb7
            go_wp2_with fail
            refine (same_any _ _ l l _ HOB7.out.sb (HOB5.out.sb.below HB7.out)).mono ?_
            rintro e w8 ⟨rfl, n8, rfl⟩
            rw [eqB_self]
            go_wp2
            go_ret
            exact ⟨rfl, below_drewN HBw7.out _⟩
end Go.Proofs.Yteiajeeincapoaa
