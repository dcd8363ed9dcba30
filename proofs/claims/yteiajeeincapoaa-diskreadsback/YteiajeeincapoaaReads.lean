import Derived.Test.YteiajeeincapoaaRead
namespace Go.Proofs.Yteiajeeincapoaa
open Go.RowKit Go.Maps

def op2 (off : Int) (data : List Int) : OpP := ⟨2, off, 0, data, 0, [], 0⟩

theorem opSt2 (st : St) (off : Int) (data : List Int) : opSt st (op2 off data) = writeSt st off data := by simp [opSt, op2]

theorem opErr2 (st : St) (off : Int) (data : List Int) : opErr st (op2 off data) = writeErr st off data.length := by simp [opErr, op2]

def wantAt (l : List Int) (k : Nat) (data : List Int) (i : Nat) : Int := if k ≤ i ∧ i < k + data.length then data.getD (i - k) 0 else l.getD i 0

theorem getD_over (l : List Int) (i : Nat) (h : l.length ≤ i) : l.getD i 0 = 0 := by
  simp [List.getD, List.getElem?_eq_none h]

theorem write_now (l : List Int) (c k : Nat) (data : List Int) (h : k + data.length ≤ c) (h0 : data.length ≠ 0) : (writeSt (stNew l c) k data).now.length = max l.length (k + data.length) ∧ ∀ i, i < max l.length (k + data.length) → (writeSt (stNew l c) k data).now.getD i 0 = wantAt l k data i := by
  have e : writeSt (stNew l c) k data = layAll (spendSt (stNew l c)) (putP (stNew l c) k data) := by
    unfold writeSt
    rw [if_neg (show ¬ (stNew l c).dead = true by simp [stNew]), if_neg (by omega), if_neg (by show ¬ ((c : Nat) : Int) < k + data.length; omega), if_neg (show ¬ spendNo (stNew l c) = true by simp [spendNo, stNew]), if_neg h0]
    rfl
  have hn : (spendSt (stNew l c)).now = l := (spend_same (stNew l c)).2.1
  have hp : putP (stNew l c) k data = (min k l.length, k - min k l.length, data) := rfl
  have he : endP (putP (stNew l c) k data) = k + data.length := by rw [hp]; unfold endP; simp only []; omega
  rw [e, layAll_len, he, hn]
  refine ⟨rfl, fun i hi => ?_⟩
  rw [layAll_at _ _ _ (by rw [he, hn]; exact hi), hn, hp]
  unfold wantAt
  by_cases hc : Cov (min k l.length, k - min k l.length, data) i
  · rw [if_pos hc]
    unfold Cov endP at hc
    simp only [] at hc
    unfold byteAt
    simp only []
    by_cases hk : k ≤ i
    · rw [if_pos ⟨hk, by omega⟩]
      simp only [List.getD]
      rw [List.getElem?_append_right (by simp; omega)]
      congr 2
      simp
      omega
    · rw [if_neg (by omega), getD_over l i (by omega)]
      simp only [List.getD]
      rw [List.getElem?_append_left (by simp; omega), List.getElem?_replicate, if_pos (by omega)]
      rfl
  · rw [if_neg hc]
    unfold Cov endP at hc
    simp only [] at hc
    rw [if_neg (by omega)]

theorem read_back (l : List Int) (c k : Nat) (data : List Int) (h : k + data.length ≤ c) (h0 : data.length ≠ 0) : ((writeSt (stNew l c) k data).now.drop k).take data.length = data := by
  obtain ⟨hl, ha⟩ := write_now l c k data h h0
  refine list_ext (by simp; omega) fun i hi => ?_
  simp at hi
  have := ha (k + i) (by omega)
  unfold wantAt at this
  rw [if_pos (by omega), show k + i - k = i by omega] at this
  rw [← this]
  have hi2 : i < data.length := by omega
  simp [List.getD, hi2]

theorem refN2 (off : Int) (data : List Int) (c : Nat) : refN (op2 off data) c = if off < 0 then 1 else if (c : Int) < off + data.length then 10 else 0 := if_pos rfl

theorem write_none (l : List Int) (c : Nat) (off : Int) (data : List Int) (h : ¬ ((if off < 0 then (1 : Int) else if (c : Int) < off + data.length then 10 else 0) = 0 ∧ data.length ≠ 0)) : (writeSt (stNew l c) off data).now = l := by
  unfold writeSt
  have h1 : (stNew l c).dead = false := rfl
  have h2 : spendNo (stNew l c) = false := rfl
  have h3 : (spendSt (stNew l c)).now = l := (spend_same (stNew l c)).2.1
  rw [h1, h2, if_neg (by simp)]
  by_cases k1 : off < 0
  · rw [if_pos k1]; rfl
  · rw [if_neg k1]
    by_cases k2 : ((stNew l c).cap : Int) < off + data.length
    · rw [if_pos k2]; rfl
    · rw [if_neg k2, if_neg (by simp)]
      by_cases k3 : data.length = 0
      · rw [if_pos k3]; exact h3
      · exact absurd ⟨by rw [if_neg k1, if_neg (show ¬ (c : Int) < off + data.length from k2)], k3⟩ h

set_option maxRecDepth 20000 in
set_option maxHeartbeats 4000000 in
theorem reads_walk (v vdata : Value) (l data : List Int) (c off : Int) (w : World) (hs : SB w v l) (hdat : SB w vdata data) (hdl : data.length ≤ 140737488351232) (hoff : off ≤ 9223372036854775807) (hoff2 : -9223372036854775808 ≤ off) :
    Calls Try.prog 6 #[v, .int .i64 c, .int .i64 off, vdata] w fun e w' => e = .returned (.bool true) ∧ Below w.heap.size w w' := by
  have HS := hide hs
  have HDAT := hide hdat
  obtain ⟨ao, k, hv, hk1, hk2, _⟩ := hs
  unfold maxLen at hk2
  subst hv
  obtain ⟨av, kv, hv, hkv1, hkv2, _⟩ := hdat
  unfold maxLen at hkv2
  subst hv
  by_cases hfit : 0 ≤ c ∧ c ≤ 16777216 ∧ (l.length : Int) ≤ c
  case neg =>
    go_enter Try.func6, Try.ntmps6
    go_wp2_with fail
    refine (fits_no ao l.length k c _ hfit (by omega)).mono ?_
    rintro e w ⟨rfl, rfl⟩
    clear hfit
    go_wp2
    go_ret
    exact ⟨rfl, Below.refl _ _⟩
  case pos =>
    obtain ⟨hf0, hf1, hf2⟩ := hfit
    obtain ⟨cn, rfl⟩ := Int.eq_ofNat_of_zero_le hf0
    have hrun0 := Run.new l cn (by omega) (by omega)
    have hrun1 := hrun0.step (op2 off data) (by omega)
    have herr := hrun0.err (op2 off data)
    rw [opSt2] at hrun1
    rw [opErr2] at herr
    have HRun0 := hide hrun0
    have HRun1 := hide hrun1
    have HERR := hide herr
    clear hrun0 hrun1 herr
    go_enter Try.func6, Try.ntmps6
    go_wp2_with fail
    refine (fits_yes ao l.length k cn _ (by omega) hf1 hf2 (by omega)).mono ?_
    rintro e w ⟨rfl, rfl⟩
    go_wp2_with fail
    refine (fresh_any _ l cn _ HS.out (by omega) (by omega)).mono ?_
    rintro e w1 ⟨g, K1, rfl, hR1, hU1, hb1⟩
    have HL1 : Hid (Live w w1 K1 g (stNew l cn)) := ⟨hR1, hU1, hb1⟩
    clear hR1 hU1 hb1
    go_wp2_with fail
    refine (clone_any _ data _ (HDAT.out.below HL1.out.bel) hdl).mono ?_
    rintro e w2 ⟨_, rfl, rfl, hg, hb2⟩
    have ho2 : OB w2 w1.heap.size (.slice (some ⟨w1.heap.size, 0, none⟩) data.length data.length) data := hg
    have HL2 := hide (HL1.out.below hb2)
    have HO2 := hide ho2
    clear ho2 hg hb2
    go_wp2_with fail
    refine (write_any off HL2.out.rep HRun0.out.inv.p HRun0.out.inv.s HO2.out.sb (fresh_role HL1.out.rep (Nat.le_refl _) HO2.out)).mono ?_
    rintro e w3 ⟨rfl, K3, hR3, hF3⟩
    have HL3 := hide (HL2.out.fr hR3 hF3)
    clear hR3 hF3 HL1 HL2 HO2
    go_wp2_with fail
    refine (num_any _ _).mono ?_
    rintro e w3 ⟨rfl, rfl⟩
    go_wp2_with fail
    refine (image_rep HL3.out.rep HRun1.out.now).mono ?_
    rintro e w4 ⟨a4, c4, rfl, ho4, hb4⟩
    have HL4 := hide (HL3.out.below hb4)
    have HO4 := hide (ho4.base (Nat.zero_le _))
    have HBW := hide HL4.out.bel
    rw [HERR.out]
    clear ho4 hb4 HL3
    go_wp2_with fail
    refine (refused_any (asec := none) (csec := 0) (op2 off data) cn (by omega) hdl hkv1).mono ?_
    rintro e w5 ⟨rfl, hb5⟩
    have HL5 := hide (HL4.out.below hb5)
    have HO5 := hide (HO4.out.below hb5 (Nat.le_refl _))
    clear hb5 HO4 HL4
    have hsz5 := hide (size_rep HL5.out.rep)
    have HNL := hide (HRun1.out.now)
    obtain ⟨nw, hnw⟩ : ∃ nw, nw = (writeSt (stNew l cn) off data).now := ⟨_, rfl⟩
    rw [← hnw] at HO5 HNL hsz5 ⊢
    have HNW := hide hnw
    clear hnw
    obtain ⟨rn, hrn⟩ : ∃ rn, rn = refN (op2 off data) cn := ⟨_, rfl⟩
    rw [← hrn]
    have HRN := hide (hrn.trans (refN2 off data cn))
    clear hrn HERR
    have hne : (rn != rn) = false := by simp
    by_cases he : rn = 0 ∧ data.length ≠ 0
    case neg =>
      have HX : Hid (nw = l) := by
        show _ = _
        rw [HNW.out]
        exact write_none l cn off data (by rw [← HRN.out]; omega)
      have hc : (rn != 0) = true ∨ ((rn != 0) = false ∧ ((data.length : Int) == 0) = true) := by
        by_cases h : rn = 0
        · exact .inr ⟨by simp [h], beq_iff_eq.2 (by omega)⟩
        · exact .inl (by simpa using h)
      rw [HX.out] at HO5 HNL hsz5 ⊢
      clear he
      have hself : ((l.length : Int) == l.length) = true := by simp
      rcases hc with hc | ⟨hc, hc2⟩
      all_goals
        go_wp2_with fail
        refine (same_any _ _ l l _ HO5.out.sb (HS.out.below HL5.out.bel)).mono ?_
        rintro e w6 ⟨rfl, n6, hw6⟩
        rw [eqB_self]
        have hb6 : Below w5.heap.size w5 w6 := by rw [hw6]; exact below_drewN (Below.refl _ _) _
        have HL6 := hide (HL5.out.below hb6)
        have hsz6 := hide (size_rep HL6.out.rep)
        rw [← HNW.out, HX.out] at hsz6
        clear hb6 hw6
        go_wp2_with fail
        refine hsz6.out.mono ?_
        rintro e w6 ⟨rfl, rfl⟩
        go_wp2
        go_ret
        exact ⟨rfl, HL6.out.bel⟩
    case pos =>
      obtain ⟨he0, he1⟩ := he
      have hoff0 : 0 ≤ off := by
        have h := HRN.out
        rw [he0] at h
        by_cases k1 : off < 0
        · rw [if_pos k1] at h; omega
        · omega
      obtain ⟨kk, rfl⟩ := Int.eq_ofNat_of_zero_le hoff0
      have hkc : kk + data.length ≤ cn := by
        have h := HRN.out
        rw [he0, if_neg (by omega)] at h
        by_cases k2 : (cn : Int) < (kk : Int) + data.length
        · rw [if_pos k2] at h; omega
        · omega
      have hwn := write_now l cn kk data hkc he1
      rw [← HNW.out] at hwn
      have HWN := hide hwn
      have HRD : Hid (readErr (writeSt (stNew l cn) kk data) kk data.length = 0 ∧ readL (writeSt (stNew l cn) kk data) kk data.length = data) := by
        have e1 : readErr (writeSt (stNew l cn) kk data) kk data.length = 0 := by
          unfold readErr
          rw [HRun1.out.dead, if_neg (by simp), if_neg (by omega), if_neg (by omega), if_neg]
          rw [← HNW.out]
          omega
        refine ⟨e1, ?_⟩
        unfold readL
        rw [if_pos e1]
        exact read_back l cn kk data hkc he1
      have hdn : (((data.length : Nat) : Int) == 0) = false := beq_eq_false_iff_ne.2 (by omega)
      subst he0
      obtain ⟨bd, od, hav, HDC⟩ : ∃ bd od, av = some ⟨bd, od, none⟩ ∧ Hid (∀ i, i < data.length → w.cell? ⟨bd, od + i, none⟩ = some (.int .u8 (data.getD i 0))) := by
        obtain ⟨a, c, e, h1, h2, h3, h4⟩ := HDAT.out
        simp only [Value.slice.injEq] at e
        obtain ⟨rfl, -, rfl⟩ := e
        cases av with
        | none => have := h3 rfl; omega
        | some x =>
          obtain ⟨b, o, rfl⟩ := addr_lit (h4 x rfl 0 (by omega))
          exact ⟨b, o, rfl, fun i hi => by have := h4 _ rfl i hi; rwa [Addr.add_lit] at this⟩
      subst hav
      clear hwn HRN he1
      by_cases hgt : l.length < kk + data.length
      · have hgt' : (l.length : Int) < (kk : Int) + (data.length : Int) := by omega
        have HSZ : Hid (nw.length = (kk : Int) + (data.length : Int)) := by show _ = _; rw [HWN.out.1]; omega
        have hz1 : ((nw.length : Int) != (kk : Int) + (data.length : Int)) = false := by simp only [bne_eq_false_iff_eq]; have := HSZ.out; omega
        go_wp2_with fail
        refine (read_any kk data.length HL5.out.rep HRun1.out.now).mono ?_
        rintro e w6 ⟨a6, c6, rfl, ho6, hb6⟩
        rw [HRD.out.1, HRD.out.2]
        rw [HRD.out.2] at ho6
        have HL6 := hide (HL5.out.below hb6)
        have HO6 := hide ho6
        have HN6 := hide (HO5.out.below hb6 (Nat.le_refl _))
        clear ho6 hb6
        go_wp2_with fail
        refine (same_any _ _ data data _ HO6.out.sb (HDAT.out.below HL6.out.bel)).mono ?_
        rintro e w7 ⟨rfl, n7, hw7⟩
        rw [eqB_self]
        have hb7 : Below w6.heap.size w6 w7 := by rw [hw7]; exact below_drewN (Below.refl _ _) _
        have HL7 := hide (HL6.out.below hb7)
        have HN7 := hide (HN6.out.below hb7 (Nat.le_refl _))
        have hsz7 := hide (size_rep HL7.out.rep)
        rw [← HNW.out] at hsz7
        clear hb7 hw7
        go_wp2_with fail
        refine hsz7.out.mono ?_
        rintro e w7 ⟨rfl, rfl⟩
        go_wp2
        go_loopw [15] (fun p wr => ∃ q : Nat, q ≤ nw.length ∧ p = .int .i64 q ∧ Hid (Below w7.heap.size w7 wr)) (fun p _ => nw.length - (intOf p).toNat)
        case atStart => exact ⟨0, Nat.zero_le _, rfl, Below.refl _ _⟩
        case round =>
          obtain ⟨q, hq, rfl, HBR⟩ := hrel
          by_cases hlt : q < nw.length
          · have hlt' : (q : Int) < (kk : Int) + (data.length : Int) := by have := HSZ.out; omega
            have HWT := hide (HWN.out.2 q (by rw [← HWN.out.1]; exact hlt))
            obtain ⟨gn, han, hcn⟩ : ∃ gn, a4 = some ⟨gn, 0, none⟩ ∧ wr.cell? ⟨gn, q, none⟩ = some (.int .u8 (nw.getD q 0)) := by
              rcases HN7.out.2 with ⟨e1, e2⟩ | ⟨b, c, cur, e1, _⟩
              · omega
              · simp only [Value.slice.injEq] at e1
                refine ⟨b, e1.1, ?_⟩
                have := World.ownsRow.cells HN7.out (g := b) (by rw [e1.1]; rfl) q (.int .u8 (nw.getD q 0)) (by simp [hlt])
                rw [Addr.add_lit, Nat.zero_add] at this
                exact keep1 HBR.out this
            rw [han]
            have hc4 : nw.length ≤ c4 ∧ c4 ≤ 9223372036854775807 := by
              obtain ⟨_, _, e, h1, h2, _⟩ := HN7.out.sb
              simp only [Value.slice.injEq] at e
              unfold maxLen at h2
              omega
            obtain ⟨hc4a, hc4b⟩ := hc4
            clear han
            by_cases hin : kk ≤ q ∧ q < kk + data.length
            · obtain ⟨i1, i2⟩ := hin
              have i1' : (kk : Int) ≤ (q : Int) := by omega
              have i2' : (q : Int) < (kk : Int) + (data.length : Int) := by omega
              have i3 : ((q : Int) - (kk : Int)).toNat = q - kk := by omega
              have i4 : (q : Int) - (kk : Int) < (data.length : Int) := by omega
              have i5 : (0 : Int) ≤ (q : Int) - (kk : Int) := by omega
              have hcd : wr.cell? ⟨bd, od + (q - kk), none⟩ = some (.int .u8 (data.getD (q - kk) 0)) := by
                have := HDC.out (q - kk) (by omega)
                exact keep1 HBR.out (keep1 HL7.out.bel this)
              have HEQ : nw.getD q 0 = data.getD (q - kk) 0 := by rw [HWT.out]; unfold wantAt; rw [if_pos ⟨i1, i2⟩]
              rw [HEQ] at hcn
              generalize data.getD (q - kk) 0 = dv at hcn hcd
              have hdv : (dv != dv) = false := by simp
              clear HEQ i1 i2
              go_wp2
              go_roundw
              case rel => exact ⟨q + 1, by omega, by go_num, HBR⟩
              case measure => simp [intOf]; omega
            · have HEQ : nw.getD q 0 = l.getD q 0 := by rw [HWT.out]; unfold wantAt; rw [if_neg hin]
              rw [HEQ] at hcn
              clear HEQ
              have hin' : ((q : Int) < (kk : Int)) ∨ ((kk : Int) ≤ (q : Int) ∧ ¬ (q : Int) < (kk : Int) + (data.length : Int)) := by omega
              clear hin
              by_cases him : q < l.length
              · have him' : (q : Int) < (l.length : Int) := by omega
                obtain ⟨a0, c0, e0, k1, k2, k3, k4⟩ := HS.out
                simp only [Value.slice.injEq] at e0
                obtain ⟨rfl, -, rfl⟩ := e0
                cases ao with
                | none => have := k3 rfl; omega
                | some x =>
                obtain ⟨bi, oi, rfl⟩ := addr_lit (k4 x rfl 0 (by omega))
                have hci : wr.cell? ⟨bi, oi + q, none⟩ = some (.int .u8 (l.getD q 0)) := by
                  have := k4 _ rfl q him
                  rw [Addr.add_lit] at this
                  exact keep1 HBR.out (keep1 HL7.out.bel this)
                generalize l.getD q 0 = dv at hcn hci
                have hdv : (dv != dv) = false := by simp
                clear k1 k2 k3 k4
                rcases hin' with hin' | ⟨hin', hin2⟩
                all_goals first
                  | (exfalso; omega)
                  | (go_wp2
                     go_roundw
                     case rel => exact ⟨q + 1, by omega, by go_num, HBR⟩
                     case measure => simp [intOf]; omega)
              · have him' : ¬ (q : Int) < (l.length : Int) := by omega
                rw [getD_over l q (by omega)] at hcn
                rcases hin' with hin' | ⟨hin', hin2⟩
                all_goals first
                  | (exfalso; omega)
                  | (go_wp2
                     go_roundw
                     case rel => exact ⟨q + 1, by omega, by go_num, HBR⟩
                     case measure => simp [intOf]; omega)
          · have hlt' : ¬ (q : Int) < (kk : Int) + (data.length : Int) := by have := HSZ.out; omega
            have HLR := hide (HL7.out.below HBR.out)
            have HR1 : Hid (readErr (writeSt (stNew l cn) kk data) ((kk : Int) + (data.length : Int)) 1 = 11) := by
              show _ = _
              unfold readErr
              rw [HRun1.out.dead, if_neg (by simp), if_neg (by omega), if_neg (by omega), if_pos]
              rw [← HNW.out]
              have := HSZ.out
              omega
            have HR2 : Hid (readErr (writeSt (stNew l cn) kk data) ((kk : Int) + (data.length : Int)) 0 = 0) := by
              show _ = _
              unfold readErr
              rw [HRun1.out.dead, if_neg (by simp), if_neg (by omega), if_neg (by omega), if_neg]
              rw [← HNW.out]
              have := HSZ.out
              omega
            go_wp2_with fail
            refine (read_any ((kk : Int) + (data.length : Int)) 1 HLR.out.rep HRun1.out.now).mono ?_
            rintro e w8 ⟨a8, c8, rfl, ho8, hb8⟩
            have HL8 := hide (HLR.out.below hb8)
            clear ho8 hb8
            rw [HR1.out]
            go_wp2_with fail
            refine (read_any ((kk : Int) + (data.length : Int)) 0 HL8.out.rep HRun1.out.now).mono ?_
            rintro e w9 ⟨a9, c9, rfl, ho9, hb9⟩
            have HL9 := hide (HL8.out.below hb9)
            clear ho9 hb9
            rw [HR2.out]
            go_wp2_with fail
            refine (num_any _ _).mono ?_
            rintro e w9 ⟨rfl, rfl⟩
            go_wp2
            go_ret
            exact ⟨rfl, HL9.out.bel⟩
      · have hgt' : ¬ (l.length : Int) < (kk : Int) + (data.length : Int) := by omega
        have HSZ : Hid (nw.length = (l.length : Int)) := by show _ = _; rw [HWN.out.1]; omega
        have hz1 : ((nw.length : Int) != (l.length : Int)) = false := by simp only [bne_eq_false_iff_eq]; have := HSZ.out; omega
        go_wp2_with fail
        refine (read_any kk data.length HL5.out.rep HRun1.out.now).mono ?_
        rintro e w6 ⟨a6, c6, rfl, ho6, hb6⟩
        rw [HRD.out.1, HRD.out.2]
        rw [HRD.out.2] at ho6
        have HL6 := hide (HL5.out.below hb6)
        have HO6 := hide ho6
        have HN6 := hide (HO5.out.below hb6 (Nat.le_refl _))
        clear ho6 hb6
        go_wp2_with fail
        refine (same_any _ _ data data _ HO6.out.sb (HDAT.out.below HL6.out.bel)).mono ?_
        rintro e w7 ⟨rfl, n7, hw7⟩
        rw [eqB_self]
        have hb7 : Below w6.heap.size w6 w7 := by rw [hw7]; exact below_drewN (Below.refl _ _) _
        have HL7 := hide (HL6.out.below hb7)
        have HN7 := hide (HN6.out.below hb7 (Nat.le_refl _))
        have hsz7 := hide (size_rep HL7.out.rep)
        rw [← HNW.out] at hsz7
        clear hb7 hw7
        go_wp2_with fail
        refine hsz7.out.mono ?_
        rintro e w7 ⟨rfl, rfl⟩
        go_wp2
        go_loopw [15] (fun p wr => ∃ q : Nat, q ≤ nw.length ∧ p = .int .i64 q ∧ Hid (Below w7.heap.size w7 wr)) (fun p _ => nw.length - (intOf p).toNat)
        case atStart => exact ⟨0, Nat.zero_le _, rfl, Below.refl _ _⟩
        case round =>
          obtain ⟨q, hq, rfl, HBR⟩ := hrel
          by_cases hlt : q < nw.length
          · have hlt' : (q : Int) < (l.length : Int) := by have := HSZ.out; omega
            have HWT := hide (HWN.out.2 q (by rw [← HWN.out.1]; exact hlt))
            obtain ⟨gn, han, hcn⟩ : ∃ gn, a4 = some ⟨gn, 0, none⟩ ∧ wr.cell? ⟨gn, q, none⟩ = some (.int .u8 (nw.getD q 0)) := by
              rcases HN7.out.2 with ⟨e1, e2⟩ | ⟨b, c, cur, e1, _⟩
              · omega
              · simp only [Value.slice.injEq] at e1
                refine ⟨b, e1.1, ?_⟩
                have := World.ownsRow.cells HN7.out (g := b) (by rw [e1.1]; rfl) q (.int .u8 (nw.getD q 0)) (by simp [hlt])
                rw [Addr.add_lit, Nat.zero_add] at this
                exact keep1 HBR.out this
            rw [han]
            have hc4 : nw.length ≤ c4 ∧ c4 ≤ 9223372036854775807 := by
              obtain ⟨_, _, e, h1, h2, _⟩ := HN7.out.sb
              simp only [Value.slice.injEq] at e
              unfold maxLen at h2
              omega
            obtain ⟨hc4a, hc4b⟩ := hc4
            clear han
            by_cases hin : kk ≤ q ∧ q < kk + data.length
            · obtain ⟨i1, i2⟩ := hin
              have i1' : (kk : Int) ≤ (q : Int) := by omega
              have i2' : (q : Int) < (kk : Int) + (data.length : Int) := by omega
              have i3 : ((q : Int) - (kk : Int)).toNat = q - kk := by omega
              have i4 : (q : Int) - (kk : Int) < (data.length : Int) := by omega
              have i5 : (0 : Int) ≤ (q : Int) - (kk : Int) := by omega
              have hcd : wr.cell? ⟨bd, od + (q - kk), none⟩ = some (.int .u8 (data.getD (q - kk) 0)) := by
                have := HDC.out (q - kk) (by omega)
                exact keep1 HBR.out (keep1 HL7.out.bel this)
              have HEQ : nw.getD q 0 = data.getD (q - kk) 0 := by rw [HWT.out]; unfold wantAt; rw [if_pos ⟨i1, i2⟩]
              rw [HEQ] at hcn
              generalize data.getD (q - kk) 0 = dv at hcn hcd
              have hdv : (dv != dv) = false := by simp
              clear HEQ i1 i2
              go_wp2
              go_roundw
              case rel => exact ⟨q + 1, by omega, by go_num, HBR⟩
              case measure => simp [intOf]; omega
            · have HEQ : nw.getD q 0 = l.getD q 0 := by rw [HWT.out]; unfold wantAt; rw [if_neg hin]
              rw [HEQ] at hcn
              clear HEQ
              have hin' : ((q : Int) < (kk : Int)) ∨ ((kk : Int) ≤ (q : Int) ∧ ¬ (q : Int) < (kk : Int) + (data.length : Int)) := by omega
              clear hin
              by_cases him : q < l.length
              · have him' : (q : Int) < (l.length : Int) := by omega
                obtain ⟨a0, c0, e0, k1, k2, k3, k4⟩ := HS.out
                simp only [Value.slice.injEq] at e0
                obtain ⟨rfl, -, rfl⟩ := e0
                cases ao with
                | none => have := k3 rfl; omega
                | some x =>
                obtain ⟨bi, oi, rfl⟩ := addr_lit (k4 x rfl 0 (by omega))
                have hci : wr.cell? ⟨bi, oi + q, none⟩ = some (.int .u8 (l.getD q 0)) := by
                  have := k4 _ rfl q him
                  rw [Addr.add_lit] at this
                  exact keep1 HBR.out (keep1 HL7.out.bel this)
                generalize l.getD q 0 = dv at hcn hci
                have hdv : (dv != dv) = false := by simp
                clear k1 k2 k3 k4
                rcases hin' with hin' | ⟨hin', hin2⟩
                all_goals first
                  | (exfalso; omega)
                  | (go_wp2
                     go_roundw
                     case rel => exact ⟨q + 1, by omega, by go_num, HBR⟩
                     case measure => simp [intOf]; omega)
              · have him' : ¬ (q : Int) < (l.length : Int) := by omega
                rw [getD_over l q (by omega)] at hcn
                rcases hin' with hin' | ⟨hin', hin2⟩
                all_goals first
                  | (exfalso; omega)
                  | (go_wp2
                     go_roundw
                     case rel => exact ⟨q + 1, by omega, by go_num, HBR⟩
                     case measure => simp [intOf]; omega)
          · have hlt' : ¬ (q : Int) < (l.length : Int) := by have := HSZ.out; omega
            have HLR := hide (HL7.out.below HBR.out)
            have HR1 : Hid (readErr (writeSt (stNew l cn) kk data) ((l.length : Int)) 1 = 11) := by
              show _ = _
              unfold readErr
              rw [HRun1.out.dead, if_neg (by simp), if_neg (by omega), if_neg (by omega), if_pos]
              rw [← HNW.out]
              have := HSZ.out
              omega
            have HR2 : Hid (readErr (writeSt (stNew l cn) kk data) ((l.length : Int)) 0 = 0) := by
              show _ = _
              unfold readErr
              rw [HRun1.out.dead, if_neg (by simp), if_neg (by omega), if_neg (by omega), if_neg]
              rw [← HNW.out]
              have := HSZ.out
              omega
            go_wp2_with fail
            refine (read_any ((l.length : Int)) 1 HLR.out.rep HRun1.out.now).mono ?_
            rintro e w8 ⟨a8, c8, rfl, ho8, hb8⟩
            have HL8 := hide (HLR.out.below hb8)
            clear ho8 hb8
            rw [HR1.out]
            go_wp2_with fail
            refine (read_any ((l.length : Int)) 0 HL8.out.rep HRun1.out.now).mono ?_
            rintro e w9 ⟨a9, c9, rfl, ho9, hb9⟩
            have HL9 := hide (HL8.out.below hb9)
            clear ho9 hb9
            rw [HR2.out]
            go_wp2_with fail
            refine (num_any _ _).mono ?_
            rintro e w9 ⟨rfl, rfl⟩
            go_wp2
            go_ret
            exact ⟨rfl, HL9.out.bel⟩
end Go.Proofs.Yteiajeeincapoaa
