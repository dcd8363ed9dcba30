import Derived.Test.YteiajeeincapoacCalls1
namespace Go.Proofs.Yteiajeeincapoac
open Go.RowKit Go.Maps

theorem beyond_yes (off n : Int) (lim : Nat) (w : World) (h0 : 0 ≤ off) (_hn : 0 ≤ n) (hl : lim ≤ 4611686018427387904) (h : (lim : Int) < off + n) :
    Calls Try.prog 44 #[.int .i64 off, .int .i64 n, .int .i64 lim] w fun e w' => e = .returned (.bool true) ∧ w' = w := by
  by_cases h1 : (lim : Int) < off
  · go_enter Try.func44, Try.ntmps44
    go_wp2
    go_ret
    exact ⟨rfl, rfl⟩
  · have h2 : (lim : Int) - off < n := by omega
    go_enter Try.func44, Try.ntmps44
    go_wp2
    go_ret
    exact ⟨rfl, rfl⟩

theorem beyond_no (off n : Int) (lim : Nat) (w : World) (h0 : 0 ≤ off) (_hn : 0 ≤ n) (hl : lim ≤ 4611686018427387904) (h : off + n ≤ (lim : Int)) :
    Calls Try.prog 44 #[.int .i64 off, .int .i64 n, .int .i64 lim] w fun e w' => e = .returned (.bool false) ∧ w' = w := by
  have h1 : ¬ (lim : Int) < off := by omega
  have h2 : ¬ (lim : Int) - off < n := by omega
  go_enter Try.func44, Try.ntmps44
  go_wp2
  go_ret
  exact ⟨rfl, rfl⟩

def putP (st : St) (off : Nat) (data : List Int) : Nat × Nat × List Int := (min off st.now.length, off - min off st.now.length, data)

def writeSt (st : St) (off : Int) (data : List Int) : St :=
  if st.dead then st else if off < 0 then st else if (st.cap : Int) < off + data.length then st else if spendNo st then spendSt st else
  if data.length = 0 then spendSt st else layAll (spendSt st) (putP st off.toNat data)

def writeErr (st : St) (off : Int) (n : Nat) : Int := if st.dead then 12 else if off < 0 then 1 else if (st.cap : Int) < off + n then 10 else if spendNo st then 12 else 0

theorem Rep.addData {w w1 : World} {K : Nat → Nat} {g : Nat} {st : St} (h : Rep w K g st) {v : Value} {l : List Int} (hb : Below w.heap.size w w1) (ho : OB w1 w.heap.size v l) :
    ∃ K1, Rep w1 K1 g st ∧ Fr K K1 w w1 ∧ Role K1 v 6 := by
  obtain ⟨vn, vd, m, vs, D, h⟩ := h
  have hz : ∀ k, v.ownBlock = some k → K k = 0 := fun k hk => by
    by_cases e : K k = 0
    · exact e
    · have := h.sup k e; have := (ho.lt k hk).1; omega
  have u : Upd w w1 K (fun k => if v.ownBlock = some k then 6 else K k) (fun _ => False) := by
    refine ⟨hb.size, fun k hk => ?_, fun k k0 _ => hb.block k (h.sup k k0)⟩
    by_cases e : v.ownBlock = some k
    · have := (ho.lt k e).1; omega
    · simp [e]
  refine ⟨_, ⟨vn, vd, m, vs, D, { dc := h.dc.below hb (Nat.le_refl _), kg := ?_, hn := h.now' u id, kn := h.role u (by omega) h.kn, hd := h.dur' u id, kd := h.role u (by omega) h.kd, hm := h.map' u id, km := ?_, hs := h.sizes' u id, ks := h.role u (by omega) h.ks, rows := fun s => h.row' u id s id, keys := h.keys, sup := ?_ }⟩, ⟨hb.os, hb.tape, hb.output, hb.size, fun k hk _ => hb.block k hk, u.role⟩, ?_⟩
  · rw [u.role g h.dc.lt]; exact h.kg
  · rw [u.role m (h.sup m (by rw [h.km]; omega))]; exact h.km
  · intro k hk
    by_cases e : v.ownBlock = some k
    · exact (ho.lt k e).2
    · simp only [e, if_false] at hk
      have := h.sup k hk
      have := hb.size
      omega
  · intro k hk
    simp [hk]

theorem write_any {w : World} {K : Nat → Nat} {g : Nat} {st : St} {v : Value} {data : List Int} (off : Int) (h : Rep w K g st) (hP : PInv st) (hS : Small st) (hv : SB w v data) (hk0 : Role K v 0) :
    Calls Try.prog 25 #[.pointer (some ⟨g, 0, none⟩), .int .i64 off, v] w fun e w' => e = .returned (.int .i64 (writeErr st off data.length)) ∧ ∃ K', Rep w' K' g (writeSt st off data) ∧ Fr K K' w w' := by
  have HR := hide h
  have HSB := hide hv
  have HK0 := hide hk0
  obtain ⟨av, cv, hvv, hcv1, hcv2, _⟩ := hv
  unfold maxLen at hcv2
  subst hvv
  obtain ⟨vn, vd, m, vs, D, hV⟩ := h
  obtain ⟨c0, _⟩ := hV.dc.at
  have HV := hide hV
  have hc1 := hS.calls
  have hc2 := hS.left
  have hcap := hP.cap
  have hnow := hP.now
  have HS := hide hS
  have HP := hide hP
  clear hV hk0 hS hP
  cases hd : st.dead
  case true =>
    have HE : Hid (writeErr st off data.length = 12 ∧ writeSt st off data = st) := ⟨by unfold writeErr; rw [hd]; rfl, by unfold writeSt; rw [hd]; rfl⟩
    have hrd := hide (ready_any HV.out.dc)
    rw [hd] at hrd
    clear hd
    go_enter Try.func25, Try.ntmps25
    go_wp2_with fail
    refine hrd.out.mono ?_
    rintro e w ⟨rfl, rfl⟩
    go_wp2
    go_ret
    rw [HE.out.1, HE.out.2]
    exact ⟨rfl, K, HR.out, Fr.refl _ _⟩
  case false =>
    have hrd := hide (ready_any HV.out.dc)
    rw [hd] at hrd
    have HD := hide hd
    clear hd
    by_cases hn0 : off < 0
    · have HE : Hid (writeErr st off data.length = 1 ∧ writeSt st off data = st) := ⟨by unfold writeErr; rw [HD.out, if_neg (by simp), if_pos hn0], by unfold writeSt; rw [HD.out, if_neg (by simp), if_pos hn0]⟩
      go_enter Try.func25, Try.ntmps25
      go_wp2_with fail
      refine hrd.out.mono ?_
      rintro e w ⟨rfl, rfl⟩
      go_wp2
      go_ret
      rw [HE.out.1, HE.out.2]
      exact ⟨rfl, K, HR.out, Fr.refl _ _⟩
    · by_cases hnc : (st.cap : Int) < off + data.length
      · have HE : Hid (writeErr st off data.length = 10 ∧ writeSt st off data = st) := ⟨by unfold writeErr; rw [HD.out, if_neg (by simp), if_neg hn0, if_pos hnc], by unfold writeSt; rw [HD.out, if_neg (by simp), if_neg hn0, if_pos hnc]⟩
        go_enter Try.func25, Try.ntmps25
        go_wp2_with fail
        refine hrd.out.mono ?_
        rintro e w ⟨rfl, rfl⟩
        go_wp2_with fail
        refine (beyond_yes off data.length st.cap _ (by omega) (by omega) (by omega) hnc).mono ?_
        rintro e w ⟨rfl, rfl⟩
        clear hnc
        go_wp2
        go_ret
        rw [HE.out.1, HE.out.2]
        exact ⟨rfl, K, HR.out, Fr.refl _ _⟩
      · obtain ⟨k, rfl⟩ := Int.eq_ofNat_of_zero_le (show 0 ≤ off by omega)
        cases hsp : spendNo st
        case true =>
          have HE : Hid (writeErr st k data.length = 12 ∧ writeSt st k data = spendSt st) := ⟨by unfold writeErr; rw [HD.out, if_neg (by simp), if_neg hn0, if_neg hnc, hsp]; rfl, by unfold writeSt; rw [HD.out, if_neg (by simp), if_neg hn0, if_neg hnc, hsp]; rfl⟩
          have HX : Hid (spendErr st = 12) := by show _ = _; unfold spendErr; rw [hsp]; rfl
          clear hsp
          go_enter Try.func25, Try.ntmps25
          go_wp2_with fail
          refine hrd.out.mono ?_
          rintro e w ⟨rfl, rfl⟩
          go_wp2_with fail
          refine (beyond_no k data.length st.cap _ (by omega) (by omega) (by omega) (by omega)).mono ?_
          rintro e w ⟨rfl, rfl⟩
          clear hnc
          go_wp2_with fail
          refine (spend_any HR.out (by omega) (by omega)).mono ?_
          rintro e w2 ⟨rfl, hR2, hF2⟩
          have HR2 := hide hR2
          have HF2 := hide hF2
          clear hR2 hF2 c0
          rw [HX.out]
          go_wp2
          go_ret
          rw [HE.out.1, HE.out.2]
          exact ⟨rfl, K, HR2.out, HF2.out⟩
        case false =>
          have HX : Hid (spendErr st = 0) := by show _ = _; unfold spendErr; rw [hsp]; rfl
          have HE1 : Hid (writeErr st k data.length = 0) := by show _ = _; unfold writeErr; rw [HD.out, if_neg (by simp), if_neg hn0, if_neg hnc, hsp]; rfl
          have HE2 : Hid (writeSt st k data = if data.length = 0 then spendSt st else layAll (spendSt st) (putP st k data)) := by
            show _ = _
            unfold writeSt
            rw [HD.out, if_neg (by simp), if_neg hn0, if_neg hnc, hsp, if_neg (by simp)]
            rfl
          have hkc : k + data.length ≤ st.cap := by omega
          clear hsp hnc
          have HSM := hide (spend_same st)
          go_enter Try.func25, Try.ntmps25
          go_wp2_with fail
          refine hrd.out.mono ?_
          rintro e w ⟨rfl, rfl⟩
          go_wp2_with fail
          refine (beyond_no k data.length st.cap _ (by omega) (by omega) (by omega) (by omega)).mono ?_
          rintro e w ⟨rfl, rfl⟩
          go_wp2_with fail
          refine (spend_any HR.out (by omega) (by omega)).mono ?_
          rintro e w2 ⟨rfl, hR2, hF2⟩
          have HR2 := hide hR2
          have HF2 := hide hF2
          obtain ⟨vn2, vd2, m2, vs2, D2, hV2⟩ := hR2
          obtain ⟨_, q1, _⟩ := hV2.dc.at
          obtain ⟨a2, c2, hvn2, hq1, hq2, _⟩ := hV2.hn.sb
          unfold maxLen at hq2
          subst hvn2
          rw [HSM.out.2.1] at q1 hq1
          have HSB2 : Hid (SB w2 (.slice av data.length cv) data) := by
            obtain ⟨ao, cap, k0, k1, k2, k3, k4⟩ := HSB.out
            refine ⟨ao, cap, k0, k1, k2, k3, fun x hx i hi => ?_⟩
            have hh := k4 x hx i hi
            have hl := World.block_lt_of_cell? _ _ hh
            simp only [Value.slice.injEq] at k0
            rw [World.cell?_of_block (hF2.block (x.add i).block hl (.inl (HK0.out _ (by rw [k0.1, hx, add_block]; rfl)))), hh]
          clear hV2 hF2 c0
          rw [HX.out]
          by_cases he : data.length = 0
          · have HE3 : Hid (writeSt st k data = spendSt st) := by show _ = _; rw [HE2.out, if_pos he]
            have he' : ((data.length : Int) == 0) = true := beq_iff_eq.2 (by omega)
            clear he
            go_wp2
            go_ret
            rw [HE1.out, HE3.out]
            exact ⟨rfl, K, HR2.out, HF2.out⟩
          · have he' : ((data.length : Int) == 0) = false := beq_eq_false_iff_ne.2 (by omega)
            have HFIN : Hid (∀ (w3 : World) (a3 : Option Addr) (c3 : Nat), OB w3 w2.heap.size (.slice a3 data.length c3) data → Below w2.heap.size w2 w3 →
                Calls Try.prog 46 #[.pointer (some ⟨g, 0, none⟩), .agg #[.int .i64 (min k st.now.length : Nat), .int .i64 (k - min k st.now.length : Nat), .slice a3 data.length c3]] w3 fun e w' => e = .returned (.tuple #[]) ∧ ∃ K', Rep w' K' g (writeSt st k data) ∧ Fr K K' w w') := by
              intro w3 a3 c3 ho hb
              obtain ⟨K3, r3, f3, k3⟩ := HR2.out.addData hb ho
              rw [HE2.out, if_neg he]
              refine (lay_any (at' := min k st.now.length) (z := k - min k st.now.length) (d := data) r3 ?l1 ?l2 ?l3 ?l4 ?l5 ho.sb k3 ?l6).mono ?_
              case l1 => rw [HSM.out.1]; exact hcap
              case l2 => rw [HSM.out.1, HSM.out.2.1]; exact hnow
              case l3 => rw [HSM.out.2.2.2.2.1]; have := HS.out.sizes; omega
              case l4 => rw [HSM.out.2.2.2.2.2]; have := HS.out.ents; omega
              case l5 => rw [HSM.out.2.2.2.1]; intro s; have := HS.out.pcs s; omega
              case l6 => rw [HSM.out.1]; omega
              rintro e w4 ⟨rfl, K4, r4, f4⟩
              exact ⟨rfl, K4, r4, HF2.out.trans (f3.trans f4)⟩
            clear he
            by_cases hmin : (k : Int) ≤ (st.now.length : Int)
            · have e1 : Hid (((min k st.now.length : Nat) : Int) = (k : Int)) := by show _ = _; omega
              have e2 : Hid (((k - min k st.now.length : Nat) : Int) = 0) := by show _ = _; omega
              go_wp2_with fail
              refine (slicesClone_any _ data _ HSB2.out (by omega)).mono ?_
              rintro e w3 ⟨a3, c3, rfl, ho3, hb3⟩
              have HL := HFIN.out w3 a3 c3 ho3 hb3
              rw [e1.out, e2.out] at HL
              have HLL := hide HL
              clear ho3 hb3 q1 HL
              go_wp2_with fail
              refine HLL.out.mono ?_
              rintro e w4 ⟨rfl, hfin⟩
              have HFF := hide hfin
              clear hfin
              go_wp2
              go_ret
              rw [HE1.out]
              exact ⟨rfl, HFF.out⟩
            · have e1 : Hid (((min k st.now.length : Nat) : Int) = (st.now.length : Int)) := by show _ = _; omega
              have e2 : Hid (((k - min k st.now.length : Nat) : Int) = (k : Int) - (st.now.length : Int)) := by show _ = _; omega
              go_wp2_with fail
              refine (slicesClone_any _ data _ HSB2.out (by omega)).mono ?_
              rintro e w3 ⟨a3, c3, rfl, ho3, hb3⟩
              have HL := HFIN.out w3 a3 c3 ho3 hb3
              rw [e1.out, e2.out] at HL
              have HLL := hide HL
              clear ho3 hb3 q1 HL
              go_wp2_with fail
              refine HLL.out.mono ?_
              rintro e w4 ⟨rfl, hfin⟩
              have HFF := hide hfin
              clear hfin
              go_wp2
              go_ret
              rw [HE1.out]
              exact ⟨rfl, HFF.out⟩
end Go.Proofs.Yteiajeeincapoac
