import Derived.Test.YteiajeeincapoacRWrite
import Derived.Test.YteiajeeincapoacRead
namespace Go.Proofs.Yteiajeeincapoac
open Go.RowKit Go.Maps

def rsErr (st : RSt) : Int := if st.live = false then 12 else if st.fuse = 0 then 12 else 0

def rsyncSt (st : RSt) : RSt := if st.live = false then st else if st.fuse = 0 then carrySt st else { carrySt st with dur := (carrySt st).now, rps := [], sizes := [] }

theorem rsync_any {w : World} {K : Nat → Nat} {g : Nat} {st : RSt} (h : RRep w K g st) (hI : RInv st) :
    Calls Try.prog 30 #[.pointer (some ⟨g, 0, none⟩)] w fun e w' => e = .returned (.int .i64 (rsErr st)) ∧ ∃ K', RRep w' K' g (rsyncSt st) ∧ Fr K K' w w' := by
  have HR := hide h
  obtain ⟨vn, vd, vp, vs, hV⟩ := h
  obtain ⟨_, _, _, _, _, _, _, c7⟩ := hV.rc.at
  have h1 := hI.room
  have h2 := hI.now
  have h3 := hI.calls
  have h4 := hI.f1
  have h5 := hI.f2
  clear hV hI
  cases hd : st.live
  case false =>
    have HE : Hid (rsErr st = 12 ∧ rsyncSt st = st) := ⟨by unfold rsErr; rw [if_pos hd], by unfold rsyncSt; rw [if_pos hd]⟩
    rw [hd] at c7
    clear hd
    go_enter Try.func30, Try.ntmps30
    go_wp2
    go_ret
    rw [HE.out.1, HE.out.2]
    exact ⟨rfl, K, HR.out, Fr.refl _ _⟩
  case true =>
    rw [hd] at c7
    have hd' : ¬ st.live = false := by rw [hd]; simp
    by_cases hf : st.fuse = 0
    · have HE : Hid (rsErr st = 12 ∧ rsyncSt st = carrySt st) := ⟨by unfold rsErr; rw [if_neg hd', if_pos hf], by unfold rsyncSt; rw [if_neg hd', if_pos hf]⟩
      have HC : Hid ((!carryNo st) = false) := by show _ = _; simp [carryNo, hf]
      clear hd hd' hf
      go_enter Try.func30, Try.ntmps30
      go_wp2_with fail
      refine (carried_any HR.out (by omega) h4 h5).mono ?_
      rintro e w2 ⟨rfl, hR2, hF2⟩
      rw [HC.out]
      have HR2 := hide hR2
      have HF2 := hide hF2
      clear hR2 hF2 c7
      go_wp2
      go_ret
      rw [HE.out.1, HE.out.2]
      exact ⟨rfl, K, HR2.out, HF2.out⟩
    · have HE : Hid (rsErr st = 0 ∧ rsyncSt st = { carrySt st with dur := (carrySt st).now, rps := [], sizes := [] }) := ⟨by unfold rsErr; rw [if_neg hd', if_neg hf], by unfold rsyncSt; rw [if_neg hd', if_neg hf]⟩
      have HC : Hid ((!carryNo st) = true) := by show _ = _; simp [carryNo, hf]
      have HCAR := hide (carry_same st)
      clear hd hd' hf
      go_enter Try.func30, Try.ntmps30
      go_wp2_with fail
      refine (carried_any HR.out (by omega) h4 h5).mono ?_
      rintro e w2 ⟨rfl, hR2, hF2⟩
      rw [HC.out]
      have HF2 := hide hF2
      obtain ⟨vn2, vd2, vp2, vs2, hV2⟩ := hR2
      obtain ⟨_, q1, q2, q3, q4, _⟩ := hV2.rc.at
      have hfz := hV2.rc.free
      obtain ⟨a2, c2, hvn2⟩ := hV2.hn.shape
      rw [HCAR.out.2.1] at hvn2
      subst hvn2
      have HV2 := hide hV2
      have HSB : Hid (SB w2 (.slice a2 st.now.length c2) st.now) := by have := hV2.hn.sb; rw [HCAR.out.2.1] at this; exact this
      clear hF2 c7 hV2
      go_wp2_with fail
      refine (rClone_any _ st.now _ HSB.out (by omega)).mono ?_
      rintro e w3 ⟨_, rfl, rfl, hn, hb3⟩
      have ho3 : OB w3 w2.heap.size (.slice (some ⟨w2.heap.size, 0, none⟩) st.now.length st.now.length) (carrySt st).now := by rw [HCAR.out.2.1]; exact hn
      obtain ⟨K7, hR7, hF7⟩ := HV2.out.settle ho3 hb3
      have hrc3 := HV2.out.rc.of_heap (hb3.block g HV2.out.rc.lt)
      obtain ⟨_, _, t2, t3, t4, _⟩ := hrc3.at
      have hf3 := hrc3.free
      have HR7 := hide hR7
      have HF7 := hide (HF2.out.trans hF7)
      clear hn ho3 hb3 hR7 hF7 hrc3 q1 q2 q3 q4 hfz
      go_wp2
      go_ret
      rw [HE.out.1, HE.out.2]
      exact ⟨rfl, K7, ⟨_, _, _, _, HR7.out⟩, HF7.out⟩

def rrErr (st : RSt) (off n : Int) : Int := if st.live = false then 12 else if off < 0 then 1 else if n < 0 then 1 else if (st.now.length : Int) < off + n then 11 else 0

def rreadL (st : RSt) (off n : Int) : List Int := if rrErr st off n = 0 then (st.now.drop off.toNat).take n.toNat else []

theorem rread_any {w : World} {K : Nat → Nat} {g : Nat} {st : RSt} (off n : Int) (h : RRep w K g st) (hl : st.now.length ≤ 16777216) :
    Calls Try.prog 38 #[.pointer (some ⟨g, 0, none⟩), .int .i64 off, .int .i64 n] w fun e w' => ∃ a c, e = .returned (.tuple #[.slice a (rreadL st off n).length c, .int .i64 (rrErr st off n)]) ∧ OB w' w.heap.size (.slice a (rreadL st off n).length c) (rreadL st off n) ∧ Below w.heap.size w w' := by
  obtain ⟨vn, vd, vp, vs, hV⟩ := h
  obtain ⟨_, c1, _, _, _, _, _, c7⟩ := hV.rc.at
  have HV := hide hV
  clear hV
  cases hd : st.live
  case false =>
    have HE : Hid (rrErr st off n = 12) := by show _ = _; unfold rrErr; rw [if_pos hd]
    have HL : Hid (rreadL st off n = []) := by show _ = _; unfold rreadL; rw [HE.out]; rfl
    rw [hd] at c7
    clear hd
    go_enter Try.func38, Try.ntmps38
    go_wp2
    go_ret2
    rw [HE.out, HL.out]
    exact ⟨none, 0, rfl, obNil _ _, Below.refl _ _⟩
  case true =>
    rw [hd] at c7
    have hd' : ¬ st.live = false := by rw [hd]; simp
    have HD := hide hd'
    clear hd hd'
    by_cases h0 : off < 0
    · have HE : Hid (rrErr st off n = 1) := by show _ = _; unfold rrErr; rw [if_neg HD.out, if_pos h0]
      have HL : Hid (rreadL st off n = []) := by show _ = _; unfold rreadL; rw [HE.out]; rfl
      go_enter Try.func38, Try.ntmps38
      go_wp2
      go_ret2
      rw [HE.out, HL.out]
      exact ⟨none, 0, rfl, obNil _ _, Below.refl _ _⟩
    · by_cases h1 : n < 0
      · have HE : Hid (rrErr st off n = 1) := by show _ = _; unfold rrErr; rw [if_neg HD.out, if_neg h0, if_pos h1]
        have HL : Hid (rreadL st off n = []) := by show _ = _; unfold rreadL; rw [HE.out]; rfl
        go_enter Try.func38, Try.ntmps38
        go_wp2
        go_ret2
        rw [HE.out, HL.out]
        exact ⟨none, 0, rfl, obNil _ _, Below.refl _ _⟩
      · obtain ⟨an, cn, hvn⟩ := HV.out.hn.shape
        have hcn : st.now.length ≤ cn ∧ cn ≤ maxLen := by
          obtain ⟨a, c, e, h1, h2, _⟩ := HV.out.hn.sb
          rw [hvn] at e
          simp only [Value.slice.injEq] at e
          obtain ⟨-, -, rfl⟩ := e
          exact ⟨h1, h2⟩
        obtain ⟨hcn1, hcn2⟩ := hcn
        unfold maxLen at hcn2
        subst hvn
        by_cases h2 : (st.now.length : Int) < off + n
        · have HE : Hid (rrErr st off n = 11) := by show _ = _; unfold rrErr; rw [if_neg HD.out, if_neg h0, if_neg h1, if_pos h2]
          have HL : Hid (rreadL st off n = []) := by show _ = _; unfold rreadL; rw [HE.out]; rfl
          by_cases h3 : (st.now.length : Int) < off
          · go_enter Try.func38, Try.ntmps38
            go_wp2
            go_ret2
            rw [HE.out, HL.out]
            exact ⟨none, 0, rfl, obNil _ _, Below.refl _ _⟩
          · have h4 : (st.now.length : Int) - off < n := by omega
            go_enter Try.func38, Try.ntmps38
            go_wp2
            go_ret2
            rw [HE.out, HL.out]
            exact ⟨none, 0, rfl, obNil _ _, Below.refl _ _⟩
        · have HE : Hid (rrErr st off n = 0) := by show _ = _; unfold rrErr; rw [if_neg HD.out, if_neg h0, if_neg h1, if_neg h2]
          have HL : Hid (rreadL st off n = (st.now.drop off.toNat).take n.toNat) := by show _ = _; unfold rreadL; rw [HE.out]; rfl
          obtain ⟨o, rfl⟩ := Int.eq_ofNat_of_zero_le (show 0 ≤ off by omega)
          obtain ⟨q, rfl⟩ := Int.eq_ofNat_of_zero_le (show 0 ≤ n by omega)
          have hoq : o + q ≤ st.now.length := by omega
          have hlen : ((st.now.drop o).take q).length = q := by simp; omega
          have HLEN := hide hlen
          rw [show (o : Int).toNat = o by omega, show (q : Int).toNat = q by omega] at HL
          clear h0 h1 h2 hlen
          have s0 : ¬ (st.now.length : Int) < (o : Int) := by omega
          have s4 : ¬ (st.now.length : Int) - (o : Int) < (q : Int) := by omega
          have s1 : (o : Int) ≤ (o : Int) + (q : Int) := by omega
          have s2 : (o : Int) + (q : Int) ≤ (cn : Int) := by omega
          have s3 : (o : Int) + (q : Int) - (o : Int) = (q : Int) := by omega
          rcases HV.out.hn.2 with ⟨e1, e2⟩ | ⟨gg, cap, cur, e1, _⟩
          · simp only [Value.slice.injEq] at e1
            obtain ⟨rfl, e1, rfl⟩ := e1
            have ho : o = 0 := by omega
            have hq : q = 0 := by omega
            subst ho hq
            have c1' : w.cell? ⟨g, 1, none⟩ = some (.slice none 0 0) := by rw [c1, e1]
            clear s1 s2 s3 s0 s4 hoq hcn1 hcn2 e2 e1 c1
            have HSB : Hid (SB w (.slice none 0 0) ((st.now.drop 0).take 0)) := ⟨none, 0, rfl, Nat.le_refl _, Nat.zero_le _, fun _ => rfl, fun x hx => by cases hx⟩
            go_enter Try.func38, Try.ntmps38
            go_wp2_with fail
            refine (rClone_any _ _ _ HSB.out (by simp)).mono ?_
            rintro e w1 ⟨_, rfl, rfl, hn, hb1⟩
            go_wp2
            go_ret2
            rw [HE.out, HL.out]
            exact ⟨_, _, rfl, hn, hb1⟩
          · simp only [Value.slice.injEq] at e1
            obtain ⟨rfl, -, rfl⟩ := e1
            have HSB : Hid (SB w (.slice (some ⟨gg, o, none⟩) q (cn - o)) ((st.now.drop o).take q)) := by
              obtain ⟨a, c, e, k1, k2, k3, k4⟩ := HV.out.hn.sb
              simp only [Value.slice.injEq] at e
              obtain ⟨rfl, -, rfl⟩ := e
              refine ⟨some ⟨gg, o, none⟩, cn - o, by rw [HLEN.out], by rw [HLEN.out]; omega, by unfold maxLen; omega, (fun e => by cases e), fun x hx i hi => ?_⟩
              cases hx
              rw [HLEN.out] at hi
              have := k4 _ rfl (o + i) (by omega)
              rw [Addr.add_lit, Nat.zero_add] at this
              rw [Addr.add_lit, this]
              simp [List.getD, hi]
            have HSZ : Hid (q = 0 → SB w (.slice (some ⟨gg, 0, none⟩) q 0) ((st.now.drop o).take q)) := by
              intro hq
              subst hq
              exact ⟨some ⟨gg, 0, none⟩, 0, by simp, by simp, Nat.zero_le _, (fun _ => rfl), fun x hx i hi => by simp at hi⟩
            go_enter Try.func38, Try.ntmps38
            go_wp2_with fail
            all_goals
              refine (rClone_any _ ((st.now.drop o).take q) _ (by first | exact HSB.out | exact HSZ.out (by omega)) (by rw [HLEN.out]; omega)).mono ?_
              rintro e w1 ⟨_, rfl, rfl, hn, hb1⟩
              rw [HLEN.out] at hn ⊢
              go_wp2
              go_ret2
              rw [HE.out, HL.out, HLEN.out]
              exact ⟨_, _, rfl, hn, hb1⟩
end Go.Proofs.Yteiajeeincapoac
