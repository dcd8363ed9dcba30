import Derived.Test.YteiajeeincapoacLay
namespace Go.Proofs.Yteiajeeincapoac
open Go.RowKit Go.Maps

structure Small (st : St) : Prop where
  calls : st.calls ≤ 2000000000000
  left : st.left ≤ 9223372036854775807
  sizes : st.sizes.length ≤ st.calls
  ents : st.ents ≤ 40000 * st.calls
  pcs : ∀ s, (st.pcs s).length ≤ st.calls

def layAll (st : St) (p : Nat × Nat × List Int) : St := laySt (putSt st p) p (endP p)

def truncSt (st : St) (n : Int) : St :=
  if st.dead then st else if n < 0 then st else if (st.cap : Int) < n then st else if spendNo st then spendSt st else
  if (st.now.length : Int) < n then layAll (spendSt st) (st.now.length, n.toNat - st.now.length, []) else if n < st.now.length then { spendSt st with now := resz st.now n.toNat, sizes := st.sizes ++ [n.toNat] } else spendSt st

def truncErr (st : St) (n : Int) : Int := if st.dead then 12 else if n < 0 then 1 else if (st.cap : Int) < n then 10 else if spendNo st then 12 else 0

theorem spend_same (st : St) : (spendSt st).cap = st.cap ∧ (spendSt st).now = st.now ∧ (spendSt st).dur = st.dur ∧ (spendSt st).pcs = st.pcs ∧ (spendSt st).sizes = st.sizes ∧ (spendSt st).ents = st.ents := by
  unfold spendSt
  split
  · split <;> exact ⟨rfl, rfl, rfl, rfl, rfl, rfl⟩
  · exact ⟨rfl, rfl, rfl, rfl, rfl, rfl⟩

theorem truncate_any {w : World} {K : Nat → Nat} {g : Nat} {st : St} (n : Int) (h : Rep w K g st) (hP : PInv st) (hS : Small st) :
    Calls Try.prog 27 #[.pointer (some ⟨g, 0, none⟩), .int .i64 n] w fun e w' => e = .returned (.int .i64 (truncErr st n)) ∧ ∃ K', Rep w' K' g (truncSt st n) ∧ Fr K K' w w' := by
  have HR := hide h
  obtain ⟨vn, vd, m, vs, D, hV⟩ := h
  obtain ⟨c0, _⟩ := hV.dc.at
  have HV := hide hV
  have hc1 := hS.calls
  have hc2 := hS.left
  have hcap := hP.cap
  have hnow := hP.now
  have HS := hide hS
  have HP := hide hP
  clear hV
  cases hd : st.dead
  case true =>
    have HE : Hid (truncErr st n = 12 ∧ truncSt st n = st) := ⟨by unfold truncErr; rw [hd]; rfl, by unfold truncSt; rw [hd]; rfl⟩
    have hrd := hide (ready_any HV.out.dc)
    rw [hd] at hrd
    clear hd
    go_enter Try.func27, Try.ntmps27
    go_wp2_with fail
    refine hrd.out.mono ?_
    rintro e w1 ⟨rfl, rfl⟩
    go_wp2
    go_ret
    rw [HE.out.1, HE.out.2]
    exact ⟨rfl, K, HR.out, Fr.refl _ _⟩
  case false =>
    have hrd := hide (ready_any HV.out.dc)
    rw [hd] at hrd
    have HD := hide hd
    clear hd
    by_cases hn0 : n < 0
    · have HE : Hid (truncErr st n = 1 ∧ truncSt st n = st) := ⟨by unfold truncErr; rw [HD.out, if_neg (by simp), if_pos hn0], by unfold truncSt; rw [HD.out, if_neg (by simp), if_pos hn0]⟩
      go_enter Try.func27, Try.ntmps27
      go_wp2_with fail
      refine hrd.out.mono ?_
      rintro e w1 ⟨rfl, rfl⟩
      go_wp2
      go_ret
      rw [HE.out.1, HE.out.2]
      exact ⟨rfl, K, HR.out, Fr.refl _ _⟩
    · by_cases hnc : (st.cap : Int) < n
      · have HE : Hid (truncErr st n = 10 ∧ truncSt st n = st) := ⟨by unfold truncErr; rw [HD.out, if_neg (by simp), if_neg hn0, if_pos hnc], by unfold truncSt; rw [HD.out, if_neg (by simp), if_neg hn0, if_pos hnc]⟩
        go_enter Try.func27, Try.ntmps27
        go_wp2_with fail
        refine hrd.out.mono ?_
        rintro e w1 ⟨rfl, rfl⟩
        go_wp2
        go_ret
        rw [HE.out.1, HE.out.2]
        exact ⟨rfl, K, HR.out, Fr.refl _ _⟩
      · obtain ⟨k, rfl⟩ := Int.eq_ofNat_of_zero_le (show 0 ≤ n by omega)
        cases hsp : spendNo st
        case true =>
          have HE : Hid (truncErr st k = 12 ∧ truncSt st k = spendSt st) := ⟨by unfold truncErr; rw [HD.out, if_neg (by simp), if_neg hn0, if_neg hnc, hsp]; rfl, by unfold truncSt; rw [HD.out, if_neg (by simp), if_neg hn0, if_neg hnc, hsp]; rfl⟩
          have HX : Hid (spendErr st = 12) := by show _ = _; unfold spendErr; rw [hsp]; rfl
          clear hsp
          go_enter Try.func27, Try.ntmps27
          go_wp2_with fail
          refine hrd.out.mono ?_
          rintro e w1 ⟨rfl, rfl⟩
          go_wp2_with fail
          refine (spend_any HR.out (by omega) (by omega)).mono ?_
          rintro e w2 ⟨rfl, hR2, hF2⟩
          have HR2 := hide hR2
          have HF2 := hide hF2
          clear hR2 hF2 c0
          rw [HX.out]
          go_wp2
          go_ret
          rw [HE.out.1, HE.out.2]
          exact ⟨rfl, K, HR2.out, HF2.out⟩
        case false =>
          have HX : Hid (spendErr st = 0) := by show _ = _; unfold spendErr; rw [hsp]; rfl
          have HE1 : Hid (truncErr st k = 0) := by show _ = _; unfold truncErr; rw [HD.out, if_neg (by simp), if_neg hn0, if_neg hnc, hsp]; rfl
          have HE2 : Hid (truncSt st k = if (st.now.length : Int) < k then layAll (spendSt st) (st.now.length, (k : Int).toNat - st.now.length, []) else if (k : Int) < st.now.length then { spendSt st with now := resz st.now (k : Int).toNat, sizes := st.sizes ++ [(k : Int).toNat] } else spendSt st) := by
            show _ = _
            unfold truncSt
            rw [HD.out, if_neg (by simp), if_neg hn0, if_neg hnc, hsp, if_neg (by simp)]
          clear hsp
          obtain ⟨e1, e2, e3, e4, e5, e6⟩ := spend_same st
          have HSM := hide (spend_same st)
          go_enter Try.func27, Try.ntmps27
          go_wp2_with fail
          refine hrd.out.mono ?_
          rintro e w1 ⟨rfl, rfl⟩
          clear e1 e2 e3 e4 e5 e6
          go_wp2_with fail
          refine (spend_any HR.out (by omega) (by omega)).mono ?_
          rintro e w2 ⟨rfl, hR2, hF2⟩
          have HR2 := hide hR2
          have HF2 := hide hF2
          obtain ⟨vn2, vd2, m2, vs2, D2, hV2⟩ := hR2
          obtain ⟨_, q1, _⟩ := hV2.dc.at
          obtain ⟨a2, c2, hvn2, hq1, hq2, _⟩ := hV2.hn.sb
          unfold maxLen at hq2
          subst hvn2
          rw [HSM.out.2.1] at q1 hq1
          clear hV2 hF2 c0
          rw [HX.out]
          by_cases hgt : (st.now.length : Int) < (k : Int)
          · have HE3 : Hid (truncSt st k = layAll (spendSt st) (st.now.length, k - st.now.length, [])) := by show _ = _; rw [HE2.out, if_pos hgt]; rfl
            have hsub : (k : Int) - (st.now.length : Int) = ((k - st.now.length : Nat) : Int) := by omega
            have HSUB := hide hsub
            clear hsub
            go_wp2_with fail
            rw [HSUB.out]
            refine (lay_any (at' := st.now.length) (z := k - st.now.length) (d := []) HR2.out ?l1 ?l2 ?l3 ?l4 ?l5 ⟨none, 0, rfl, Nat.le_refl _, Nat.zero_le _, fun _ => rfl, fun x hx => by cases hx⟩ (fun k hk => by simp [Value.ownBlock] at hk) ?l6).mono ?_
            case l1 => rw [HSM.out.1]; exact hcap
            case l2 => rw [HSM.out.1, HSM.out.2.1]; exact hnow
            case l3 => rw [HSM.out.2.2.2.2.1]; have := HS.out.sizes; omega
            case l4 => rw [HSM.out.2.2.2.2.2]; have := HS.out.ents; omega
            case l5 => rw [HSM.out.2.2.2.1]; intro s; have := HS.out.pcs s; omega
            case l6 => rw [HSM.out.1]; simp; omega
            rintro e w3 ⟨rfl, K3, hR3, hF3⟩
            have HR3 := hide hR3
            have HF3 := hide (HF2.out.trans hF3)
            clear hR3 hF3 q1
            go_wp2
            go_ret
            rw [HE1.out, HE3.out]
            exact ⟨rfl, K3, HR3.out, HF3.out⟩
          · by_cases hlt : (k : Int) < (st.now.length : Int)
            · have HE3 : Hid (truncSt st k = { spendSt st with now := resz st.now k, sizes := st.sizes ++ [k] }) := by show _ = _; rw [HE2.out, if_neg hgt, if_pos hlt]; rfl
              go_wp2_with fail
              refine (resize_any k HR2.out (by omega) (by rw [HSM.out.2.1]; omega) (by rw [HSM.out.2.2.2.2.1]; have := HS.out.sizes; omega)).mono ?_
              rintro e w3 ⟨rfl, K3, hR3, hF3⟩
              rw [HSM.out.2.1, HSM.out.2.2.2.2.1] at hR3
              have HR3 := hide hR3
              have HF3 := hide (HF2.out.trans hF3)
              clear hR3 hF3 q1
              go_wp2
              go_ret
              rw [HE1.out, HE3.out]
              exact ⟨rfl, K3, HR3.out, HF3.out⟩
            · have HE3 : Hid (truncSt st k = spendSt st) := by show _ = _; rw [HE2.out, if_neg hgt, if_neg hlt]
              go_wp2
              go_ret
              rw [HE1.out, HE3.out]
              exact ⟨rfl, K, HR2.out, HF2.out⟩
end Go.Proofs.Yteiajeeincapoac
