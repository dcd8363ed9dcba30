import Derived.Test.YteiajeeincapoacCalls2
import Derived.Test.YteiajeeincapoacSetWalk
namespace Go.Proofs.Yteiajeeincapoac
open Go.RowKit Go.Maps

def syncSt (st : St) : St := if st.dead then st else if spendNo st then spendSt st else { spendSt st with dur := st.now, pcs := fun _ => [], sizes := [], ents := 0 }

def syncErr (st : St) : Int := if st.dead then 12 else if spendNo st then 12 else 0

theorem sync_any {w : World} {K : Nat → Nat} {g : Nat} {st : St} (h : Rep w K g st) (hP : PInv st) (hS : Small st) (hD : DInv st) :
    Calls Try.prog 29 #[.pointer (some ⟨g, 0, none⟩)] w fun e w' => e = .returned (.int .i64 (syncErr st)) ∧ ∃ K', Rep w' K' g (syncSt st) ∧ Fr K K' w w' := by
  have HR := hide h
  obtain ⟨vn, vd, m, vs, D, hV⟩ := h
  have HV := hide hV
  have hc1 := hS.calls
  have hc2 := hS.left
  clear hV
  have hrd := hide (ready_any HV.out.dc)
  cases hd : st.dead
  case true =>
    have HE : Hid (syncErr st = 12 ∧ syncSt st = st) := ⟨by unfold syncErr; rw [hd]; rfl, by unfold syncSt; rw [hd]; rfl⟩
    rw [hd] at hrd
    clear hd
    go_enter Try.func29, Try.ntmps29
    go_wp2_with fail
    refine hrd.out.mono ?_
    rintro e w ⟨rfl, rfl⟩
    go_wp2
    go_ret
    rw [HE.out.1, HE.out.2]
    exact ⟨rfl, K, HR.out, Fr.refl _ _⟩
  case false =>
    rw [hd] at hrd
    have HD := hide hd
    clear hd
    cases hsp : spendNo st
    case true =>
      have HE : Hid (syncErr st = 12 ∧ syncSt st = spendSt st) := ⟨by unfold syncErr; rw [HD.out, hsp]; rfl, by unfold syncSt; rw [HD.out, hsp]; rfl⟩
      have HX : Hid (spendErr st = 12) := by show _ = _; unfold spendErr; rw [hsp]; rfl
      clear hsp
      go_enter Try.func29, Try.ntmps29
      go_wp2_with fail
      refine hrd.out.mono ?_
      rintro e w ⟨rfl, rfl⟩
      go_wp2_with fail
      refine (spend_any HR.out (by omega) (by omega)).mono ?_
      rintro e w2 ⟨rfl, hR2, hF2⟩
      have HR2 := hide hR2
      have HF2 := hide hF2
      clear hR2 hF2
      rw [HX.out]
      go_wp2
      go_ret
      rw [HE.out.1, HE.out.2]
      exact ⟨rfl, K, HR2.out, HF2.out⟩
    case false =>
      have HX : Hid (spendErr st = 0) := by show _ = _; unfold spendErr; rw [hsp]; rfl
      have HE : Hid (syncErr st = 0 ∧ syncSt st = { spendSt st with dur := st.now, pcs := fun _ => [], sizes := [], ents := 0 }) := ⟨by unfold syncErr; rw [HD.out, hsp]; rfl, by unfold syncSt; rw [HD.out, hsp]; rfl⟩
      have HSM := hide (spend_same st)
      have HP2 : Hid (PInv (spendSt st)) := by
        obtain ⟨e1, e2, e3, e4, e5, e6⟩ := spend_same st
        exact ⟨by rw [e1]; exact hP.cap, by rw [e1, e2]; exact hP.now, by rw [e1, e3]; exact hP.dur, by rw [e1, e5]; exact hP.sizes, by unfold PBd; rw [e4]; exact hP.bd⟩
      have HD2 : Hid (DInv (spendSt st)) := by
        obtain ⟨e1, e2, e3, e4, e5, e6⟩ := spend_same st
        show DInv _
        unfold DInv
        rw [e2, e3, e4]
        exact hD
      clear hsp hP hD hS
      go_enter Try.func29, Try.ntmps29
      go_wp2_with fail
      refine hrd.out.mono ?_
      rintro e w ⟨rfl, rfl⟩
      go_wp2_with fail
      refine (spend_any HR.out (by omega) (by omega)).mono ?_
      rintro e w2 ⟨rfl, hR2, hF2⟩
      have HR2 := hide hR2
      have HF2 := hide hF2
      clear hR2 hF2
      rw [HX.out]
      go_wp2_with fail
      refine (settle_any HR2.out HP2.out HD2.out).mono ?_
      rintro e w3 ⟨rfl, K3, hR3, hF3⟩
      have HR3 := hide hR3
      have HF3 := hide (HF2.out.trans hF3)
      clear hR3 hF3
      go_wp2
      go_ret
      rw [HE.out.1, HE.out.2, ← HSM.out.2.1]
      exact ⟨rfl, K3, HR3.out, HF3.out⟩
end Go.Proofs.Yteiajeeincapoac
