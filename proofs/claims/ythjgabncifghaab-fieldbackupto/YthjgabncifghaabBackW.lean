import Derived.Test.YthjgabncifghaabBack
namespace Go.Proofs.Ythjgabncifghaab
open Go.RowKit Go.Maps
set_option maxRecDepth 20000

set_option maxHeartbeats 2000000 in
theorem back_walk (vo : Value) (xs : List It) (w : World) (ho : IS w vo xs) (hB : IOk xs) (hn : xs.length ≤ 1048576) :
    Calls Try.prog 3 #[vo] w fun e w' => e = .returned (.bool true) ∧ Below w.heap.size w w' := by
  obtain ⟨ao, cap, rfl, hoc, hom, hops⟩ := ho
  unfold maxLen at hom
  have HOPS := hide hops
  have HB := hide hB
  clear hops hB
  have HPL : Hid (∀ k, (pre (xs.take k)).length ≤ 1048576 * k) := fun k => pre_len HB.out k
  go_enter Try.func3, Try.ntmps3
  go_wp2
  go_loopw [3, 4] (fun t i wr => ∃ (k T : Nat), k ≤ xs.length ∧ i = .int .i64 k ∧ t = .int .i64 T ∧ T ≤ 1099511627776 ∧ wr = w ∧ Hid (T = (pre (xs.take k)).length)) (fun _ i _ => xs.length - (intOf i).toNat)
  case atStart => exact ⟨0, 0, Nat.zero_le _, rfl, rfl, by omega, rfl, rfl⟩
  case round =>
    obtain ⟨k, T, hk, rfl, rfl, hT, hwr, HT⟩ := hrel
    have hwr' := hwr.symm
    subst hwr'
    clear hwr
    by_cases hlt : k < xs.length
    case pos =>
      obtain ⟨x, hx⟩ : ∃ x, xs[k]? = some x := ⟨xs[k], by simp [hlt]⟩
      obtain ⟨b, of, hab, q0, q1, q2⟩ := HOPS.out k x hx
      obtain ⟨hk1, hk2, hk3⟩ := HB.out x (List.mem_of_getElem? hx)
      subst hab
      have HN : Hid (T + (encI x).length = (pre (xs.take (k + 1))).length) := by show _ = _; rw [pre_take hx, List.length_append, HT.out]
      have HN2 : Hid (T + (encI x).length ≤ 1099511627776) := by
        have h1 := HPL.out (k + 1)
        have h2 := HN.out
        show _ ≤ _
        omega
      clear hx
      by_cases hw : x.w = 1 ∨ x.w = 2 ∨ x.w = 4
      · have hwd : ((encI x).length : Int) = x.w := widthOf_num hw
        obtain ⟨wd, HWd⟩ : ∃ wd, Hid (wd = (encI x).length) := ⟨_, rfl⟩
        rw [← HWd.out] at HN HN2 hwd
        have HWx := hide hwd
        have hT2 : T + wd ≤ 1099511627776 := HN2.out
        rcases hw with hw | hw | hw
        all_goals
          rw [hw] at q0 hwd
          go_wp2
          go_roundw
          case rel => exact ⟨k + 1, T + wd, by omega, by go_num, congrArg (Value.int .i64) (by omega), by omega, by trivial, HN.out⟩
          case measure => simp [intOf]; omega
      · have h1 : ¬ x.w = 1 := fun h => hw (.inl h)
        have h2 : ¬ x.w = 2 := fun h => hw (.inr (.inl h))
        have h4 : ¬ x.w = 4 := fun h => hw (.inr (.inr h))
        have hwd : (encI x).length = x.s.size := by have := widthOf_text h1 h2 h4; unfold widthOf at this; omega
        rw [hwd] at HN HN2
        have hT2 : T + x.s.size ≤ 1099511627776 := HN2.out
        clear hw hwd
        go_wp2
        go_roundw
        case rel => exact ⟨k + 1, T + x.s.size, by omega, by go_num, congrArg (Value.int .i64) (by omega), by omega, by trivial, HN.out⟩
        case measure => simp [intOf]; omega
    case neg =>
      have HTt : Hid (T = (pre xs).length) := by
        have h := HT.out
        rw [List.take_of_length_le (by omega)] at h
        exact h
      clear HT
      go_wp2_with fail
      refine (newBuffer_any (T : Int) (by omega) w).mono ?_
      rintro e w1 ⟨g, K1, rfl, hb1, hu1, hbel1⟩
      have HH1 : Hid (Herd w w1 [(K1, g, .b (newSt T))]) := (Herd.nil w).push hbel1 hb1 hu1
      clear hb1 hu1 hbel1
      go_wp2_with fail
      refine (newBuffer_any ((T : Int) - 1) (by omega) w1).mono ?_
      rintro e w2 ⟨gs, K2, rfl, hb2, hu2, hbel2⟩
      have HH2 : Hid (Herd w w2 [(K1, g, .b (newSt T)), (K2, gs, .b (newSt ((T : Int) - 1)))]) := HH1.out.push hbel2 hb2 hu2
      have HFu : Hid (Full (newSt T) xs 0) := by
        have e : newSt (T : Int) = ⟨[], T, 0⟩ := if_neg (by omega)
        rw [e]
        exact ⟨rfl, by rw [HTt.out], rfl⟩
      have HLs : Hid (Less (newSt ((T : Int) - 1)) xs 0) := by
        intro h0
        by_cases hz : (T : Int) - 1 < 0
        · have e : newSt ((T : Int) - 1) = ⟨[], 0, 1⟩ := if_pos hz
          rw [e] at h0
          simp at h0
        · have e : newSt ((T : Int) - 1) = ⟨[], (T : Int) - 1, 0⟩ := if_neg hz
          rw [e]
          refine ⟨rfl, ?_, by rw [HTt.out]⟩
          have := HTt.out
          simp only [List.length_nil]
          omega
      have HSh : Hid (Short (newSt T) 0 ∧ Short (newSt ((T : Int) - 1)) 0) := by
        have e : ∀ t, (newSt t).l.length = 0 := fun t => by unfold newSt; split <;> rfl
        refine ⟨?_, ?_⟩ <;> (unfold Short; rw [e]; exact Nat.zero_le _)
      clear hb2 hu2 hbel2 HH1
      go_wp2
      go_loopw [7] (fun i wq => ∃ k : Nat, k ≤ xs.length ∧ i = .int .i64 k ∧ Hid (∃ K1 K2 s1 s2, Herd w wq [(K1, g, .b s1), (K2, gs, .b s2)] ∧ Full s1 xs k ∧ Less s2 xs k ∧ Short s1 k ∧ Short s2 k)) (fun i _ => xs.length - (intOf i).toNat)
      case atStart => exact ⟨0, Nat.zero_le _, rfl, K1, K2, _, _, HH2.out, HFu.out, HLs.out, HSh.out.1, HSh.out.2⟩
      case round =>
        clear HH2 HFu HLs HSh
        obtain ⟨k2, hk2, rfl, HQ⟩ := hrel
        obtain ⟨K1, K2, s1, s2, hH, hF, hL, hS1, hS2⟩ := HQ.out
        have HH := hide hH
        have HF := hide hF
        have HL := hide hL
        have HS1 := hide hS1
        have HS2 := hide hS2
        clear HQ hH hF hL hS1 hS2
        by_cases hlt2 : k2 < xs.length
        case pos =>
          obtain ⟨x, hx⟩ : ∃ x, xs[k2]? = some x := ⟨xs[k2], by simp [hlt2]⟩
          obtain ⟨b, of, hab, hc0, hc1, hc2⟩ := HOPS.out k2 x hx
          obtain ⟨hn0, hn1, hn2⟩ := HB.out x (List.mem_of_getElem? hx)
          subst hab
          have HKeep : Hid (∀ w' : World, Below w.heap.size w w' → w'.cell? ⟨b, of + k2 * 3, none⟩ = some (.int .i64 x.w) ∧ w'.cell? ⟨b, of + k2 * 3 + 1, none⟩ = some (.int .i64 x.n) ∧ w'.cell? ⟨b, of + k2 * 3 + 2, none⟩ = some (.string x.s)) := fun w' hb =>
            ⟨(hb.cell (World.block_lt_of_cell? _ _ hc0)).trans hc0, (hb.cell (World.block_lt_of_cell? _ _ hc1)).trans hc1, (hb.cell (World.block_lt_of_cell? _ _ hc2)).trans hc2⟩
          have HFn := hide (HF.out.step hx hn0 hn1)
          have HLn := hide (HL.out.step hx hn0 hn1)
          have HSn : Hid (Short (putSt s1 x) (k2 + 1) ∧ Short (putSt s2 x) (k2 + 1)) := ⟨HS1.out.step (putSt_len s1 x hn2), HS2.out.step (putSt_len s2 x hn2)⟩
          obtain ⟨q0, q1, q2⟩ := HKeep.out _ HH.out.bel
          clear hc0 hc1 hc2 hx
          go_wp2_with fail
          refine (put_any (HH.out.rep 0 _ rfl) x hn0 hn1 hn2 (HS1.out.le (by omega))).mono ?_
          rintro e w3 ⟨rfl, K3, hb3, hf3⟩
          have HH3 : Hid (Herd w w3 [(K3, g, .b (putSt s1 x)), (K2, gs, .b s2)]) := HH.out.op 0 rfl (x' := .b (putSt s1 x)) hb3 hf3
          clear hb3 hf3 q0 q1 q2
          obtain ⟨q0, q1, q2⟩ := HKeep.out _ HH3.out.bel
          go_wp2_with fail
          refine (put_any (HH3.out.rep 1 _ rfl) x hn0 hn1 hn2 (HS2.out.le (by omega))).mono ?_
          rintro e w4 ⟨rfl, K4, hb4, hf4⟩
          have HH4 : Hid (Herd w w4 [(K3, g, .b (putSt s1 x)), (K4, gs, .b (putSt s2 x))]) := HH3.out.op 1 rfl (x' := .b (putSt s2 x)) hb4 hf4
          clear hb4 hf4 q0 q1 q2
          go_wp2
          go_roundw
          case rel => exact ⟨k2 + 1, by omega, by go_num, K3, K4, _, _, HH4.out, HFn.out, HLn.out, HSn.out.1, HSn.out.2⟩
          case measure => simp [intOf]; omega
        case neg =>
          have HFe : Hid (s1.e = 0 ∧ s1.l = pre xs) := by
            obtain ⟨h1, _, h3⟩ := HF.out
            rw [List.take_of_length_le (by omega)] at h3
            exact ⟨h1, h3⟩
          have HLe : Hid (s2.e ≠ 0) := by
            intro h0
            obtain ⟨h1, h2, _⟩ := HL.out h0
            rw [List.take_of_length_le (by omega)] at h1
            rw [h1] at h2
            omega
          have hlm1 : s1.l.length ≤ 140737488351232 := Nat.le_trans (HS1.out.le (by omega)) (by omega)
          obtain ⟨t1, HT1⟩ : ∃ t, Hid (t = pre xs) := ⟨_, rfl⟩
          have HT1' : Hid (t1 = if s1.e = 0 then s1.l else []) := by show _ = _; rw [if_pos HFe.out.1, HFe.out.2]; exact HT1.out
          have HTl : Hid (t1.length = T) := by show _ = _; rw [HT1.out, HTt.out]
          have hTm : t1.length ≤ 140737488351232 := by have := HTl.out; omega
          obtain ⟨u1, HU1⟩ : ∃ u, Hid (BuV true wr K1 g u s1) := HH.out.rep 0 _ rfl
          go_wp2_with fail
          refine (btake_any HU1.out hlm1 t1 HT1'.out).mono ?_
          rintro e w5 ⟨a5, c5, rfl, ho5, hb5⟩
          have HH5 := hide (HH.out.below hb5)
          have HO5 := hide ho5
          clear ho5 hb5
          go_wp2_with fail
          refine (newCursor_any _ t1 w5 HO5.out.sb hTm).mono ?_
          rintro e w6 ⟨gc, uc, rfl, hr6, hb6⟩
          have HH6 := hide (HH5.out.below hb6)
          obtain ⟨X, HX⟩ : ∃ X : Nat → Prop, Hid (X = fun k => k = gc) := ⟨_, rfl⟩
          have HC6 : Hid (Cu X 68 w6 gc ⟨t1, 0, 0⟩) := hr6.cu hTm (by rw [HT1.out]; exact byt_pre xs) (by rw [HX.out]) (fun k h1 h2 => by rw [HX.out]; simp only []; omega)
          have HGc : Hid (w.heap.size ≤ gc) := Nat.le_trans HH5.out.bel.size hr6.a
          obtain ⟨v1, HV1⟩ : ∃ u, Hid (BuV true w6 K1 g u s1) := HH6.out.rep 0 _ rfl
          obtain ⟨v2, HV2⟩ : ∃ u, Hid (BuV true w6 K2 gs u s2) := HH6.out.rep 1 _ rfl
          have hne2 : (s2.e == 0) = false := by simpa using HLe.out
          have hTl := HTl.out
          clear hr6 hb6
          go_wp2_with fail
          refine (berr_any HV1.out).mono ?_
          rintro e w' ⟨rfl, hw⟩
          subst hw
          rw [HFe.out.1]
          go_wp2_with fail
          refine (num_any _ _).mono ?_
          rintro e w' ⟨rfl, hw⟩
          subst hw
          go_wp2_with fail
          refine (berr_any HV2.out).mono ?_
          rintro e w' ⟨rfl, hw⟩
          subst hw
          go_wp2_with fail
          refine (num_any _ _).mono ?_
          rintro e w' ⟨rfl, hw⟩
          subst hw
          have HBe := hide HH6.out.bel
          clear HH HH5 HH6 HV1 HV2 HU1 HF HL HS1 HS2
          go_wp2
          clear hTl
          go_loopw [10] (fun i wz => ∃ k : Nat, k ≤ xs.length ∧ i = .int .i64 k ∧ Hid (Cu X 68 wz gc ⟨t1, (pre (xs.take k)).length, 0⟩) ∧ Hid (Below w.heap.size w wz)) (fun i _ => xs.length - (intOf i).toNat)
          case atStart => exact ⟨0, Nat.zero_le _, rfl, HC6.out, HBe.out⟩
          case round =>
            clear HC6 HBe
            obtain ⟨k3, hk3, rfl, HC, HBl⟩ := hrel
            by_cases hlt3 : k3 < xs.length
            case pos =>
              obtain ⟨x, hx⟩ : ∃ x, xs[k3]? = some x := ⟨xs[k3], by simp [hlt3]⟩
              obtain ⟨b, of, hab, hc0, hc1, hc2⟩ := HOPS.out k3 x hx
              obtain ⟨hn0, hn1, hn2⟩ := HB.out x (List.mem_of_getElem? hx)
              subst hab
              have q0 := (HBl.out.cell (World.block_lt_of_cell? _ _ hc0)).trans hc0
              have q1 := (HBl.out.cell (World.block_lt_of_cell? _ _ hc1)).trans hc1
              have q2 := (HBl.out.cell (World.block_lt_of_cell? _ _ hc2)).trans hc2
              have hsp : t1 = pre (xs.take k3) ++ (encI x ++ pre (xs.drop (k3 + 1))) := by rw [HT1.out, pre_split xs (k3 + 1), pre_take hx, List.append_assoc]
              have hok : okN ⟨t1, (pre (xs.take k3)).length, 0⟩ ((encI x).length : Nat) := by
                refine ⟨rfl, by omega, ?_⟩
                show ((encI x).length : Int) ≤ (t1.length : Int) - ((pre (xs.take k3)).length : Int)
                rw [hsp]
                simp only [List.length_append]
                omega
              have HNx : Hid (nextL ⟨t1, (pre (xs.take k3)).length, 0⟩ ((encI x).length : Nat) = encI x) := by
                show _ = _
                rw [(nextL_ok hok).1]
                show (t1.drop (pre (xs.take k3)).length).take (encI x).length = encI x
                rw [hsp, List.drop_left, List.take_left]
              have HNs : Hid (nextSt ⟨t1, (pre (xs.take k3)).length, 0⟩ ((encI x).length : Nat) = ⟨t1, (pre (xs.take (k3 + 1))).length, 0⟩) := by
                show _ = _
                rw [nextSt_ok hok, pre_take hx, List.length_append]
                rfl
              clear hc0 hc1 hc2 hx hsp hok
              go_wp2_with fail
              refine (got_any HC.out x hn0 hn1 HNx.out HGc.out HBl.out.size).mono ?_
              rintro e w7 ⟨rfl, hc7, hb7⟩
              rw [HNs.out] at hc7
              have HC7 := hide hc7
              have HB7 : Hid (Below w.heap.size w w7) := HBl.out.trans hb7
              clear hc7 hb7 q0 q1 q2
              go_wp2
              go_roundw
              case rel => exact ⟨k3 + 1, by omega, by go_num, HC7.out, HB7.out⟩
              case measure => simp [intOf]; omega
            case neg =>
              have HCe : Hid (Cu X 68 wr gc ⟨t1, t1.length, 0⟩) := by
                have h := HC.out
                rw [List.take_of_length_le (by omega), ← HT1.out] at h
                exact h
              clear HC
              go_wp2_with fail
              refine (left_any HCe.out).mono ?_
              rintro e w8 ⟨rfl, q8, hw8⟩
              have HC8 : Hid (Cu X 68 w8 gc ⟨t1, t1.length, 0⟩) := by rw [hw8]; exact HCe.out
              have HB8 : Hid (Below w.heap.size w w8) := by rw [hw8]; exact below_drewN HBl.out _
              clear hw8
              have hz0 : ((t1.length : Int) - (t1.length : Int)) = 0 := by omega
              go_wp2_with fail
              refine (err_any HC8.out).mono ?_
              rintro e w' ⟨rfl, hw⟩
              subst hw
              go_wp2_with fail
              refine (num_any _ _).mono ?_
              rintro e w' ⟨rfl, hw⟩
              subst hw
              go_wp2
              go_ret
              exact ⟨rfl, HB8.out⟩
end Go.Proofs.Ythjgabncifghaab
