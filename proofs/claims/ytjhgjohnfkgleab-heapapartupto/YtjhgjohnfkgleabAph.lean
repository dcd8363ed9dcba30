import Derived.Test.YtjhgjohnfkgleabApt
namespace Go.Proofs.Ytjhgjohnfkgleab
open Go.RowKit Go.Maps
set_option maxRecDepth 20000

theorem Herd.putG {W w : World} {xs : List ((Nat → Nat) × Thing)} (H : Herd W w xs) (i : Nat) {K : Nat → Nat} {g n c : Nat} {l : List Int} (hi : xs[i]? = some (K, tl (.slice (some ⟨g, 0, none⟩) n c) l)) {k : Nat} (hk : k < l.length) (m : Int) :
    Herd W (w.setCell ⟨g, k, none⟩ (.int .i64 m)) (xs.set i (K, tl (.slice (some ⟨g, 0, none⟩) n c) (l.set k m))) := by
  obtain ⟨g', e, _, _, _, h⟩ := H.putL i hi hk m
  simp only [Option.some.injEq, Addr.mk.injEq] at e
  obtain ⟨rfl, -, -⟩ := e
  exact h

theorem Herd.ne {W w : World} {xs : List ((Nat → Nat) × Thing)} (H : Herd W w xs) (i j : Nat) {d e : (Nat → Nat) × Thing} (hi : xs[i]? = some d) (hj : xs[j]? = some e) (hij : i ≠ j) {g g' : Nat} (h : d.1 g ≠ 0) (h' : e.1 g' ≠ 0) : ¬ g = g' := fun q => by
  subst q
  exact h' (H.sep i j d e hi hj hij g h)

def pk7 : Nat → Nat
  | 0 => 3
  | 1 => 7
  | 2 => 4
  | 3 => 8
  | 4 => 5
  | 5 => 6
  | _ => 11

theorem pk7_inj : ∀ i, i < 7 → ∀ j, j < 7 → pk7 i = pk7 j → i = j := by decide

set_option maxHeartbeats 8000000 in
theorem heapApart_walk (v : Value) (keys : List Int) (w : World) (hs : SI w v keys) (hn : keys.length ≤ 1048576) :
    Calls Try.prog 6 #[v] w fun e w' => e = .returned (.bool true) ∧ Below w.heap.size w w' := by
  have HS := hide hs
  obtain ⟨a0, c0, rfl⟩ := hs.len
  clear hs
  go_enter Try.func6, Try.ntmps6
  go_wp2_with fail
  refine (roomy_any _ keys w HS.out (by omega)).mono ?_
  rintro e w1 ⟨v1, rfl, -, o1, s1, b1⟩
  obtain ⟨a1, c1, hv⟩ := o1.shape
  subst hv
  obtain ⟨K1, H1⟩ := (Herd.nil w).room b1 o1 s1
  have HH1 := hide H1
  clear H1 o1 s1 b1
  go_wp2_with fail
  refine (roomy_any _ keys w1 (HS.out.below HH1.out.bel) (by omega)).mono ?_
  rintro e w2 ⟨v2, rfl, -, o2, s2, b2⟩
  obtain ⟨a2, c2, hv⟩ := o2.shape
  subst hv
  obtain ⟨K2, H2⟩ := HH1.out.room b2 o2 s2
  have HH2 := hide H2
  clear H2 o2 s2 b2
  go_wp2_with fail
  refine (roomy_any _ keys w2 (HS.out.below HH2.out.bel) (by omega)).mono ?_
  rintro e w3 ⟨v3, rfl, -, o3, s3, b3⟩
  obtain ⟨a3, c3, hv⟩ := o3.shape
  subst hv
  obtain ⟨K3, H3⟩ := HH2.out.room b3 o3 s3
  have HH3 := hide H3
  clear H3 o3 s3 b3
  have HST : Hid (∃ lo, lo.length = keys.length ∧ Herd w w3 [(K1, troom (.slice a1 keys.length c1) keys), (K2, troom (.slice a2 keys.length c2) keys), (K3, troom (.slice a3 keys.length c3) lo)]) := ⟨keys, rfl, HH3.out⟩
  clear HH1 HH2 HH3
  go_wp2
  go_loopw [6] (fun i wr => ∃ k : Nat, i = .int .i64 k ∧ k ≤ keys.length ∧ Hid (∃ lo, lo.length = keys.length ∧ Herd w wr [(K1, troom (.slice a1 keys.length c1) keys), (K2, troom (.slice a2 keys.length c2) keys), (K3, troom (.slice a3 keys.length c3) lo)])) (fun i _ => keys.length - (intOf i).toNat)
  case atStart => exact ⟨0, rfl, Nat.zero_le _, HST.out⟩
  case round =>
    clear HST
    obtain ⟨k, rfl, hk, HR⟩ := hrel
    obtain ⟨lo0, hlo, H⟩ := HR.out
    by_cases hlt : k < keys.length
    · have hlt' : (k : Int) < (keys.length : Int) := by omega
      obtain ⟨j, hj⟩ : ∃ j, keys.length - 1 - k = j := ⟨_, rfl⟩
      have hji : (keys.length : Int) - 1 - (k : Int) = (j : Int) := by omega
      have hjl : j < keys.length := by omega
      obtain ⟨b, o, hab, hc⟩ := HS.out.cellAt H.bel (k := j) hjl
      obtain ⟨y, hy⟩ : ∃ y, keys.getD j 0 = y := ⟨_, rfl⟩
      rw [hy] at hc
      obtain ⟨g, rfl, ⟨u, hu⟩, hf, H'⟩ := H.putR 2 rfl (k := k) (by omega) y
      have HN : Hid (∃ lo, lo.length = keys.length ∧ Herd w (wr.setCell ⟨g, k, none⟩ (.int .i64 y)) [(K1, troom (.slice a1 keys.length c1) keys), (K2, troom (.slice a2 keys.length c2) keys), (K3, troom (.slice (some ⟨g, 0, none⟩) keys.length c3) lo)]) := ⟨lo0.set k y, by rw [List.length_set]; exact hlo, H'⟩
      subst hab
      clear H H' HR hj hy
      go_wp2
      go_roundw
      case rel => exact ⟨k + 1, by go_num, by omega, HN.out⟩
      case measure => simp [intOf]; omega
    · have hlt' : ¬ (k : Int) < (keys.length : Int) := by omega
      have HLO := hide hlo
      clear hlo HR hk hlt
      have hO := order_in _ keys wr (H.at_room 0 rfl).1 (by omega)
      go_wp2_with fail
      refine hO.mono ?_
      rintro e w4 ⟨a4, c4, rfl, o4, b4⟩
      obtain ⟨K4, H4⟩ := H.list b4 o4
      clear hO H o4 b4
      have hO := sortI_any _ _ keys keys w4 (H4.at_room 0 rfl).1 (H4.at_room 1 rfl).1 rfl (by omega)
      go_wp2_with fail
      refine hO.mono ?_
      rintro e w5 ⟨a5, c5, rfl, o5, b5⟩
      obtain ⟨K5, H5⟩ := H4.list b5 o5
      clear hO H4 o5 b5
      have hO := order_in (.slice a3 keys.length c3) lo0 w5 (H5.at_room 2 rfl).1 (by rw [HLO.out]; omega)
      rw [HLO.out] at hO
      go_wp2_with fail
      refine hO.mono ?_
      rintro e w6 ⟨a6, c6, rfl, o6, b6⟩
      obtain ⟨K6, H6⟩ := H5.list b6 o6
      clear hO H5 o6 b6
      have hO := sortI_any (.slice a3 keys.length c3) (.slice a2 keys.length c2) lo0 keys w6 (H6.at_room 2 rfl).1 (H6.at_room 1 rfl).1 HLO.out (by rw [HLO.out]; omega)
      rw [HLO.out] at hO
      go_wp2_with fail
      refine hO.mono ?_
      rintro e w7 ⟨a7, c7, rfl, o7, b7⟩
      obtain ⟨K7, H7⟩ := H6.list b7 o7
      clear hO H6 o7 b7
      have hO := order_in _ keys w7 (H7.at_room 0 rfl).1 (by omega)
      go_wp2_with fail
      refine hO.mono ?_
      rintro e w8 ⟨a8, c8, rfl, o8, b8⟩
      obtain ⟨K8, H8⟩ := H7.list b8 o8
      clear hO H7 o8 b8
      have hO := sortI_any _ _ keys keys w8 (H8.at_room 0 rfl).1 (H8.at_room 1 rfl).1 rfl (by omega)
      go_wp2_with fail
      refine hO.mono ?_
      rintro e w9 ⟨a9, c9, rfl, o9, b9⟩
      obtain ⟨K9, H9⟩ := H8.list b9 o9
      clear hO H8 o9 b9
      have p1 := spared_any _ keys.length w9 (H9.at_room 0 rfl).2 (by omega)
      have p2 := spared_any _ keys.length w9 (H9.at_room 1 rfl).2 (by omega)
      have p3 := spared_any (.slice a3 keys.length c3) keys.length w9 (by have := (H9.at_room 2 rfl).2; rw [HLO.out] at this; exact this) (by omega)
      have hE := equal_any _ _ (orderOf keys) (orderOf keys) w9 (H9.oi 3 rfl).sb (H9.oi 7 rfl).sb
      rw [eqB_self] at hE
      have HH9 := hide H9
      clear H9
      go_wp2_with fail
      refine p1.mono ?_
      rintro e w' ⟨rfl, rfl⟩
      go_wp2_with fail
      refine p2.mono ?_
      rintro e w' ⟨rfl, rfl⟩
      go_wp2_with fail
      refine p3.mono ?_
      rintro e w' ⟨rfl, rfl⟩
      go_wp2_with fail
      refine hE.mono ?_
      rintro e w10 ⟨rfl, n10, hw10⟩
      have H10 := HH9.out.drewN n10
      rw [← hw10] at H10
      have hE2 := equal_any _ _ (srt keys keys) (srt keys keys) w10 (H10.oi 4 rfl).sb (H10.oi 8 rfl).sb
      rw [eqB_self] at hE2
      have HH10 := hide H10
      clear H10 hE p1 p2 p3 HH9 hw10
      go_wp2_with fail
      refine hE2.mono ?_
      rintro e w11 ⟨rfl, n11, hw11⟩
      have H11 := HH10.out.drewN n11
      rw [← hw11] at H11
      have hI := ints_any _ (orderOf keys) w11 (H11.oi 7 rfl).sb (by rw [orderOf_len]; omega)
      have HH11 := hide H11
      clear H11 hE2 HH10 hw11
      go_wp2_with fail
      refine hI.mono ?_
      rintro e w12 ⟨v12, rfl, -, o12, b12⟩
      obtain ⟨a12, c12, hv⟩ := o12.shape
      rw [orderOf_len] at hv
      subst hv
      obtain ⟨K12, H12⟩ := HH11.out.list b12 o12
      have hI2 := ints_any _ (srt keys keys) w12 (H12.oi 8 rfl).sb (by rw [srt_len]; omega)
      have HH12 := hide H12
      clear H12 o12 b12 hI HH11
      go_wp2_with fail
      refine hI2.mono ?_
      rintro e w13 ⟨v13, rfl, -, o13, b13⟩
      obtain ⟨a13, c13, hv⟩ := o13.shape
      rw [srt_len] at hv
      subst hv
      obtain ⟨K13, H13⟩ := HH12.out.list b13 o13
      have HST : Hid (∃ lg lv lo l1 l3, (lg.length = keys.length ∧ lv.length = keys.length ∧ lo.length = keys.length ∧ l1.length = keys.length ∧ l3.length = keys.length) ∧ Herd w w13 [(K1, tl (.slice a1 keys.length c1) lg), (K2, tl (.slice a2 keys.length c2) lv), (K3, tl (.slice a3 keys.length c3) lo), (K4, tl (.slice a4 keys.length c4) l1), (K5, tl (.slice a5 keys.length c5) l3), (K6, tl (.slice a6 keys.length c6) (orderOf lo0)), (K7, tl (.slice a7 keys.length c7) (srt lo0 keys)), (K8, tl (.slice a8 keys.length c8) (orderOf keys)), (K9, tl (.slice a9 keys.length c9) (srt keys keys)), (K12, tl (.slice a12 keys.length c12) (orderOf keys)), (K13, tl (.slice a13 keys.length c13) (srt keys keys))]) :=
        ⟨_, _, _, _, _, ⟨rfl, rfl, HLO.out, orderOf_len keys, srt_len keys keys⟩, ((H13.unroom 0 rfl).unroom 1 rfl).unroom 2 rfl⟩
      clear H13 o13 b13 hI2 HH12
      go_wp2
      go_loopw [18] (fun i wr => ∃ k : Nat, i = .int .i64 k ∧ k ≤ keys.length ∧ Hid (∃ lg lv lo l1 l3, (lg.length = keys.length ∧ lv.length = keys.length ∧ lo.length = keys.length ∧ l1.length = keys.length ∧ l3.length = keys.length) ∧ Herd w wr [(K1, tl (.slice a1 keys.length c1) lg), (K2, tl (.slice a2 keys.length c2) lv), (K3, tl (.slice a3 keys.length c3) lo), (K4, tl (.slice a4 keys.length c4) l1), (K5, tl (.slice a5 keys.length c5) l3), (K6, tl (.slice a6 keys.length c6) (orderOf lo0)), (K7, tl (.slice a7 keys.length c7) (srt lo0 keys)), (K8, tl (.slice a8 keys.length c8) (orderOf keys)), (K9, tl (.slice a9 keys.length c9) (srt keys keys)), (K12, tl (.slice a12 keys.length c12) (orderOf keys)), (K13, tl (.slice a13 keys.length c13) (srt keys keys))])) (fun i _ => keys.length - (intOf i).toNat)
      case atStart => exact ⟨0, rfl, Nat.zero_le _, HST.out⟩
      case round =>
        clear HST hlt'
        obtain ⟨k, rfl, hk, HR⟩ := hrel
        obtain ⟨lg, lv, lo, l1, l3, ⟨e1, e2, e3, e4, e5⟩, H⟩ := HR.out
        by_cases hlt : k < keys.length
        · have hlt' : (k : Int) < (keys.length : Int) := by omega
          obtain ⟨g4, rfl, ⟨u4, hu4⟩, hf4, q4, _⟩ := H.putL 3 rfl (k := k) (by omega) (-7)
          obtain ⟨g5, rfl, ⟨u5, hu5⟩, hf5, q5, _⟩ := H.putL 4 rfl (k := k) (by omega) (-8)
          obtain ⟨g1, rfl, ⟨u1, hu1⟩, hf1, q1, _⟩ := H.putL 0 rfl (k := k) (by omega) (-9)
          obtain ⟨g2, rfl, ⟨u2, hu2⟩, hf2, q2, _⟩ := H.putL 1 rfl (k := k) (by omega) (-10)
          obtain ⟨g3, rfl, ⟨u3, hu3⟩, hf3, q3, _⟩ := H.putL 2 rfl (k := k) (by omega) (-11)
          have n45 := H.ne 3 4 rfl rfl (by decide) q4 q5
          have n41 := H.ne 3 0 rfl rfl (by decide) q4 q1
          have n42 := H.ne 3 1 rfl rfl (by decide) q4 q2
          have n43 := H.ne 3 2 rfl rfl (by decide) q4 q3
          have n54 := H.ne 4 3 rfl rfl (by decide) q5 q4
          have n51 := H.ne 4 0 rfl rfl (by decide) q5 q1
          have n52 := H.ne 4 1 rfl rfl (by decide) q5 q2
          have n53 := H.ne 4 2 rfl rfl (by decide) q5 q3
          have n14 := H.ne 0 3 rfl rfl (by decide) q1 q4
          have n15 := H.ne 0 4 rfl rfl (by decide) q1 q5
          have n12 := H.ne 0 1 rfl rfl (by decide) q1 q2
          have n13 := H.ne 0 2 rfl rfl (by decide) q1 q3
          have n24 := H.ne 1 3 rfl rfl (by decide) q2 q4
          have n25 := H.ne 1 4 rfl rfl (by decide) q2 q5
          have n21 := H.ne 1 0 rfl rfl (by decide) q2 q1
          have n23 := H.ne 1 2 rfl rfl (by decide) q2 q3
          have n34 := H.ne 2 3 rfl rfl (by decide) q3 q4
          have n35 := H.ne 2 4 rfl rfl (by decide) q3 q5
          have n31 := H.ne 2 0 rfl rfl (by decide) q3 q1
          have n32 := H.ne 2 1 rfl rfl (by decide) q3 q2
          have H' := ((((H.putG 3 rfl (k := k) (by omega) (-7)).putG 4 rfl (k := k) (by omega) (-8)).putG 0 rfl (k := k) (by omega) (-9)).putG 1 rfl (k := k) (by omega) (-10)).putG 2 rfl (k := k) (by omega) (-11)
          have HN : Hid (∃ lg lv lo l1 l3, (lg.length = keys.length ∧ lv.length = keys.length ∧ lo.length = keys.length ∧ l1.length = keys.length ∧ l3.length = keys.length) ∧ Herd w (((((wr.setCell ⟨g4, k, none⟩ (.int .i64 (-7))).setCell ⟨g5, k, none⟩ (.int .i64 (-8))).setCell ⟨g1, k, none⟩ (.int .i64 (-9))).setCell ⟨g2, k, none⟩ (.int .i64 (-10))).setCell ⟨g3, k, none⟩ (.int .i64 (-11))) [(K1, tl (.slice (some ⟨g1, 0, none⟩) keys.length c1) lg), (K2, tl (.slice (some ⟨g2, 0, none⟩) keys.length c2) lv), (K3, tl (.slice (some ⟨g3, 0, none⟩) keys.length c3) lo), (K4, tl (.slice (some ⟨g4, 0, none⟩) keys.length c4) l1), (K5, tl (.slice (some ⟨g5, 0, none⟩) keys.length c5) l3), (K6, tl (.slice a6 keys.length c6) (orderOf lo0)), (K7, tl (.slice a7 keys.length c7) (srt lo0 keys)), (K8, tl (.slice a8 keys.length c8) (orderOf keys)), (K9, tl (.slice a9 keys.length c9) (srt keys keys)), (K12, tl (.slice a12 keys.length c12) (orderOf keys)), (K13, tl (.slice a13 keys.length c13) (srt keys keys))]) :=
            ⟨lg.set k (-9), lv.set k (-10), lo.set k (-11), l1.set k (-7), l3.set k (-8), ⟨by rw [List.length_set]; exact e1, by rw [List.length_set]; exact e2, by rw [List.length_set]; exact e3, by rw [List.length_set]; exact e4, by rw [List.length_set]; exact e5⟩, H'⟩
          clear H H' HR e1 e2 e3 e4 e5 q1 q2 q3 q4 q5 HLO
          go_wp2
          go_roundw
          case rel => exact ⟨k + 1, by go_num, by omega, HN.out⟩
          case measure => simp [intOf]; omega
        · have hlt' : ¬ (k : Int) < (keys.length : Int) := by omega
          have hE := equal_any _ _ (orderOf keys) (orderOf keys) wr (H.oi 7 rfl).sb (H.oi 9 rfl).sb
          rw [eqB_self] at hE
          have HH := hide H
          have HE := hide (And.intro e1 (And.intro e4 e5))
          clear H HR hk hlt e1 e2 e3 e4 e5
          go_wp2_with fail
          refine hE.mono ?_
          rintro e w14 ⟨rfl, n14, hw14⟩
          have H14 := HH.out.drewN n14
          rw [← hw14] at H14
          have hE2 := equal_any _ _ (srt keys keys) (srt keys keys) w14 (H14.oi 8 rfl).sb (H14.oi 10 rfl).sb
          rw [eqB_self] at hE2
          have HH14 := hide H14
          clear hE H14 HH hw14
          go_wp2_with fail
          refine hE2.mono ?_
          rintro e w15 ⟨rfl, n15, hw15⟩
          have H15 := HH14.out.drewN n15
          rw [← hw15] at H15
          have HST : Hid (Herd w w15 [(K1, tl (.slice a1 keys.length c1) (upd keys.length lg 0)), (K2, tl (.slice a2 keys.length c2) lv), (K3, tl (.slice a3 keys.length c3) lo), (K4, tl (.slice a4 keys.length c4) l1), (K5, tl (.slice a5 keys.length c5) l3), (K6, tl (.slice a6 keys.length c6) (orderOf lo0)), (K7, tl (.slice a7 keys.length c7) (srt lo0 keys)), (K8, tl (.slice a8 keys.length c8) (orderOf keys)), (K9, tl (.slice a9 keys.length c9) (srt keys keys)), (K12, tl (.slice a12 keys.length c12) (orderOf keys)), (K13, tl (.slice a13 keys.length c13) (srt keys keys))]) := H15
          clear H15 hE2 HH14 hw15
          go_wp2
          go_loopw [19] (fun i wr => ∃ k : Nat, i = .int .i64 k ∧ k ≤ keys.length ∧ Hid (Herd w wr [(K1, tl (.slice a1 keys.length c1) (upd keys.length lg k)), (K2, tl (.slice a2 keys.length c2) lv), (K3, tl (.slice a3 keys.length c3) lo), (K4, tl (.slice a4 keys.length c4) l1), (K5, tl (.slice a5 keys.length c5) l3), (K6, tl (.slice a6 keys.length c6) (orderOf lo0)), (K7, tl (.slice a7 keys.length c7) (srt lo0 keys)), (K8, tl (.slice a8 keys.length c8) (orderOf keys)), (K9, tl (.slice a9 keys.length c9) (srt keys keys)), (K12, tl (.slice a12 keys.length c12) (orderOf keys)), (K13, tl (.slice a13 keys.length c13) (srt keys keys))])) (fun i _ => keys.length - (intOf i).toNat)
          case atStart => exact ⟨0, rfl, Nat.zero_le _, HST.out⟩
          case round =>
            clear HST hlt'
            obtain ⟨k, rfl, hk, HR⟩ := hrel
            have H := HR.out
            by_cases hlt : k < keys.length
            · have hlt' : (k : Int) < (keys.length : Int) := by omega
              obtain ⟨g, rfl, ⟨u, hu⟩, hf, _, H'⟩ := H.putL 0 rfl (k := k) (by rw [upd_len HE.out.1 hk]; exact hlt) ((keys.length : Int) - (k : Int))
              rw [upd_set HE.out.1 hlt] at H'
              have HN := hide H'
              clear H H' HR
              go_wp2
              go_roundw
              case rel => exact ⟨k + 1, by go_num, by omega, HN.out⟩
              case measure => simp [intOf]; omega
            · have hlt' : ¬ (k : Int) < (keys.length : Int) := by omega
              obtain rfl : k = keys.length := by omega
              have HH : Hid (Herd w wr [(K1, tl (.slice a1 keys.length c1) (down keys.length)), (K2, tl (.slice a2 keys.length c2) lv), (K3, tl (.slice a3 keys.length c3) lo), (K4, tl (.slice a4 keys.length c4) l1), (K5, tl (.slice a5 keys.length c5) l3), (K6, tl (.slice a6 keys.length c6) (orderOf lo0)), (K7, tl (.slice a7 keys.length c7) (srt lo0 keys)), (K8, tl (.slice a8 keys.length c8) (orderOf keys)), (K9, tl (.slice a9 keys.length c9) (srt keys keys)), (K12, tl (.slice a12 keys.length c12) (orderOf keys)), (K13, tl (.slice a13 keys.length c13) (srt keys keys))]) := by have := H; rw [upd_end HE.out.1] at this; exact this
              have hO := order_in (.slice a1 keys.length c1) (down keys.length) wr (HH.out.oi 0 rfl).sb (by rw [down_len]; omega)
              rw [down_len] at hO
              clear H HR hk hlt
              go_wp2_with fail
              refine hO.mono ?_
              rintro e w16 ⟨a16, c16, rfl, o16, b16⟩
              obtain ⟨K16, H16⟩ := HH.out.list b16 o16
              have HH16 := hide H16
              clear H16 o16 b16 hO HH
              go_wp2
              go_loopw [21] (fun i wr => ∃ k : Nat, i = .int .i64 k ∧ k ≤ keys.length ∧ wr = w16) (fun i _ => keys.length - (intOf i).toNat)
              case atStart => exact ⟨0, rfl, Nat.zero_le _, rfl⟩
              case round =>
                clear hlt'
                obtain ⟨k, rfl, hk, hw⟩ := hrel
                subst hw
                by_cases hlt : k < keys.length
                · have hlt' : (k : Int) < (keys.length : Int) := by omega
                  obtain ⟨b, o, rfl, hc⟩ := (HH16.out.oi 11 rfl).sb.nth (k := k) (by rw [orderOf_len, down_len]; exact hlt)
                  rw [order_down_get hlt] at hc
                  go_wp2
                  go_roundw
                  case rel => exact ⟨k + 1, by go_num, by omega, trivial⟩
                  case measure => simp [intOf]; omega
                · have hlt' : ¬ (k : Int) < (keys.length : Int) := by omega
                  have hP : Herd w wr [(K4, tl (.slice a4 keys.length c4) l1), (K8, tl (.slice a8 keys.length c8) (orderOf keys)), (K5, tl (.slice a5 keys.length c5) l3), (K9, tl (.slice a9 keys.length c9) (srt keys keys)), (K6, tl (.slice a6 keys.length c6) (orderOf lo0)), (K7, tl (.slice a7 keys.length c7) (srt lo0 keys)), (K16, tl (.slice a16 keys.length c16) (orderOf (down keys.length)))] := HH16.out.pick pk7 (fun i d h => by
                    match i, h with
                    | 0, h => exact h
                    | 1, h => exact h
                    | 2, h => exact h
                    | 3, h => exact h
                    | 4, h => exact h
                    | 5, h => exact h
                    | 6, h => exact h
                    | i + 7, h => simp at h) (fun i j hi hj => pk7_inj i hi j hj)
                  have hF := Fam.of (ls := [(.slice a4 keys.length c4, l1), (.slice a8 keys.length c8, orderOf keys), (.slice a5 keys.length c5, l3), (.slice a9 keys.length c9, srt keys keys), (.slice a6 keys.length c6, orderOf lo0), (.slice a7 keys.length c7, srt lo0 keys), (.slice a16 keys.length c16, orderOf (down keys.length))]) hP rfl (fun j p h => by
                    match j, h with
                    | 0, h => cases h; exact ⟨_, rfl⟩
                    | 1, h => cases h; exact ⟨_, rfl⟩
                    | 2, h => cases h; exact ⟨_, rfl⟩
                    | 3, h => cases h; exact ⟨_, rfl⟩
                    | 4, h => cases h; exact ⟨_, rfl⟩
                    | 5, h => cases h; exact ⟨_, rfl⟩
                    | 6, h => cases h; exact ⟨_, rfl⟩
                    | j + 7, h => simp at h)
                  have hW := own_walk w _ wr.heap.size _ hF (by simp) (by
                    intro p hp
                    have E := HE.out
                    have E2 := HLO.out
                    simp only [List.mem_cons, List.not_mem_nil, or_false] at hp
                    rcases hp with rfl | rfl | rfl | rfl | rfl | rfl | rfl <;> simp only [orderOf_len, srt_len, down_len] <;> omega)
                  have HWW := hide hW
                  clear hP hF hW HH16 HE HLO
                  go_wp2_with fail
                  refine HWW.out.mono ?_
                  rintro e w20 ⟨rfl, hb⟩
                  go_wp2
                  go_ret
                  exact ⟨rfl, hb⟩

end Go.Proofs.Ytjhgjohnfkgleab
