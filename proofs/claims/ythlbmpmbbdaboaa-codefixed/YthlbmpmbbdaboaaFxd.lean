import Derived.Test.YthlbmpmbbdaboaaRpt
namespace Go.Proofs.Ythlbmpmbbdaboaa
open Go.RowKit Go.Maps
set_option maxRecDepth 20000

theorem hfresh {W w w' : World} {xs : List ((Nat → Nat) × Thing)} (H : Herd W w xs) {l : List Int} {e : Ending} (h : Fresh w l e w') : ∃ a c K, e = .returned (.slice a l.length c) ∧ Herd W w' (xs ++ [(K, ti (.slice a l.length c) l)]) := by
  obtain ⟨a, c, rfl, ho, hb⟩ := h
  obtain ⟨K, hh⟩ := H.ilist hb ho
  exact ⟨a, c, K, rfl, hh⟩

theorem hflit {W w : World} {xs : List ((Nat → Nat) × Thing)} (H : Herd W w xs) {L : List Int} (hL : L = fxL 288) :
    Calls Try.prog 9 #[] w fun e w' => ∃ a c K, e = .returned (.slice a L.length c) ∧ Herd W w' (xs ++ [(K, ti (.slice a L.length c) L)]) := by
  subst hL
  exact (fixedLit_any w).mono fun e w' h => hfresh H h

theorem hxflit {W w : World} {xs : List ((Nat → Nat) × Thing)} (H : Herd W w xs) {L : List Int} (hL : L = fxL 288) :
    Calls Try.prog 12 #[] w fun e w' => ∃ a c K, e = .returned (.slice a L.length c) ∧ Herd W w' (xs ++ [(K, ti (.slice a L.length c) L)]) := by
  subst hL
  exact (xfixedLit_any w).mono fun e w' h => hfresh H h

theorem hfdist {W w : World} {xs : List ((Nat → Nat) × Thing)} (H : Herd W w xs) {D : List Int} (hD : D = List.replicate 32 5) :
    Calls Try.prog 10 #[] w fun e w' => ∃ a c K, e = .returned (.slice a D.length c) ∧ Herd W w' (xs ++ [(K, ti (.slice a D.length c) D)]) := by
  subst hD
  exact (fixedDist_any w).mono fun e w' h => hfresh H h

theorem hxfdist {W w : World} {xs : List ((Nat → Nat) × Thing)} (H : Herd W w xs) {D : List Int} (hD : D = List.replicate 32 5) :
    Calls Try.prog 13 #[] w fun e w' => ∃ a c K, e = .returned (.slice a D.length c) ∧ Herd W w' (xs ++ [(K, ti (.slice a D.length c) D)]) := by
  subst hD
  exact (xfixedDist_any w).mono fun e w' h => hfresh H h

/-- A whole list spoilt. -/
theorem hspoil {W w : World} {xs : List ((Nat → Nat) × Thing)} (H : Herd W w xs) (i : Nat) {K : Nat → Nat} {a : Option Addr} {c : Nat} {L : List Int} (hi : xs[i]? = some (K, ti (.slice a L.length c) L)) (h0 : 0 < L.length) :
    Calls Try.prog 14 #[.slice a L.length c] w fun e w' => e = .returned (.tuple #[]) ∧ Herd W w' (xs.set i (K, ti (.slice a L.length c) (List.replicate L.length 9))) := by
  obtain ⟨g, c', hv, _, _, h1, h2⟩ := (H.ioi i hi).form h0
  have hv' := hv
  simp only [Value.slice.injEq] at hv'
  obtain ⟨rfl, -, rfl⟩ := hv'
  refine (spoil_any H i hi (some ⟨g, 0, none⟩) L.length c (Nat.le_refl _) h1 h2 (fun _ => ⟨g, c, rfl, rfl⟩)).mono ?_
  rintro e w1 ⟨rfl, hh⟩
  rw [List.drop_of_length_le (Nat.le_refl _), List.append_nil] at hh
  exact ⟨rfl, hh⟩

set_option maxHeartbeats 8000000 in
theorem fixed_walk (w : World) : Calls Try.prog 3 #[] w fun e w' => e = .returned (.bool true) ∧ Below w.heap.size w w' := by
  obtain ⟨L, HL⟩ : ∃ L, Hid (L = fxL 288) := ⟨_, rfl⟩
  obtain ⟨D, HD⟩ : ∃ D, Hid (D = List.replicate 32 (5 : Int)) := ⟨_, rfl⟩
  have hL : L.length = 288 := by rw [HL.out, fxL_len]
  have hD : D.length = 32 := by rw [HD.out, List.length_replicate]
  have HLL := hide hL
  have HDL := hide hD
  clear hL hD
  obtain ⟨N9, H9⟩ : ∃ N, Hid (N = List.replicate L.length (9 : Int)) := ⟨_, rfl⟩
  obtain ⟨M9, H9'⟩ : ∃ N, Hid (N = List.replicate D.length (9 : Int)) := ⟨_, rfl⟩
  have HN9 : Hid (N9.length = L.length) := by show _ = _; rw [H9.out, List.length_replicate]
  have HM9 : Hid (M9.length = D.length) := by show _ = _; rw [H9'.out, List.length_replicate]
  have H0 := hide (Herd.nil w)
  go_enter Try.func3, Try.ntmps3
  go_wp2_with fail
  refine (hflit H0.out HL.out).mono ?_
  rintro e w1 ⟨a1, c1, K1, rfl, h1⟩
  have H1 : Hid (Herd w w1 [(K1, ti (.slice a1 L.length c1) L)]) := h1
  clear h1
  go_wp2_with fail
  refine (hfdist H1.out HD.out).mono ?_
  rintro e w2 ⟨a2, c2, K2, rfl, h2⟩
  have H2 : Hid (Herd w w2 [(K1, ti (.slice a1 L.length c1) L), (K2, ti (.slice a2 D.length c2) D)]) := h2
  clear h2
  go_wp2_with fail
  refine (hflit H2.out HL.out).mono ?_
  rintro e w3 ⟨a3, c3, K3, rfl, h3⟩
  have H3 : Hid (Herd w w3 [(K1, ti (.slice a1 L.length c1) L), (K2, ti (.slice a2 D.length c2) D), (K3, ti (.slice a3 L.length c3) L)]) := h3
  clear h3
  go_wp2_with fail
  refine (hfdist H3.out HD.out).mono ?_
  rintro e w4 ⟨a4, c4, K4, rfl, h4⟩
  have H4 : Hid (Herd w w4 [(K1, ti (.slice a1 L.length c1) L), (K2, ti (.slice a2 D.length c2) D), (K3, ti (.slice a3 L.length c3) L), (K4, ti (.slice a4 D.length c4) D)]) := h4
  clear h4 H0 H1 H2 H3
  go_wp2_with fail
  refine (hxflit H4.out HL.out).mono ?_
  rintro e w5 ⟨a5, c5, K5, rfl, h5⟩
  have H5 : Hid (Herd w w5 [(K1, ti (.slice a1 L.length c1) L), (K2, ti (.slice a2 D.length c2) D), (K3, ti (.slice a3 L.length c3) L), (K4, ti (.slice a4 D.length c4) D), (K5, ti (.slice a5 L.length c5) L)]) := h5
  clear h5
  go_wp2_with fail
  refine (hsame H5.out _ _ L (H5.out.isi 0 rfl) (H5.out.isi 4 rfl)).mono ?_
  rintro e w6 ⟨rfl, h6⟩
  have H6 := hide h6
  clear h6
  go_wp2_with fail
  refine (hxfdist H6.out HD.out).mono ?_
  rintro e w7 ⟨a7, c7, K7, rfl, h7⟩
  have H7 : Hid (Herd w w7 [(K1, ti (.slice a1 L.length c1) L), (K2, ti (.slice a2 D.length c2) D), (K3, ti (.slice a3 L.length c3) L), (K4, ti (.slice a4 D.length c4) D), (K5, ti (.slice a5 L.length c5) L), (K7, ti (.slice a7 D.length c7) D)]) := h7
  clear h7
  go_wp2_with fail
  refine (hsame H7.out _ _ D (H7.out.isi 1 rfl) (H7.out.isi 5 rfl)).mono ?_
  rintro e w8 ⟨rfl, h8⟩
  have H8 := hide h8
  clear h8
  go_wp2_with fail
  refine (hsame H8.out _ _ L (H8.out.isi 2 rfl) (H8.out.isi 0 rfl)).mono ?_
  rintro e w9 ⟨rfl, h9⟩
  have H9w := hide h9
  clear h9
  go_wp2_with fail
  refine (hsame H9w.out _ _ D (H9w.out.isi 3 rfl) (H9w.out.isi 1 rfl)).mono ?_
  rintro e w10 ⟨rfl, h10⟩
  have H10 := hide h10
  clear h10 H4 H5 H6 H7 H8 H9w
  go_wp2_with fail
  refine (hspoil H10.out 0 rfl (by rw [HLL.out]; omega)).mono ?_
  rintro e w11 ⟨rfl, h11⟩
  rw [← H9.out] at h11
  have H11 : Hid (Herd w w11 [(K1, ti (.slice a1 L.length c1) N9), (K2, ti (.slice a2 D.length c2) D), (K3, ti (.slice a3 L.length c3) L), (K4, ti (.slice a4 D.length c4) D), (K5, ti (.slice a5 L.length c5) L), (K7, ti (.slice a7 D.length c7) D)]) := h11
  clear h11
  go_wp2_with fail
  refine (hspoil H11.out 1 rfl (by rw [HDL.out]; omega)).mono ?_
  rintro e w12 ⟨rfl, h12⟩
  rw [← H9'.out] at h12
  have H12 : Hid (Herd w w12 [(K1, ti (.slice a1 L.length c1) N9), (K2, ti (.slice a2 D.length c2) M9), (K3, ti (.slice a3 L.length c3) L), (K4, ti (.slice a4 D.length c4) D), (K5, ti (.slice a5 L.length c5) L), (K7, ti (.slice a7 D.length c7) D)]) := h12
  clear h12 H10 H11
  go_wp2_with fail
  refine (hflit H12.out HL.out).mono ?_
  rintro e w13 ⟨a13, c13, K13, rfl, h13⟩
  have H13 : Hid (Herd w w13 [(K1, ti (.slice a1 L.length c1) N9), (K2, ti (.slice a2 D.length c2) M9), (K3, ti (.slice a3 L.length c3) L), (K4, ti (.slice a4 D.length c4) D), (K5, ti (.slice a5 L.length c5) L), (K7, ti (.slice a7 D.length c7) D), (K13, ti (.slice a13 L.length c13) L)]) := h13
  clear h13
  go_wp2_with fail
  refine (hfdist H13.out HD.out).mono ?_
  rintro e w14 ⟨a14, c14, K14, rfl, h14⟩
  have H14 : Hid (Herd w w14 [(K1, ti (.slice a1 L.length c1) N9), (K2, ti (.slice a2 D.length c2) M9), (K3, ti (.slice a3 L.length c3) L), (K4, ti (.slice a4 D.length c4) D), (K5, ti (.slice a5 L.length c5) L), (K7, ti (.slice a7 D.length c7) D), (K13, ti (.slice a13 L.length c13) L), (K14, ti (.slice a14 D.length c14) D)]) := h14
  clear h14 H12 H13
  go_wp2_with fail
  refine (hxflit H14.out HL.out).mono ?_
  rintro e w15 ⟨a15, c15, K15, rfl, h15⟩
  have H15 : Hid (Herd w w15 [(K1, ti (.slice a1 L.length c1) N9), (K2, ti (.slice a2 D.length c2) M9), (K3, ti (.slice a3 L.length c3) L), (K4, ti (.slice a4 D.length c4) D), (K5, ti (.slice a5 L.length c5) L), (K7, ti (.slice a7 D.length c7) D), (K13, ti (.slice a13 L.length c13) L), (K14, ti (.slice a14 D.length c14) D), (K15, ti (.slice a15 L.length c15) L)]) := h15
  clear h15 H14
  go_wp2_with fail
  refine (hsame H15.out _ _ L (H15.out.isi 2 rfl) (H15.out.isi 8 rfl)).mono ?_
  rintro e w16 ⟨rfl, h16⟩
  have H16 := hide h16
  clear h16 H15
  go_wp2_with fail
  refine (hxfdist H16.out HD.out).mono ?_
  rintro e w17 ⟨a17, c17, K17, rfl, h17⟩
  have H17 : Hid (Herd w w17 [(K1, ti (.slice a1 L.length c1) N9), (K2, ti (.slice a2 D.length c2) M9), (K3, ti (.slice a3 L.length c3) L), (K4, ti (.slice a4 D.length c4) D), (K5, ti (.slice a5 L.length c5) L), (K7, ti (.slice a7 D.length c7) D), (K13, ti (.slice a13 L.length c13) L), (K14, ti (.slice a14 D.length c14) D), (K15, ti (.slice a15 L.length c15) L), (K17, ti (.slice a17 D.length c17) D)]) := h17
  clear h17 H16
  go_wp2_with fail
  refine (hsame H17.out _ _ D (H17.out.isi 3 rfl) (H17.out.isi 9 rfl)).mono ?_
  rintro e w18 ⟨rfl, h18⟩
  have H18 := hide h18
  clear h18 H17
  go_wp2_with fail
  refine (hsame H18.out _ _ L (H18.out.isi 6 rfl) (H18.out.isi 2 rfl)).mono ?_
  rintro e w19 ⟨rfl, h19⟩
  have H19 := hide h19
  clear h19 H18
  go_wp2_with fail
  refine (hsame H19.out _ _ D (H19.out.isi 7 rfl) (H19.out.isi 3 rfl)).mono ?_
  rintro e w20 ⟨rfl, h20⟩
  have H20 := hide h20
  clear h20 H19
  go_wp2_with fail
  refine (apart_herd H20.out 0 2 rfl rfl (by decide) (by rw [HN9.out, HLL.out]; omega) (by rw [HLL.out]; omega)).mono ?_
  rintro e w21 ⟨rfl, J1, J2, h21⟩
  have H21 := hide h21
  clear h21 H20
  go_wp2_with fail
  refine (apart_herd H21.out 1 3 rfl rfl (by decide) (by rw [HM9.out, HDL.out]; omega) (by rw [HDL.out]; omega)).mono ?_
  rintro e w22 ⟨rfl, J3, J4, h22⟩
  have H22 := hide h22
  clear h22 H21
  go_wp2_with fail
  refine (apart_herd H22.out 2 3 rfl rfl (by decide) (by rw [List.length_replicate, HLL.out]; omega) (by rw [List.length_replicate, HDL.out]; omega)).mono ?_
  rintro e w23 ⟨rfl, J5, J6, h23⟩
  have H23 := hide h23
  clear h23 H22
  go_wp2_with fail
  refine (apart_herd H23.out 2 6 rfl rfl (by decide) (by rw [List.length_replicate, List.length_replicate, HLL.out]; omega) (by rw [HLL.out]; omega)).mono ?_
  rintro e w24 ⟨rfl, J7, J8, h24⟩
  have H24 := hide h24
  clear h24 H23
  go_wp2_with fail
  refine (apart_herd H24.out 3 7 rfl rfl (by decide) (by rw [List.length_replicate, List.length_replicate, HDL.out]; omega) (by rw [HDL.out]; omega)).mono ?_
  rintro e w25 ⟨rfl, J9, J10, h25⟩
  have HB := hide h25.bel
  clear h25 H24
  go_wp2
  go_ret
  exact ⟨rfl, HB.out⟩
end Go.Proofs.Ythlbmpmbbdaboaa
