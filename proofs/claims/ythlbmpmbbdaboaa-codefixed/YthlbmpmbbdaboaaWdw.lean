import Derived.Test.YthlbmpmbbdaboaaCpy
import Derived.Test.YthlbmpmbbdaboaaApr
import Derived.Test.YthlbmpmbbdaboaaXck
namespace Go.Proofs.Ythlbmpmbbdaboaa
open Go.RowKit Go.Maps
set_option maxRecDepth 20000

theorem cd122 : cdE [1, 2, 2] = 0 ∧ cdL [1, 2, 2] = [0, 2, 3] := by decide +kernel

theorem cdL_len (l : List Int) : (cdL l).length ≤ 288 := by
  unfold cdL
  by_cases h : cdE l = 0
  · rw [if_pos h, wds_len]
    have hc : chkE l = 0 := by
      unfold cdE at h
      by_cases e : chkE l = 0
      · exact e
      · rw [if_pos e] at h; exact absurd h e
    exact (chkE_zero hc).1.1
  · rw [if_neg h]; simp

theorem built_si4 (w : World) (cs : List Int) (h : cs.length ≤ 1000) : SI (w.alloc (.cells (cs.map (Value.int .i64)).toArray 3)) (.slice (some ⟨w.heap.size, 0, none⟩) cs.length cs.length) cs := by
  refine ⟨_, _, rfl, Nat.le_refl _, by unfold maxLen; omega, (fun h => by cases h), fun x hx i hi => ?_⟩
  cases hx
  rw [Addr.add_lit, cell_of_row _ _ _ _ _ _ (heap_alloc_new w _)]
  simp [hi]

theorem hcodes {W w : World} {xs : List ((Nat → Nat) × Thing)} (H : Herd W w xs) (v : Value) (l : List Int) (h : SI w v l) :
    Calls Try.prog 16 #[v] w fun e w' => ∃ a c K, e = .returned (.tuple #[.slice a (cdL l).length c, .int .i64 (cdE l)]) ∧ Herd W w' (xs ++ [(K, ti (.slice a (cdL l).length c) (cdL l))]) := by
  refine (codes_any v l w h).mono ?_
  rintro e w1 ⟨a, c, rfl, ho, hb⟩
  obtain ⟨K, hh⟩ := H.ilist hb ho
  exact ⟨a, c, K, rfl, hh⟩

theorem hxcodes {W w : World} {xs : List ((Nat → Nat) × Thing)} (H : Herd W w xs) (v : Value) (l : List Int) (h : SI w v l) :
    Calls Try.prog 24 #[v] w fun e w' => ∃ a c K, e = .returned (.tuple #[.slice a (cdL l).length c, .int .i64 (cdE l)]) ∧ Herd W w' (xs ++ [(K, ti (.slice a (cdL l).length c) (cdL l))]) := by
  refine (xcodes_any v l w h).mono ?_
  rintro e w1 ⟨a, c, rfl, ho, hb⟩
  obtain ⟨K, hh⟩ := H.ilist hb ho
  exact ⟨a, c, K, rfl, hh⟩

theorem hsame {W w : World} {xs : List ((Nat → Nat) × Thing)} (H : Herd W w xs) (v1 v2 : Value) (l : List Int) (h1 : SI w v1 l) (h2 : SI w v2 l) :
    Calls Try.prog 11 #[v1, v2] w fun e w' => e = .returned (.bool true) ∧ Herd W w' xs := by
  refine (isame_any v1 v2 l l w h1 h2).mono ?_
  rintro e w1 ⟨rfl, n, rfl⟩
  exact ⟨by simp [eqI], H.drewN n⟩

theorem hwhole {W w : World} {xs : List ((Nat → Nat) × Thing)} (H : Herd W w xs) (i : Nat) {K : Nat → Nat} {u : Value} {l : List Int} (hi : xs[i]? = some (K, ti u (l ++ mk3))) (v : Value) (hs : SI w v l) (hr : l.length ≤ 17592186043904) :
    Calls Try.prog 23 #[u, v] w fun e w' => e = .returned (.bool true) ∧ Herd W w' xs := by
  refine (whole_any u v l w 0 (H.ioi i hi) hs hr).mono ?_
  rintro e w1 ⟨rfl, n, rfl⟩
  exact ⟨rfl, H.drewN n⟩

set_option maxHeartbeats 8000000 in
theorem words_walk (v : Value) (l : List Int) (w : World) (h : SI w v l) (hr : l.length ≤ 17592186043904) :
    Calls Try.prog 6 #[v] w fun e w' => e = .returned (.bool true) ∧ Below w.heap.size w w' := by
  have HS := hide h
  obtain ⟨ao, cap, rfl, hlc, hcm⟩ := h.open
  clear h
  obtain ⟨C, HC⟩ : ∃ C, Hid (C = cdL l) := ⟨_, rfl⟩
  have hC : C.length ≤ 288 := by rw [HC.out]; exact cdL_len l
  obtain ⟨eC, HE⟩ : ∃ e, Hid (e = cdE l) := ⟨_, rfl⟩
  obtain ⟨X, HX⟩ : ∃ X, Hid (X = cdL l.reverse) := ⟨_, rfl⟩
  have hX : X.length ≤ 288 := by rw [HX.out]; exact cdL_len _
  obtain ⟨eX, HEX⟩ : ∃ e, Hid (e = cdE l.reverse) := ⟨_, rfl⟩
  have HCD := hide cd122
  have HL3 := hide (length_fr l)
  go_enter Try.func6, Try.ntmps6
  go_wp2_with fail
  refine (framed_any _ l w HS.out hr).mono ?_
  rintro e w1 ⟨v', rfl, hf, hb1⟩
  obtain ⟨g, c, hv, h1, h2, h3, h4, hsi⟩ := hf.form
  obtain ⟨KF, hh1⟩ := (Herd.nil w).ilist hb1 (show OI w1 w.heap.size v' (l ++ mk3) from hf)
  subst hv
  have H1 : Hid (Herd w w1 [(KF, ti (.slice (some ⟨g, 0, none⟩) (l.length + 3) c) (l ++ mk3))]) := hh1
  have HIN : Hid (∀ W, OI W 0 (.slice (some ⟨g, 0, none⟩) (l.length + 3) c) (l ++ mk3) → SI W (.slice (some ⟨g, 0, none⟩) l.length c) l) := fun W hW => OI.front (r := mk3) (by rw [length_fr]; exact hW)
  clear hf hb1 hsi hh1
  go_wp2_with fail
  refine (hcodes H1.out _ l (HIN.out _ (H1.out.ioi 0 rfl))).mono ?_
  rintro e w2 ⟨a1, c1, K1, rfl, hh⟩
  rw [← HC.out] at hh
  rw [← HC.out, ← HE.out]
  have H2 : Hid (Herd w w2 [(KF, ti (.slice (some ⟨g, 0, none⟩) (l.length + 3) c) (l ++ mk3)), (K1, ti (.slice a1 C.length c1) C)]) := hh
  clear hh H1
  go_wp2_with fail
  refine (hxcodes H2.out _ l (HS.out.below H2.out.bel)).mono ?_
  rintro e w3 ⟨a2, c2, K2, rfl, hh⟩
  rw [← HC.out] at hh
  rw [← HC.out, ← HE.out]
  have H3 : Hid (Herd w w3 [(KF, ti (.slice (some ⟨g, 0, none⟩) (l.length + 3) c) (l ++ mk3)), (K1, ti (.slice a1 C.length c1) C), (K2, ti (.slice a2 C.length c2) C)]) := hh
  clear hh H2
  go_wp2_with fail
  refine (num_any _ _).mono ?_
  rintro e wx ⟨rfl, hwx⟩
  subst hwx
  go_wp2_with fail
  refine (hsame H3.out _ _ C (H3.out.isi 1 rfl) (H3.out.isi 2 rfl)).mono ?_
  rintro e w4 ⟨rfl, hh⟩
  have H4 : Hid (Herd w w4 [(KF, ti (.slice (some ⟨g, 0, none⟩) (l.length + 3) c) (l ++ mk3)), (K1, ti (.slice a1 C.length c1) C), (K2, ti (.slice a2 C.length c2) C)]) := hh
  clear hh H3
  go_wp2_with fail
  refine (hwhole H4.out 0 rfl _ (HS.out.below H4.out.bel) hr).mono ?_
  rintro e w5 ⟨rfl, hh⟩
  have H5 : Hid (Herd w w5 [(KF, ti (.slice (some ⟨g, 0, none⟩) (l.length + 3) c) (l ++ mk3)), (K1, ti (.slice a1 C.length c1) C), (K2, ti (.slice a2 C.length c2) C)]) := hh
  clear hh H4
  go_wp2_with fail
  refine (hcodes H5.out _ l (HIN.out _ (H5.out.ioi 0 rfl))).mono ?_
  rintro e w6 ⟨a3, c3, K3, rfl, hh⟩
  rw [← HC.out] at hh
  rw [← HC.out, ← HE.out]
  have H6 : Hid (Herd w w6 [(KF, ti (.slice (some ⟨g, 0, none⟩) (l.length + 3) c) (l ++ mk3)), (K1, ti (.slice a1 C.length c1) C), (K2, ti (.slice a2 C.length c2) C), (K3, ti (.slice a3 C.length c3) C)]) := hh
  clear hh H5
  have HB6 : Hid (Herd w (w6.alloc (.cells #[.int .i64 1, .int .i64 2, .int .i64 2] 3)) [(KF, ti (.slice (some ⟨g, 0, none⟩) (l.length + 3) c) (l ++ mk3)), (K1, ti (.slice a1 C.length c1) C), (K2, ti (.slice a2 C.length c2) C), (K3, ti (.slice a3 C.length c3) C)]) := H6.out.below ((Below.refl _ _).alloc (Nat.le_refl _) _)
  have HSJ6 : Hid (SI (w6.alloc (.cells #[.int .i64 1, .int .i64 2, .int .i64 2] 3)) (.slice (some ⟨w6.heap.size, 0, none⟩) 3 3) [1, 2, 2]) := built_si4 w6 [1, 2, 2] (by simp)
  go_wp2_with fail
  refine (hcodes HB6.out _ [1, 2, 2] HSJ6.out).mono ?_
  rintro e w7 ⟨a4, c4, K4, rfl, hh⟩
  rw [HCD.out.2] at hh
  rw [HCD.out.1, HCD.out.2]
  have H7 : Hid (Herd w w7 [(KF, ti (.slice (some ⟨g, 0, none⟩) (l.length + 3) c) (l ++ mk3)), (K1, ti (.slice a1 C.length c1) C), (K2, ti (.slice a2 C.length c2) C), (K3, ti (.slice a3 C.length c3) C), (K4, ti (.slice a4 3 c4) [0, 2, 3])]) := hh
  clear hh H6
  go_wp2_with fail
  refine (hsame H7.out _ _ C (H7.out.isi 3 rfl) (H7.out.isi 2 rfl)).mono ?_
  rintro e w8 ⟨rfl, hh⟩
  have H8 : Hid (Herd w w8 [(KF, ti (.slice (some ⟨g, 0, none⟩) (l.length + 3) c) (l ++ mk3)), (K1, ti (.slice a1 C.length c1) C), (K2, ti (.slice a2 C.length c2) C), (K3, ti (.slice a3 C.length c3) C), (K4, ti (.slice a4 3 c4) [0, 2, 3])]) := hh
  clear hh H7
  go_wp2_with fail
  refine (hsame H8.out _ _ C (H8.out.isi 1 rfl) (H8.out.isi 2 rfl)).mono ?_
  rintro e w9 ⟨rfl, hh⟩
  have H9 : Hid (Herd w w9 [(KF, ti (.slice (some ⟨g, 0, none⟩) (l.length + 3) c) (l ++ mk3)), (K1, ti (.slice a1 C.length c1) C), (K2, ti (.slice a2 C.length c2) C), (K3, ti (.slice a3 C.length c3) C), (K4, ti (.slice a4 3 c4) [0, 2, 3])]) := hh
  clear hh H8
  have HA9 : Hid (Herd w (w9.alloc (.cells #[.int .i64 0, .int .i64 2, .int .i64 3] 3)) [(KF, ti (.slice (some ⟨g, 0, none⟩) (l.length + 3) c) (l ++ mk3)), (K1, ti (.slice a1 C.length c1) C), (K2, ti (.slice a2 C.length c2) C), (K3, ti (.slice a3 C.length c3) C), (K4, ti (.slice a4 3 c4) [0, 2, 3])]) := H9.out.below ((Below.refl _ _).alloc (Nat.le_refl _) _)
  have HSI9 : Hid (SI (w9.alloc (.cells #[.int .i64 0, .int .i64 2, .int .i64 3] 3)) (.slice (some ⟨w9.heap.size, 0, none⟩) 3 3) [0, 2, 3]) := built_si4 w9 [0, 2, 3] (by simp)
  go_wp2_with fail
  refine (hsame HA9.out _ _ [0, 2, 3] (HA9.out.isi 4 rfl) HSI9.out).mono ?_
  rintro e w10 ⟨rfl, hh⟩
  have H10 : Hid (Herd w w10 [(KF, ti (.slice (some ⟨g, 0, none⟩) (l.length + 3) c) (l ++ mk3)), (K1, ti (.slice a1 C.length c1) C), (K2, ti (.slice a2 C.length c2) C), (K3, ti (.slice a3 C.length c3) C), (K4, ti (.slice a4 3 c4) [0, 2, 3])]) := hh
  clear hh H9
  obtain ⟨-, hc11, hc12⟩ := (H10.out.ioi 1 rfl).capc
  have HSPA : Hid (0 < C.length → ∃ g c', Value.slice a1 C.length c1 = .slice (some ⟨g, 0, none⟩) C.length c' ∧ a1 = some ⟨g, 0, none⟩) := fun hp => by
    obtain ⟨g', c', hv, _⟩ := (H10.out.ioi 1 rfl).form hp
    simp only [Value.slice.injEq] at hv
    exact ⟨g', c1, by rw [hv.1], hv.1⟩
  obtain ⟨S, HSS⟩ : ∃ S, Hid (S = List.replicate C.length (9 : Int) ++ C.drop C.length) := ⟨_, rfl⟩
  have hS : S.length = C.length := by rw [HSS.out]; exact len_rep _ _ (Nat.le_refl _)
  go_wp2_with fail
  refine (spoil_any H10.out 1 rfl _ C.length c1 (Nat.le_refl _) hc11 hc12 HSPA.out).mono ?_
  rintro e w11 ⟨rfl, hh⟩
  rw [← HSS.out] at hh
  have H11 : Hid (Herd w w11 [(KF, ti (.slice (some ⟨g, 0, none⟩) (l.length + 3) c) (l ++ mk3)), (K1, ti (.slice a1 C.length c1) S), (K2, ti (.slice a2 C.length c2) C), (K3, ti (.slice a3 C.length c3) C), (K4, ti (.slice a4 3 c4) [0, 2, 3])]) := hh
  clear hh H10
  go_wp2_with fail
  refine (hcodes H11.out _ l (HIN.out _ (H11.out.ioi 0 rfl))).mono ?_
  rintro e w12 ⟨a5, c5, K5, rfl, hh⟩
  rw [← HC.out] at hh
  rw [← HC.out, ← HE.out]
  have H12 : Hid (Herd w w12 [(KF, ti (.slice (some ⟨g, 0, none⟩) (l.length + 3) c) (l ++ mk3)), (K1, ti (.slice a1 C.length c1) S), (K2, ti (.slice a2 C.length c2) C), (K3, ti (.slice a3 C.length c3) C), (K4, ti (.slice a4 3 c4) [0, 2, 3]), (K5, ti (.slice a5 C.length c5) C)]) := hh
  clear hh H11
  go_wp2_with fail
  refine (hsame H12.out _ _ C (H12.out.isi 3 rfl) (H12.out.isi 2 rfl)).mono ?_
  rintro e w13 ⟨rfl, hh⟩
  have H13 : Hid (Herd w w13 [(KF, ti (.slice (some ⟨g, 0, none⟩) (l.length + 3) c) (l ++ mk3)), (K1, ti (.slice a1 C.length c1) S), (K2, ti (.slice a2 C.length c2) C), (K3, ti (.slice a3 C.length c3) C), (K4, ti (.slice a4 3 c4) [0, 2, 3]), (K5, ti (.slice a5 C.length c5) C)]) := hh
  clear hh H12
  go_wp2_with fail
  refine (hsame H13.out _ _ C (H13.out.isi 5 rfl) (H13.out.isi 2 rfl)).mono ?_
  rintro e w14 ⟨rfl, hh⟩
  have H14 : Hid (Herd w w14 [(KF, ti (.slice (some ⟨g, 0, none⟩) (l.length + 3) c) (l ++ mk3)), (K1, ti (.slice a1 C.length c1) S), (K2, ti (.slice a2 C.length c2) C), (K3, ti (.slice a3 C.length c3) C), (K4, ti (.slice a4 3 c4) [0, 2, 3]), (K5, ti (.slice a5 C.length c5) C)]) := hh
  clear hh H13
  have HA14 : Hid (Herd w (w14.alloc (.cells #[.int .i64 0, .int .i64 2, .int .i64 3] 3)) [(KF, ti (.slice (some ⟨g, 0, none⟩) (l.length + 3) c) (l ++ mk3)), (K1, ti (.slice a1 C.length c1) S), (K2, ti (.slice a2 C.length c2) C), (K3, ti (.slice a3 C.length c3) C), (K4, ti (.slice a4 3 c4) [0, 2, 3]), (K5, ti (.slice a5 C.length c5) C)]) := H14.out.below ((Below.refl _ _).alloc (Nat.le_refl _) _)
  have HSI14 : Hid (SI (w14.alloc (.cells #[.int .i64 0, .int .i64 2, .int .i64 3] 3)) (.slice (some ⟨w14.heap.size, 0, none⟩) 3 3) [0, 2, 3]) := built_si4 w14 [0, 2, 3] (by simp)
  go_wp2_with fail
  refine (hsame HA14.out _ _ [0, 2, 3] (HA14.out.isi 4 rfl) HSI14.out).mono ?_
  rintro e w15 ⟨rfl, hh⟩
  have H15 : Hid (Herd w w15 [(KF, ti (.slice (some ⟨g, 0, none⟩) (l.length + 3) c) (l ++ mk3)), (K1, ti (.slice a1 C.length c1) S), (K2, ti (.slice a2 C.length c2) C), (K3, ti (.slice a3 C.length c3) C), (K4, ti (.slice a4 3 c4) [0, 2, 3]), (K5, ti (.slice a5 C.length c5) C)]) := hh
  clear hh H14
  go_wp2_with fail
  refine (hwhole H15.out 0 rfl _ (HS.out.below H15.out.bel) hr).mono ?_
  rintro e w16 ⟨rfl, hh⟩
  have H16 : Hid (Herd w w16 [(KF, ti (.slice (some ⟨g, 0, none⟩) (l.length + 3) c) (l ++ mk3)), (K1, ti (.slice a1 C.length c1) S), (K2, ti (.slice a2 C.length c2) C), (K3, ti (.slice a3 C.length c3) C), (K4, ti (.slice a4 3 c4) [0, 2, 3]), (K5, ti (.slice a5 C.length c5) C)]) := hh
  clear hh H15
  obtain ⟨R, HR⟩ : ∃ R, Hid (R = l.reverse) := ⟨_, rfl⟩
  have hRl : R.length = l.length := by rw [HR.out]; simp
  have HRLn := hide hRl
  have hrr : R.length ≤ 17592186043904 := by omega
  go_wp2_with fail
  refine (backward_any _ l _ (HS.out.below H16.out.bel) hr).mono ?_
  rintro e w17 ⟨a6, c6, rfl, ho6, hb6⟩
  obtain ⟨K6, hh⟩ := H16.out.ilist hb6 ho6
  rw [← HR.out] at hh
  have H17 : Hid (Herd w w17 [(KF, ti (.slice (some ⟨g, 0, none⟩) (l.length + 3) c) (l ++ mk3)), (K1, ti (.slice a1 C.length c1) S), (K2, ti (.slice a2 C.length c2) C), (K3, ti (.slice a3 C.length c3) C), (K4, ti (.slice a4 3 c4) [0, 2, 3]), (K5, ti (.slice a5 C.length c5) C), (K6, ti (.slice a6 l.length c6) R)]) := hh
  clear hh ho6 hb6 H16
  obtain ⟨cur, hcur⟩ : ∃ cur : List Value, w17.heap[g]? = some (.cells cur.toArray 3 (0, 0)) ∧ l.length ≤ cur.length := by
    rcases (H17.out.ioi 0 rfl).2 with ⟨hv, _⟩ | ⟨g', cp, cu, hv, _, hg', hn, _, hs, _⟩
    · simp at hv
    · simp only [Value.slice.injEq, Option.some.injEq, Addr.mk.injEq] at hv
      obtain ⟨⟨rfl, -, -⟩, -, -⟩ := hv
      refine ⟨cu.toList, by simpa using hg', ?_⟩
      have hls : cu.toList.length = cu.size := Array.length_toList
      rw [length_fr] at hn
      omega
  have HCU := hide hcur
  clear hcur
  have C1 : Hid ((R.map (Value.int .i64)).length = Nat.min l.length l.length) := by show _ = _; rw [List.length_map, HRLn.out]; simp
  have C2 : Hid (0 < (R.map (Value.int .i64)).length → ∃ ad, a6 = some ad ∧ ∀ j v, (R.map (Value.int .i64))[j]? = some v → w17.cell? (ad.add j) = some v) := by
    intro hp
    rw [List.length_map] at hp
    obtain ⟨g6, _, hv6, _⟩ := (H17.out.ioi 6 rfl).form hp
    simp only [Value.slice.injEq] at hv6
    refine ⟨_, hv6.1, fun j v hj => ?_⟩
    obtain ⟨hjl, rfl⟩ := List.getElem?_eq_some_iff.1 hj
    have hjl' : j < R.length := by simpa using hjl
    have := (H17.out.ioi 6 rfl).get (b := g6) (by rw [hv6.1]; rfl) hjl'
    rw [Addr.add_lit, Nat.zero_add, this]
    simp [hjl']
  have C3 : Hid (0 + (R.map (Value.int .i64)).length ≤ cur.length) := by show _ ≤ _; rw [List.length_map, HRLn.out]; have := HCU.out.2; omega
  have C4 : Hid (∀ v ∈ R.map (Value.int .i64), v.oneCell' = true) := by intro u hu; obtain ⟨n, _, rfl⟩ := List.mem_map.1 hu; rfl
  go_wp2_with (refine wpList_copy_gr rfl _ _ 22 22 rfl 3 Try.underlying22 sizeInt _ _ _ _ _ _ rfl rfl g 0 cur 3 HCU.out.1 (R.map (Value.int .i64)) C1.out (fun hp => ⟨rfl, C2.out hp⟩) C3.out C4.out ?_)
  intro w18 HG2 hg2
  have hh := H17.out.copyI 0 (L := l ++ mk3) (c := c) (g := g) (K := KF) (by rw [length_fr]; rfl) R (by rw [length_fr, HRLn.out]; omega) HCU.out.1 (unhide HG2) hg2
  have e0 : R ++ (l ++ mk3).drop R.length = R ++ mk3 := by rw [HRLn.out, List.drop_left]
  rw [e0, length_fr] at hh
  have H18 : Hid (Herd w w18 [(KF, ti (.slice (some ⟨g, 0, none⟩) (l.length + 3) c) (R ++ mk3)), (K1, ti (.slice a1 C.length c1) S), (K2, ti (.slice a2 C.length c2) C), (K3, ti (.slice a3 C.length c3) C), (K4, ti (.slice a4 3 c4) [0, 2, 3]), (K5, ti (.slice a5 C.length c5) C), (K6, ti (.slice a6 l.length c6) R)]) := hh
  have HIN2 : Hid (∀ W, OI W 0 (.slice (some ⟨g, 0, none⟩) (l.length + 3) c) (R ++ mk3) → SI W (.slice (some ⟨g, 0, none⟩) l.length c) R) := fun W hW => by
    have := OI.front (w := W) (base := 0) (g := g) (c := c) (l := R) (r := mk3) (by rw [length_fr, HRLn.out]; exact hW)
    rwa [HRLn.out] at this
  clear hh HG2 hg2 e0 C1 C2 C3 C4 HCU H17
  rw [← HR.out] at HX HEX
  go_wp2_with fail
  refine (hcodes H18.out _ R (HIN2.out _ (H18.out.ioi 0 rfl))).mono ?_
  rintro e w19 ⟨a7, c7, K7, rfl, hh⟩
  rw [← HX.out] at hh
  rw [← HX.out, ← HEX.out]
  have H19 : Hid (Herd w w19 [(KF, ti (.slice (some ⟨g, 0, none⟩) (l.length + 3) c) (R ++ mk3)), (K1, ti (.slice a1 C.length c1) S), (K2, ti (.slice a2 C.length c2) C), (K3, ti (.slice a3 C.length c3) C), (K4, ti (.slice a4 3 c4) [0, 2, 3]), (K5, ti (.slice a5 C.length c5) C), (K6, ti (.slice a6 l.length c6) R), (K7, ti (.slice a7 X.length c7) X)]) := hh
  clear hh H18
  go_wp2_with fail
  refine (hxcodes H19.out _ R (H19.out.isi 6 rfl)).mono ?_
  rintro e w20 ⟨a8, c8, K8, rfl, hh⟩
  rw [← HX.out] at hh
  rw [← HX.out, ← HEX.out]
  have H20 : Hid (Herd w w20 [(KF, ti (.slice (some ⟨g, 0, none⟩) (l.length + 3) c) (R ++ mk3)), (K1, ti (.slice a1 C.length c1) S), (K2, ti (.slice a2 C.length c2) C), (K3, ti (.slice a3 C.length c3) C), (K4, ti (.slice a4 3 c4) [0, 2, 3]), (K5, ti (.slice a5 C.length c5) C), (K6, ti (.slice a6 l.length c6) R), (K7, ti (.slice a7 X.length c7) X), (K8, ti (.slice a8 X.length c8) X)]) := hh
  clear hh H19
  go_wp2_with fail
  refine (hsame H20.out _ _ X (H20.out.isi 7 rfl) (H20.out.isi 8 rfl)).mono ?_
  rintro e w21 ⟨rfl, hh⟩
  have H21 : Hid (Herd w w21 [(KF, ti (.slice (some ⟨g, 0, none⟩) (l.length + 3) c) (R ++ mk3)), (K1, ti (.slice a1 C.length c1) S), (K2, ti (.slice a2 C.length c2) C), (K3, ti (.slice a3 C.length c3) C), (K4, ti (.slice a4 3 c4) [0, 2, 3]), (K5, ti (.slice a5 C.length c5) C), (K6, ti (.slice a6 l.length c6) R), (K7, ti (.slice a7 X.length c7) X), (K8, ti (.slice a8 X.length c8) X)]) := hh
  clear hh H20
  go_wp2_with fail
  refine (num_any _ _).mono ?_
  rintro e wx ⟨rfl, hwx⟩
  subst hwx
  go_wp2_with fail
  refine (hsame H21.out _ _ C (H21.out.isi 3 rfl) (H21.out.isi 2 rfl)).mono ?_
  rintro e w22 ⟨rfl, hh⟩
  have H22 : Hid (Herd w w22 [(KF, ti (.slice (some ⟨g, 0, none⟩) (l.length + 3) c) (R ++ mk3)), (K1, ti (.slice a1 C.length c1) S), (K2, ti (.slice a2 C.length c2) C), (K3, ti (.slice a3 C.length c3) C), (K4, ti (.slice a4 3 c4) [0, 2, 3]), (K5, ti (.slice a5 C.length c5) C), (K6, ti (.slice a6 l.length c6) R), (K7, ti (.slice a7 X.length c7) X), (K8, ti (.slice a8 X.length c8) X)]) := hh
  clear hh H21
  go_wp2_with fail
  refine (hwhole H22.out 0 rfl _ (H22.out.isi 6 rfl) hrr).mono ?_
  rintro e w23 ⟨rfl, hh⟩
  have H23 : Hid (Herd w w23 [(KF, ti (.slice (some ⟨g, 0, none⟩) (l.length + 3) c) (R ++ mk3)), (K1, ti (.slice a1 C.length c1) S), (K2, ti (.slice a2 C.length c2) C), (K3, ti (.slice a3 C.length c3) C), (K4, ti (.slice a4 3 c4) [0, 2, 3]), (K5, ti (.slice a5 C.length c5) C), (K6, ti (.slice a6 l.length c6) R), (K7, ti (.slice a7 X.length c7) X), (K8, ti (.slice a8 X.length c8) X)]) := hh
  clear hh H22
  go_wp2_with fail
  refine (apart_herd H23.out 1 3 rfl rfl (by decide) (by omega) (by omega)).mono ?_
  rintro e w24 ⟨rfl, Kx24, Ky24, hh⟩
  have H24 : Hid (Herd w w24 [(KF, ti (.slice (some ⟨g, 0, none⟩) (l.length + 3) c) (R ++ mk3)), (Kx24, ti (.slice a1 C.length c1) (List.replicate S.length 9)), (K2, ti (.slice a2 C.length c2) C), (Ky24, ti (.slice a3 C.length c3) (List.replicate C.length 8)), (K4, ti (.slice a4 3 c4) [0, 2, 3]), (K5, ti (.slice a5 C.length c5) C), (K6, ti (.slice a6 l.length c6) R), (K7, ti (.slice a7 X.length c7) X), (K8, ti (.slice a8 X.length c8) X)]) := hh
  clear hh H23
  go_wp2_with fail
  refine (apart_herd H24.out 3 5 rfl rfl (by decide) (by rw [List.length_replicate]; omega) (by omega)).mono ?_
  rintro e w25 ⟨rfl, Kx25, Ky25, hh⟩
  have H25 : Hid (Herd w w25 [(KF, ti (.slice (some ⟨g, 0, none⟩) (l.length + 3) c) (R ++ mk3)), (Kx24, ti (.slice a1 C.length c1) (List.replicate S.length 9)), (K2, ti (.slice a2 C.length c2) C), (Kx25, ti (.slice a3 C.length c3) (List.replicate (List.replicate C.length (8 : Int)).length 9)), (K4, ti (.slice a4 3 c4) [0, 2, 3]), (Ky25, ti (.slice a5 C.length c5) (List.replicate C.length 8)), (K6, ti (.slice a6 l.length c6) R), (K7, ti (.slice a7 X.length c7) X), (K8, ti (.slice a8 X.length c8) X)]) := hh
  clear hh H24
  go_wp2_with fail
  refine (apart_herd H25.out 5 4 rfl rfl (by decide) (by rw [List.length_replicate]; omega) (by simp)).mono ?_
  rintro e w26 ⟨rfl, Kx26, Ky26, hh⟩
  have H26 : Hid (Herd w w26 [(KF, ti (.slice (some ⟨g, 0, none⟩) (l.length + 3) c) (R ++ mk3)), (Kx24, ti (.slice a1 C.length c1) (List.replicate S.length 9)), (K2, ti (.slice a2 C.length c2) C), (Kx25, ti (.slice a3 C.length c3) (List.replicate (List.replicate C.length (8 : Int)).length 9)), (Ky26, ti (.slice a4 3 c4) (List.replicate ([0, 2, 3] : List Int).length 8)), (Kx26, ti (.slice a5 C.length c5) (List.replicate (List.replicate C.length (8 : Int)).length 9)), (K6, ti (.slice a6 l.length c6) R), (K7, ti (.slice a7 X.length c7) X), (K8, ti (.slice a8 X.length c8) X)]) := hh
  clear hh H25
  go_wp2_with fail
  refine (apart_herd H26.out 4 7 rfl rfl (by decide) (by simp) (by omega)).mono ?_
  rintro e w27 ⟨rfl, Kx27, Ky27, hh⟩
  have H27 : Hid (Herd w w27 [(KF, ti (.slice (some ⟨g, 0, none⟩) (l.length + 3) c) (R ++ mk3)), (Kx24, ti (.slice a1 C.length c1) (List.replicate S.length 9)), (K2, ti (.slice a2 C.length c2) C), (Kx25, ti (.slice a3 C.length c3) (List.replicate (List.replicate C.length (8 : Int)).length 9)), (Kx27, ti (.slice a4 3 c4) (List.replicate (List.replicate ([0, 2, 3] : List Int).length (8 : Int)).length 9)), (Kx26, ti (.slice a5 C.length c5) (List.replicate (List.replicate C.length (8 : Int)).length 9)), (K6, ti (.slice a6 l.length c6) R), (Ky27, ti (.slice a7 X.length c7) (List.replicate X.length 8)), (K8, ti (.slice a8 X.length c8) X)]) := hh
  clear hh H26
  have HFB := hide H27.out.bel
  clear H27
  go_wp2
  go_ret
  exact ⟨rfl, HFB.out⟩
end Go.Proofs.Ythlbmpmbbdaboaa
