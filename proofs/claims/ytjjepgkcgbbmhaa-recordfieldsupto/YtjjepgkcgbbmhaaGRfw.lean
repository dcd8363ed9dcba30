import Derived.Test.YtjjepgkcgbbmhaaGRfn
import Derived.Test.YtjjepgkcgbbmhaaGSpq
import Derived.Test.YtjjepgkcgbbmhaaGJxq
import Derived.Test.YtjjepgkcgbbmhaaGAlk
import Derived.Test.YtjjepgkcgbbmhaaGFit
namespace Go.Proofs.Ytjjepgkcgbbmhaa
open Go.RowKit Go.Maps
set_option maxRecDepth 20000
set_option linter.unusedVariables false
set_option linter.unusedSimpArgs false

theorem split_ok {d : List Int} {M : List Xf} (hB : Byt d) (h : spA d = (M, 0)) : ∀ r ∈ M, okX r := by
  unfold spA at h
  by_cases hb : 65535 < d.length
  · rw [if_pos hb] at h
    simp at h
  rw [if_neg hb] at h
  exact (join_spl _ [] d M hB (by omega) (fun x hx => absurd hx (by simp)) h).2

theorem ext_snoc2 {R : List Xf} {k : Nat} (h : k < R.length) : R.take (k + 1) = R.take k ++ [R.getD k xf0] := by
  rw [List.take_succ_eq_append_getElem h]
  simp [List.getD, h]

set_option maxHeartbeats 16000000 in
theorem fields_walk (v1 v2 : Value) (A B : List Xf) (s : ByteArray) (w : World) (h1 : SR 2 w v1 (A.map csX)) (h2 : SR 2 w v2 (B.map csX)) (hs : s.size ≤ 140737488351232) (n1 : A.length ≤ 1048576) (n2 : B.length ≤ 1048576) (o1 : ∀ r ∈ A, Ok64 r.1 ∧ r.2.size ≤ 9223372036854775807) (o2 : ∀ r ∈ B, Ok64 r.1 ∧ r.2.size ≤ 9223372036854775807) :
    Calls Try.prog 4 #[v1, v2, .string s] w fun e w' => e = .returned (.bool true) ∧ Below w.heap.size w w' := by
  have HA := hide h1
  have HBB := hide h2
  have HSs := hide hs
  have HO1 := hide o1
  have HO2 := hide o2
  obtain ⟨ca, pa, rfl, a1, a2⟩ := h1.open
  obtain ⟨cb, pb, rfl, b1, b2⟩ := h2.open
  have ela : (A.map csX).length = A.length := List.length_map ..
  have elb : (B.map csX).length = B.length := List.length_map ..
  rw [ela] at HA a1 ⊢
  rw [elb] at HBB b1 ⊢
  obtain ⟨C, hC⟩ : ∃ C, C = A ++ B := ⟨_, rfl⟩
  have HCE := hide hC
  have HCl : Hid (C.length = A.length + B.length) := by show _ = _; rw [hC, List.length_append]
  have HN0 := hide (OX.nil w w.heap.size)
  clear h1 h2 hs o1 o2 ela elb hC
  go_enter Try.func4, Try.ntmps4
  go_wp2
  go_loopw [7, 8, 9, 10] (fun z u i _ wr => ∃ (k S : Nat) (ta : Option Addr) (tc L : Nat), k ≤ A.length + B.length ∧ i = .int .i64 (k : Int) ∧ u = .slice ta L tc ∧ z = .int .i64 (S : Int) ∧ S ≤ k * 65539 ∧ Hid (S = szX (C.take k)) ∧ Hid (∀ r ∈ C.take k, okX r) ∧ Hid (L = (C.take k).length ∧ OX wr w.heap.size (.slice ta L tc) (C.take k)) ∧ Hid (Below w.heap.size w wr)) (fun _ _ i _ _ => A.length + B.length - (intOf i).toNat)
  case atStart => exact ⟨0, 0, none, 0, 0, Nat.zero_le _, rfl, rfl, rfl, by omega, (by show _ = _; simp [szX]), fun r hr => by simp at hr, ⟨by simp, by simpa using HN0.out⟩, Below.refl _ _⟩
  case round =>
    obtain ⟨k, S, ta, tc, L, hk, rfl, rfl, rfl, hSk, HS, HFt, HOX, HB⟩ := hrel
    by_cases hlt : k < A.length + B.length
    case pos =>
      have hlt' : (k : Int) < (A.length : Int) + (B.length : Int) := by omega
      have hkC : k < C.length := by have := HCl.out; omega
      obtain ⟨r, hr⟩ : ∃ r, r = C.getD k xf0 := ⟨_, rfl⟩
      have HTk : Hid (C.take (k + 1) = C.take k ++ [r]) := by show _ = _; rw [hr]; exact ext_snoc2 hkC
      have HRE : Hid ((A ++ B).getD k xf0 = r) := by show _ = _; rw [hr, HCE.out]
      obtain ⟨tag, dat⟩ := r
      obtain ⟨T, hT⟩ : ∃ T, T = C.take k := ⟨_, rfl⟩
      have hTl : T.length ≤ 5864062014800 := by rw [hT, List.length_take]; have := HCl.out; omega
      have HTT := hide hT
      have HOT : Hid (OX wr w.heap.size (.slice ta L tc) T) := by rw [hT]; exact HOX.out.2
      clear hr hT HOX
      by_cases hk1 : k < A.length
      case pos =>
        obtain ⟨b0, o0, hla, hrg⟩ := SR.row (HA.out.low HB.out) (i := k) (by rw [List.length_map]; exact hk1)
        rw [csX_get hk1] at hrg
        have hrE : A.getD k xf0 = (tag, dat) := by rw [← HRE.out]; simp [List.getD, List.getElem?_append_left hk1]
        rw [hrE] at hrg
        have g0 := hrg 0 (.int .i64 tag) rfl
        have g1 := hrg 1 (.string dat) rfl
        rw [Nat.add_zero] at g0
        subst hla
        have hk1' : (k : Int) < (A.length : Int) := by omega
        clear hrE hrg
        obtain ⟨w2, hw2⟩ : ∃ y, wr.alloc (.cells #[.int .i64 tag, .string dat] 36) = y := ⟨_, rfl⟩
        have HB2 : Hid (Below w.heap.size w w2) := by rw [← hw2]; exact HB.out.alloc HB.out.size _
        have HO2 : Hid (OX w2 w.heap.size (.slice ta L tc) T) := by rw [← hw2]; exact HOT.out.alloc _
        have n2 : w2.heap[wr.heap.size]? = some (.cells #[.int .i64 tag, .string dat] 36 (0, 0)) := by rw [← hw2]; exact heap_alloc_new _ _
        obtain ⟨k0, k1⟩ := box2 n2
        have HSz := hide HB2.out.size
        have z0 : (wr.alloc (.cells #[.int .i64 0, .string ⟨#[]⟩] 36)).cell? ⟨b0, o0 + k * 2, none⟩ = some (.int .i64 tag) := (World.cell?_alloc_lt _ _ _ (World.block_lt_of_cell? _ _ g0)).trans g0
        have z1 : (wr.alloc (.cells #[.int .i64 0, .string ⟨#[]⟩] 36)).cell? ⟨b0, o0 + k * 2 + 1, none⟩ = some (.string dat) := (World.cell?_alloc_lt _ _ _ (World.block_lt_of_cell? _ _ g1)).trans g1
        clear n2
        go_wp2_with fail
        clear hw2 g0 g1 z0 z1
        by_cases h16 : wide tag 2
        case pos =>
          refine (is16_no h16 w2).mono ?_
          rintro e wx ⟨rfl, hwx⟩
          subst hwx
          clear h16
          go_wp2
          go_ret
          exact ⟨by first | rfl | simp, HB2.out⟩
        refine (is16_yes h16 w2).mono ?_
        rintro e wx ⟨rfl, hwx⟩
        subst hwx
        by_cases h2 : (65535 : Int) < (dat.size : Int)
        case pos =>
          clear h16
          go_wp2
          go_ret
          exact ⟨by first | rfl | simp, HB2.out⟩
        obtain ⟨S2, hS2⟩ : ∃ S2, S2 = S + 4 + dat.size := ⟨_, rfl⟩
        have e1 : (S : Int) + 4 + (dat.size : Int) = (S2 : Int) := by omega
        have HNX : Hid (S2 = szX (C.take (k + 1)) ∧ (∀ r ∈ C.take (k + 1), okX r)) := by
          rw [HTk.out]
          refine ⟨by rw [szX_app, ← HS.out, hS2]; simp [szX]; omega, fun r hr => ?_⟩
          rcases List.mem_append.1 hr with hr | hr
          · exact HFt.out r hr
          · rw [List.mem_singleton.1 hr]
            exact ⟨h16, by show dat.size ≤ 65535; omega⟩
        have hS3 : S2 ≤ (k + 1) * 65539 := by rw [Nat.add_mul]; omega
        clear h16 hS2
        go_wp2_with (at_builtin; refine wpExt rfl _ _ rfl w.heap.size (.slice ta L tc) T tag dat rfl HO2.out _ rfl hTl HSz.out ?_)
        intro v3 w5 ho3 hg3
        have HB5 := hide (grow_ext HB2.out (Nat.le_refl _) HO2.out hg3)
        have ho4 : OX w5 w.heap.size v3 (C.take (k + 1)) := by rw [HTk.out, ← HTT.out]; exact ho3
        obtain ⟨a3, c3, hv3, j3, j4⟩ := ho4.shape
        obtain ⟨M, hM⟩ : ∃ M, M = (C.take (k + 1)).length := ⟨_, rfl⟩
        rw [← hM] at hv3
        subst hv3
        have HO5 : Hid (M = (C.take (k + 1)).length ∧ OX w5 w.heap.size (.slice a3 M c3) (C.take (k + 1))) := ⟨hM, ho4⟩
        clear ho3 hg3 ho4 hM j3 j4 k0 k1
        go_wp2
        go_roundw
        case rel => exact ⟨k + 1, S2, a3, c3, M, by omega, by go_num, rfl, rfl, hS3, HNX.out.1, HNX.out.2, HO5.out, HB5.out⟩
        case measure => simp [intOf]; omega
      case neg =>
        obtain ⟨m, hm⟩ : ∃ m : Nat, m = k - A.length := ⟨_, rfl⟩
        have hmB : m < B.length := by omega
        obtain ⟨b0, o0, hla, hrg⟩ := SR.row (HBB.out.low HB.out) (i := m) (by rw [List.length_map]; exact hmB)
        rw [csX_get hmB] at hrg
        have hrE : B.getD m xf0 = (tag, dat) := by rw [← HRE.out, hm]; simp [List.getD, List.getElem?_append_right (Nat.le_of_not_lt hk1)]
        rw [hrE] at hrg
        have g0 := hrg 0 (.int .i64 tag) rfl
        have g1 := hrg 1 (.string dat) rfl
        rw [Nat.add_zero] at g0
        subst hla
        have hk1' : ¬ (k : Int) < (A.length : Int) := by omega
        have em : (k : Int) - (A.length : Int) = (m : Int) := by omega
        have hm' : (m : Int) < (B.length : Int) := by omega
        clear hrE hrg hm
        obtain ⟨w2, hw2⟩ : ∃ y, wr.alloc (.cells #[.int .i64 tag, .string dat] 36) = y := ⟨_, rfl⟩
        have HB2 : Hid (Below w.heap.size w w2) := by rw [← hw2]; exact HB.out.alloc HB.out.size _
        have HO2 : Hid (OX w2 w.heap.size (.slice ta L tc) T) := by rw [← hw2]; exact HOT.out.alloc _
        have n2 : w2.heap[wr.heap.size]? = some (.cells #[.int .i64 tag, .string dat] 36 (0, 0)) := by rw [← hw2]; exact heap_alloc_new _ _
        obtain ⟨k0, k1⟩ := box2 n2
        have HSz := hide HB2.out.size
        have z0 : (wr.alloc (.cells #[.int .i64 0, .string ⟨#[]⟩] 36)).cell? ⟨b0, o0 + m * 2, none⟩ = some (.int .i64 tag) := (World.cell?_alloc_lt _ _ _ (World.block_lt_of_cell? _ _ g0)).trans g0
        have z1 : (wr.alloc (.cells #[.int .i64 0, .string ⟨#[]⟩] 36)).cell? ⟨b0, o0 + m * 2 + 1, none⟩ = some (.string dat) := (World.cell?_alloc_lt _ _ _ (World.block_lt_of_cell? _ _ g1)).trans g1
        clear n2
        go_wp2_with fail
        clear hw2 g0 g1 z0 z1
        by_cases h16 : wide tag 2
        case pos =>
          refine (is16_no h16 w2).mono ?_
          rintro e wx ⟨rfl, hwx⟩
          subst hwx
          clear h16
          go_wp2
          go_ret
          exact ⟨by first | rfl | simp, HB2.out⟩
        refine (is16_yes h16 w2).mono ?_
        rintro e wx ⟨rfl, hwx⟩
        subst hwx
        by_cases h2 : (65535 : Int) < (dat.size : Int)
        case pos =>
          clear h16
          go_wp2
          go_ret
          exact ⟨by first | rfl | simp, HB2.out⟩
        obtain ⟨S2, hS2⟩ : ∃ S2, S2 = S + 4 + dat.size := ⟨_, rfl⟩
        have e1 : (S : Int) + 4 + (dat.size : Int) = (S2 : Int) := by omega
        have HNX : Hid (S2 = szX (C.take (k + 1)) ∧ (∀ r ∈ C.take (k + 1), okX r)) := by
          rw [HTk.out]
          refine ⟨by rw [szX_app, ← HS.out, hS2]; simp [szX]; omega, fun r hr => ?_⟩
          rcases List.mem_append.1 hr with hr | hr
          · exact HFt.out r hr
          · rw [List.mem_singleton.1 hr]
            exact ⟨h16, by show dat.size ≤ 65535; omega⟩
        have hS3 : S2 ≤ (k + 1) * 65539 := by rw [Nat.add_mul]; omega
        clear h16 hS2
        go_wp2_with (at_builtin; refine wpExt rfl _ _ rfl w.heap.size (.slice ta L tc) T tag dat rfl HO2.out _ rfl hTl HSz.out ?_)
        intro v3 w5 ho3 hg3
        have HB5 := hide (grow_ext HB2.out (Nat.le_refl _) HO2.out hg3)
        have ho4 : OX w5 w.heap.size v3 (C.take (k + 1)) := by rw [HTk.out, ← HTT.out]; exact ho3
        obtain ⟨a3, c3, hv3, j3, j4⟩ := ho4.shape
        obtain ⟨M, hM⟩ : ∃ M, M = (C.take (k + 1)).length := ⟨_, rfl⟩
        rw [← hM] at hv3
        subst hv3
        have HO5 : Hid (M = (C.take (k + 1)).length ∧ OX w5 w.heap.size (.slice a3 M c3) (C.take (k + 1))) := ⟨hM, ho4⟩
        clear ho3 hg3 ho4 hM j3 j4 k0 k1
        go_wp2
        go_roundw
        case rel => exact ⟨k + 1, S2, a3, c3, M, by omega, by go_num, rfl, rfl, hS3, HNX.out.1, HNX.out.2, HO5.out, HB5.out⟩
        case measure => simp [intOf]; omega
    case neg =>
      have hke : k = A.length + B.length := by omega
      have htk : C.take k = C := by rw [hke, ← HCl.out, List.take_length]
      have HOC : Hid (OX wr w.heap.size (.slice ta L tc) C) := by have := HOX.out.2; rwa [htk] at this
      have HLC : Hid (L = C.length) := by have := HOX.out.1; rwa [htk] at this
      have HSC : Hid (S = szX A + szX B) := by have := HS.out; rw [htk, HCE.out, szX_app] at this; exact this
      have HFC : Hid (∀ r ∈ A ++ B, okX r) := by have := HFt.out; rwa [htk, HCE.out] at this
      subst hke
      clear htk HOX HS HFt
      by_cases hbig : (65535 : Int) < (S : Int)
      · go_wp2
        go_ret
        exact ⟨by first | rfl | simp, HB.out⟩
      obtain ⟨⟨q1, q2⟩, q3, q4, q5⟩ := two_join (A := A) (B := B) (fun r hr => HFC.out r (List.mem_append_left _ hr)) (fun r hr => HFC.out r (List.mem_append_right _ hr)) (by have := HSC.out; omega)
      obtain ⟨ja, hja⟩ : ∃ x, x = jS A := ⟨_, rfl⟩
      obtain ⟨jb, hjb⟩ : ∃ x, x = jS B := ⟨_, rfl⟩
      have HJ1 := hide (joinExtra_any (.slice ca A.length pa) A wr (HA.out.low HB.out) HO1.out)
      have HJ2 := hide (fun W (hW : Below w.heap.size w W) => joinExtra_any (.slice cb B.length pb) B W (HBB.out.low hW) HO2.out)
      rw [← hja, q1] at HJ1
      rw [← hjb, q2] at HJ2
      rw [← hja] at q3 q5
      rw [← hjb] at q4 q5
      have hsz : (ja.size : Int) + (jb.size : Int) = (S : Int) := by have := HSC.out; omega
      have HJL : Hid ((ja ++ jb).size ≤ 140737488351232) := by show _ ≤ _; rw [ByteArray.size_append]; omega
      have HSP : Hid (∀ W, Calls Try.prog 13 #[.string (ja ++ jb)] W fun e w' => ∃ a c, e = .returned (.tuple #[.slice a C.length c, .int .i64 0]) ∧ OX w' W.heap.size (.slice a C.length c) C ∧ Below W.heap.size W w') := fun W => by
        have := splitExtra_any (ja ++ jb) W HJL.out
        rw [q5, ← HCE.out] at this
        exact this
      clear q1 q2 q3 q4 q5 hja hjb
      go_wp2_with fail
      refine HJ1.out.mono ?_
      rintro e w2 ⟨rfl, hb2⟩
      have HB2 := hide (HB.out.trans (hb2.mono HB.out.size))
      have HOC2 := hide (HOC.out.below hb2 (Nat.le_refl _))
      clear hb2 HJ1 HOC HB
      go_wp2_with fail
      refine (HJ2.out w2 HB2.out).mono ?_
      rintro e w3 ⟨rfl, hb3⟩
      have HB3 := hide (HB2.out.trans (hb3.mono HB2.out.size))
      have HOC3 := hide (HOC2.out.below hb3 (Nat.le_refl _))
      clear hb3 HJ2 HOC2 HB2
      go_wp2_with fail
      clear hsz
      refine (HSP.out w3).mono ?_
      rintro e w4 ⟨xa, xc, rfl, ho4, hb4⟩
      have HB4 := hide (HB3.out.trans (hb4.mono HB3.out.size))
      have HAK : Hid (Calls Try.prog 14 #[.slice xa C.length xc, .slice ta L tc] w4 fun e w' => e = .returned (.bool true) ∧ Below w4.heap.size w4 w') := alike_same _ _ C w4 ho4.sr (HOC3.out.below hb4 (Nat.le_refl _)).sr
      clear ho4 hb4 HOC3 HB3 HSP
      go_wp2_with fail
      refine HAK.out.mono ?_
      rintro e w5 ⟨rfl, hb5⟩
      have HB5 := hide (HB4.out.trans (hb5.mono HB4.out.size))
      clear hb5 HAK HB4
      obtain ⟨M, hM⟩ : ∃ x, x = (spA (strL s)).1 := ⟨_, rfl⟩
      obtain ⟨E, hE⟩ : ∃ x, x = (spA (strL s)).2 := ⟨_, rfl⟩
      have HST := hide (splitExtra_any s w5 HSs.out)
      rw [← hM, ← hE] at HST
      have HME : Hid (spA (strL s) = (M, E)) := by show _ = _; rw [hM, hE]
      clear hM hE
      go_wp2_with fail
      refine HST.out.mono ?_
      rintro e w6 ⟨ya, yc, rfl, ho6, hb6⟩
      have HB6 := hide (HB5.out.trans (hb6.mono HB5.out.size))
      have HO6 := hide ho6
      clear ho6 hb6 HST HB5
      by_cases hE0 : E = 0
      · subst hE0
        have hj := split_join (byt_strL s) HME.out
        have hy := j_yes (R := M) (by rw [hj])
        rw [hj] at hy
        have HJM : Hid (jE M = 0 ∧ jS M = s) := ⟨hy.1, hy.2.trans (nums_str s)⟩
        have HOM : Hid (∀ r ∈ M, Ok64 r.1 ∧ r.2.size ≤ 9223372036854775807) := fun r hr => by
          have ho := split_ok (byt_strL s) HME.out r hr
          have h1 := ho.1
          have h2 := ho.2
          unfold wide at h1
          exact ⟨by unfold Ok64; omega, by omega⟩
        have HJ3 := hide (joinExtra_any (.slice ya M.length yc) M w6 HO6.out.sr HOM.out)
        rw [HJM.out.1, HJM.out.2] at HJ3
        clear hj hy
        go_wp2_with fail
        refine HJ3.out.mono ?_
        rintro e w7 ⟨rfl, hb7⟩
        have HB7 := hide (HB6.out.trans (hb7.mono HB6.out.size))
        clear hb7 HJ3
        go_wp2
        go_ret
        exact ⟨by first | rfl | simp, HB7.out⟩
      · have hse := split_err (d := strL s) (by rw [HME.out]; exact hE0)
        rw [HME.out] at hse
        simp only at hse
        obtain ⟨rfl, hEE⟩ := hse
        rcases hEE with rfl | rfl
        · go_wp2
          go_ret
          exact ⟨by first | rfl | simp, HB6.out⟩
        · go_wp2
          go_ret
          exact ⟨by first | rfl | simp, HB6.out⟩
end Go.Proofs.Ytjjepgkcgbbmhaa

