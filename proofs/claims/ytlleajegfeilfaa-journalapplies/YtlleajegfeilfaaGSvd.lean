import Derived.Test.YtlleajegfeilfaaGRgt
namespace Go.Proofs.Ytlleajegfeilfaa
open Go.RowKit Go.Maps
set_option maxRecDepth 20000
set_option linter.unusedVariables false
set_option linter.unusedSimpArgs false

def spC (s : Int × Int) : Array Value := #[.int .i64 s.1, .int .i64 s.2]
theorem infoS : (Try.prog.info? 60).map (fun i => (i.zero, i.size, i.bytes)) = some (some (.agg #[.int .i64 0, .int .i64 0]), 2, 16) := by kernel_rfl

set_option maxHeartbeats 8000000 in
theorem saved_any (v : Value) (R : List We) (size old : Int) (w : World) (h : SW w v R) (hs : domN size) (hd : domN old) (hr : rgt size (nms R) 0 = true) (hl : R.length ≤ 16777216) :
    Calls Try.prog 23 #[v, .int .i64 old] w fun e w' => ∃ v', e = .returned v' ∧ OR 60 2 w' w.heap.size v' ((svd old (nms R)).map spC) ∧ Below w.heap.size w w' := by
  have HS := hide h
  have HR := hide hr
  obtain ⟨ca, ccap, rfl, c1, c2⟩ := h.open
  obtain ⟨hs0, hs1⟩ := hs
  obtain ⟨hd0, hd1⟩ := hd
  clear h hr
  go_enter Try.func23, Try.ntmps23
  go_wp2
  go_loopw [5, 7, 10] (fun t _ i wr => ∃ (j N : Nat) (ta : Option Addr) (tc : Nat), t = .slice ta N tc ∧ i = .int .i64 (j : Int) ∧ j ≤ R.length ∧ N ≤ j ∧ Hid ((svd old ((nms R).take j)).length = N) ∧ Hid (OR 60 2 wr w.heap.size (.slice ta N tc) ((svd old ((nms R).take j)).map spC)) ∧ Hid (Below w.heap.size w wr)) (fun _ _ i _ => R.length - (intOf i).toNat)
  case atStart => exact ⟨0, 0, none, 0, rfl, rfl, Nat.zero_le _, Nat.zero_le _, rfl, OR.nil _ _ _ _, Below.refl _ _⟩
  case round =>
    obtain ⟨j, N, ta, tc, rfl, rfl, hj, hN, HN, HO, HB⟩ := hrel
    by_cases hlt : j < R.length
    · have hlt' : (j : Int) < (R.length : Int) := by omega
      obtain ⟨b0, o0, a', c', hla, hbl, hdv, g0, g1, hsb, k1, k2⟩ := (HS.out.low HB.out).row hlt
      have hnn := n_get hlt
      have hin := rgt_in _ 0 HR.out (Int.le_refl _) ((nms R).getD j wn0) (by simp [List.getD, nms_len, hlt])
      have hsv := svd_take (old := old) (P := nms R) (k := j) (by rw [nms_len]; exact hlt)
      rw [hnn] at hin hsv
      obtain ⟨e, he⟩ : ∃ e, e = R.getD j we0 := ⟨_, rfl⟩
      rw [← he] at hdv g0 g1 hsb k1 hin hsv
      obtain ⟨at0, dv0, l0⟩ := e
      simp only [We.n] at hdv g0 g1 hsb k1 hin hsv
      obtain ⟨n, hn⟩ : ∃ n, n = l0.length := ⟨_, rfl⟩
      rw [← hn] at hdv g1 hsb k1 hin hsv
      obtain ⟨i0, i1, i2⟩ := hin
      subst hla
      have HBa : Hid (Below w.heap.size w (wr.alloc (.cells #[.int .i64 at0, .slice a' n c'] 29))) := HB.out.alloc HB.out.size _
      have HOa := hide (HO.out.alloc (.cells #[.int .i64 at0, .slice a' n c'] 29))
      obtain ⟨w2, hw2⟩ : ∃ y, wr.alloc (.cells #[.int .i64 at0, .slice a' n c'] 29) = y := ⟨_, rfl⟩
      have hbx : w2.heap[wr.heap.size]? = some (.cells #[.int .i64 at0, .slice a' n c'] 29) := by rw [← hw2]; exact heap_alloc_new _ _
      have HZ : Hid (w.heap.size ≤ w2.heap.size) := by rw [← hw2, size_alloc']; exact Nat.le_succ_of_le HB.out.size
      rw [hw2] at HBa HOa
      have q0 := box_cells hbx 0 rfl
      have q1 := box_cells hbx 1 rfl
      have HSV := hide hsv
      clear hdv he hsb hn hnn hbx hsv
      by_cases hao : at0 < old
      · obtain ⟨T, hT⟩ : ∃ T, T = min (at0 + (n : Int)) old := ⟨_, rfl⟩
        have HSV2 : Hid (svd old ((nms R).take (j + 1)) = svd old ((nms R).take j) ++ [(at0, T)]) := by
          show _ = _
          rw [HSV.out]
          unfold svd1
          rw [if_pos hao, hT]
        clear HSV
        have HO3 := hide (HOa.out.alloc (.cells #[.int .i64 at0, .int .i64 T] 60))
        clear HO3
        by_cases hmn : at0 + (n : Int) ≤ old
        · obtain rfl : T = at0 + (n : Int) := by omega
          have HO3 := hide (HOa.out.alloc (.cells #[.int .i64 at0, .int .i64 (at0 + (n : Int))] 60))
          have hm2 : ¬ old < at0 + (n : Int) := by omega
          clear hT
          go_wp2_with (at_builtin; refine wpRow rfl _ _ 53 60 2 16 _ rfl Try.underlying53 infoS rfl (by omega) w.heap.size (.slice ta N tc) ((svd old ((nms R).take j)).map spC) #[.int .i64 at0, .int .i64 (at0 + (n : Int))] w2.heap.size 1 (0, 0) rfl HO3.out rfl (heap_alloc_new _ _) rfl (by simp [Value.oneCell']) (by rw [List.length_map, HN.out]; omega) (by rw [List.length_map, HN.out]; omega) (by rw [size_alloc']; have := HZ.out; omega) ?_)
          intro v3 w3 ho3 hg3 hat3
          have HO4 : Hid (OR 60 2 w3 w.heap.size v3 ((svd old ((nms R).take (j + 1))).map spC)) := by
            show OR _ _ _ _ _ _
            rw [HSV2.out, List.map_append]
            exact ho3
          have HB3 : Hid (Below w.heap.size w w3) := (HBa.out.alloc HZ.out _).grown hg3 (by rw [size_alloc']; have := HZ.out; omega) (fun k hk => by have := (HO.out.lt k hk).1; omega)
          obtain ⟨a3, c3, hv3, z1, z2⟩ := ho3.shape
          rw [List.length_append, List.length_map, HN.out, List.length_singleton] at hv3
          subst hv3
          clear ho3 hg3 hat3
          go_wp2
          go_roundw
          case rel => exact ⟨j + 1, N + 1, a3, c3, rfl, by go_num, by omega, by omega, by show _ = _; rw [HSV2.out, List.length_append, HN.out]; rfl, HO4.out, HB3.out⟩
          case measure => simp [intOf]; omega
        · obtain rfl : T = old := by omega
          have HO3 := hide (HOa.out.alloc (.cells #[.int .i64 at0, .int .i64 T] 60))
          have hm2 : T < at0 + (n : Int) := by omega
          clear hT
          go_wp2_with (at_builtin; refine wpRow rfl _ _ 53 60 2 16 _ rfl Try.underlying53 infoS rfl (by omega) w.heap.size (.slice ta N tc) ((svd T ((nms R).take j)).map spC) #[.int .i64 at0, .int .i64 T] w2.heap.size 1 (0, 0) rfl HO3.out rfl (heap_alloc_new _ _) rfl (by simp [Value.oneCell']) (by rw [List.length_map, HN.out]; omega) (by rw [List.length_map, HN.out]; omega) (by rw [size_alloc']; have := HZ.out; omega) ?_)
          intro v3 w3 ho3 hg3 hat3
          have HO4 : Hid (OR 60 2 w3 w.heap.size v3 ((svd T ((nms R).take (j + 1))).map spC)) := by
            show OR _ _ _ _ _ _
            rw [HSV2.out, List.map_append]
            exact ho3
          have HB3 : Hid (Below w.heap.size w w3) := (HBa.out.alloc HZ.out _).grown hg3 (by rw [size_alloc']; have := HZ.out; omega) (fun k hk => by have := (HO.out.lt k hk).1; omega)
          obtain ⟨a3, c3, hv3, z1, z2⟩ := ho3.shape
          rw [List.length_append, List.length_map, HN.out, List.length_singleton] at hv3
          subst hv3
          clear ho3 hg3 hat3
          go_wp2
          go_roundw
          case rel => exact ⟨j + 1, N + 1, a3, c3, rfl, by go_num, by omega, by omega, by show _ = _; rw [HSV2.out, List.length_append, HN.out]; rfl, HO4.out, HB3.out⟩
          case measure => simp [intOf]; omega
      · have HSV2 : Hid (svd old ((nms R).take (j + 1)) = svd old ((nms R).take j)) := by
          show _ = _
          rw [HSV.out]
          unfold svd1
          rw [if_neg hao, List.append_nil]
        go_wp2
        go_roundw
        case rel => exact ⟨j + 1, N, ta, tc, rfl, by go_num, by omega, by omega, by show _ = _; rw [HSV2.out]; exact HN.out, by show OR _ _ _ _ _ _; rw [HSV2.out]; exact HOa.out, HBa.out⟩
        case measure => simp [intOf]; omega
    · have hje : j = R.length := by omega
      subst hje
      have HF := HO.out
      rw [← nms_len R, List.take_length] at HF
      have HF2 := hide HF
      clear HF
      go_wp2
      go_ret
      exact ⟨_, rfl, HF2.out, HB.out⟩

theorem sp_get {S : List (Int × Int)} {i : Nat} (h : i < S.length) : (S.map spC).getD i #[] = spC (S.getD i (0, 0)) := by simp [List.getD, h]
theorem dif_take {S : List (Int × Int)} {k : Nat} (h : k < S.length) : dif (S.take (k + 1)) = dif (S.take k) + ((S.getD k (0, 0)).2 - (S.getD k (0, 0)).1) := by
  rw [take_get (0, 0) h, dif_app]
  simp [dif]

set_option maxHeartbeats 8000000 in
theorem bodyBytes_any (v : Value) (S : List (Int × Int)) (w : World) (h : SR 2 w v (S.map spC)) (hs : ∀ s ∈ S, 0 ≤ s.1 ∧ s.1 ≤ s.2 ∧ s.2 ≤ 16777216) (hl : S.length ≤ 16777216) :
    Calls Try.prog 22 #[v] w fun e w' => e = .returned (.int .i64 (bdy S)) ∧ Below w.heap.size w w' := by
  have HS := hide h
  have HR := hide hs
  obtain ⟨ca, ccap, rfl, c1, c2⟩ := h.open
  have elc : (S.map spC).length = S.length := List.length_map ..
  rw [elc] at HS c1 ⊢
  clear h hs elc
  go_enter Try.func22, Try.ntmps22
  go_wp2
  go_loopw [3, 5, 11] (fun n _ i wr => ∃ (j : Nat) (D : Int), n = .int .i64 (8 * (S.length : Int) + D) ∧ i = .int .i64 (j : Int) ∧ j ≤ S.length ∧ (0 ≤ D ∧ D ≤ 16777216 * (j : Int)) ∧ Hid (dif (S.take j) = D) ∧ Hid (Below w.heap.size w wr)) (fun _ _ i _ => S.length - (intOf i).toNat)
  case atStart => exact ⟨0, 0, by go_num, rfl, Nat.zero_le _, by omega, rfl, Below.refl _ _⟩
  case round =>
    obtain ⟨j, D, rfl, rfl, hj, ⟨hD0, hD1⟩, HD, HB⟩ := hrel
    by_cases hlt : j < S.length
    · have hlt' : (j : Int) < (S.length : Int) := by omega
      obtain ⟨b0, o0, hla, hbl, hrg⟩ := (HS.out.low HB.out).row (i := j) (by rw [List.length_map]; exact hlt)
      have hok := HR.out (S.getD j (0, 0)) (by simp [List.getD, hlt])
      have HDT := hide (dif_take hlt)
      rw [sp_get hlt] at hrg
      obtain ⟨s, hs⟩ : ∃ s, s = S.getD j (0, 0) := ⟨_, rfl⟩
      rw [← hs] at hrg hok HDT
      obtain ⟨f0, t0⟩ := s
      have g0 := hrg 0 (.int .i64 f0) rfl
      have g1 := hrg 1 (.int .i64 t0) rfl
      rw [Nat.add_zero] at g0
      simp only at hok
      obtain ⟨i0, i1, i2⟩ := hok
      subst hla
      have HBa : Hid (Below w.heap.size w (wr.alloc (.cells #[.int .i64 f0, .int .i64 t0] 60))) := HB.out.alloc HB.out.size _
      obtain ⟨w2, hw2⟩ : ∃ y, wr.alloc (.cells #[.int .i64 f0, .int .i64 t0] 60) = y := ⟨_, rfl⟩
      have hbx : w2.heap[wr.heap.size]? = some (.cells #[.int .i64 f0, .int .i64 t0] 60) := by rw [← hw2]; exact heap_alloc_new _ _
      rw [hw2] at HBa
      have q0 := box_cells hbx 0 rfl
      have q1 := box_cells hbx 1 rfl
      clear hs hrg hbx
      go_wp2
      go_roundw
      case rel => exact ⟨j + 1, D + (t0 - f0), by go_num, by go_num, by omega, by omega, by show _ = _; rw [HDT.out, HD.out], HBa.out⟩
      case measure => simp [intOf]; omega
    · have hje : j = S.length := by omega
      subst hje
      have HF : Hid (bdy S = 8 * (S.length : Int) + D) := by
        have := HD.out
        rw [List.take_length] at this
        show _ = _
        unfold bdy
        rw [this]
      go_wp2
      go_ret
      rw [HF.out]
      exact ⟨rfl, HB.out⟩
end Go.Proofs.Ytlleajegfeilfaa

