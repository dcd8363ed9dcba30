import Derived.Test.YtlleajegfeilfaaGSvd
import Derived.Test.YtlleajegfeilfaaGFrm
namespace Go.Proofs.Ytlleajegfeilfaa
open Go.RowKit Go.Maps
set_option maxRecDepth 20000
set_option linter.unusedVariables false
set_option linter.unusedSimpArgs false

set_option maxHeartbeats 8000000 in
theorem zSpans_any (v : Value) (R : List We) (size old : Int) (w : World) (h : SW w v R) (hs : domN size) (hd : domN old) (hr : rgt size (nms R) 0 = true) (hl : R.length ≤ 16777216) :
    Calls Try.prog 29 #[.int .i64 old, v] w fun e w' => ∃ v', e = .returned v' ∧ OR 60 2 w' w.heap.size v' ((svd old (nms R)).map spC) ∧ Below w.heap.size w w' := by
  have HS := hide h
  have HR := hide hr
  obtain ⟨ca, ccap, rfl, c1, c2⟩ := h.open
  obtain ⟨hs0, hs1⟩ := hs
  obtain ⟨hd0, hd1⟩ := hd
  clear h hr
  go_enter Try.func29, Try.ntmps29
  go_wp2
  go_loopw [5, 6, 7] (fun t i _ wr => ∃ (j N : Nat) (ta : Option Addr) (tc : Nat), t = .slice ta N tc ∧ i = .int .i64 (j : Int) ∧ j ≤ R.length ∧ N ≤ j ∧ Hid ((svd old ((nms R).take j)).length = N) ∧ Hid (OR 60 2 wr w.heap.size (.slice ta N tc) ((svd old ((nms R).take j)).map spC)) ∧ Hid (Below w.heap.size w wr)) (fun _ i _ _ => R.length - (intOf i).toNat)
  case atStart => exact ⟨0, 0, none, 0, rfl, rfl, Nat.zero_le _, Nat.zero_le _, rfl, OR.nil _ _ _ _, Below.refl _ _⟩
  case round =>
    obtain ⟨j, N, ta, tc, rfl, rfl, hj, hN, HN, HO, HB⟩ := hrel
    by_cases hlt : j < R.length
    · have hlt' : (j : Int) < (R.length : Int) := by omega
      obtain ⟨b0, o0, a', c', hla, hbl, hdv, g0, g1, hsb, k1, k2⟩ := (HS.out.low HB.out).row hlt
      have hnn := n_get hlt
      have hin := rgt_in _ 0 HR.out (Int.le_refl _) ((nms R).getD j wn0) (by simp [List.getD, nms_len, hlt])
      have hsv := svd_take (old := old) (P := nms R) (k := j) (by rw [nms_len]; exact hlt)
      rw [hnn] at hin hsv
      obtain ⟨e, he⟩ : ∃ e, e = R.getD j we0 := ⟨_, rfl⟩
      rw [← he] at hdv g0 g1 hsb k1 hin hsv
      obtain ⟨at0, dv0, l0⟩ := e
      simp only [We.n] at hdv g0 g1 hsb k1 hin hsv
      obtain ⟨n, hn⟩ : ∃ n, n = l0.length := ⟨_, rfl⟩
      rw [← hn] at hdv g1 hsb k1 hin hsv
      obtain ⟨i0, i1, i2⟩ := hin
      subst hla
      have HSV := hide hsv
      clear hdv he hsb hn hnn hsv
      go_wp2
      go_quiet (fail)
      have HZ : Hid (w.heap.size ≤ (wr.drewN nq).heap.size) := HB.out.size
      by_cases hao : at0 < old
      · obtain ⟨T, hT⟩ : ∃ T, T = min (at0 + (n : Int)) old := ⟨_, rfl⟩
        have HSV2 : Hid (svd old ((nms R).take (j + 1)) = svd old ((nms R).take j) ++ [(at0, T)]) := by
          show _ = _
          rw [HSV.out]
          unfold svd1
          rw [if_pos hao, hT]
        clear HSV
        by_cases hmn : at0 + (n : Int) ≤ old
        · obtain rfl : T = at0 + (n : Int) := by omega
          have HO3 : Hid (OR 60 2 ((wr.drewN nq).alloc (.cells #[.int .i64 at0, .int .i64 (at0 + (n : Int))] 60)) w.heap.size (.slice ta N tc) ((svd old ((nms R).take j)).map spC)) := (HO.out.move (w' := wr.drewN nq) (fun _ _ => rfl)).alloc _
          have hm2 : ¬ old < at0 + (n : Int) := by omega
          have hm3 : at0 < at0 + (n : Int) := by omega
          clear hT
          go_wp2_with (at_builtin; refine wpRow rfl _ _ 53 60 2 16 _ rfl Try.underlying53 infoS rfl (by omega) w.heap.size (.slice ta N tc) ((svd old ((nms R).take j)).map spC) #[.int .i64 at0, .int .i64 (at0 + (n : Int))] (wr.drewN nq).heap.size 1 (0, 0) rfl HO3.out rfl (heap_alloc_new _ _) rfl (by simp [Value.oneCell']) (by rw [List.length_map, HN.out]; omega) (by rw [List.length_map, HN.out]; omega) (by rw [size_alloc']; have := HZ.out; omega) ?_)
          intro v3 w3 ho3 hg3 hat3
          have HO4 : Hid (OR 60 2 w3 w.heap.size v3 ((svd old ((nms R).take (j + 1))).map spC)) := by
            show OR _ _ _ _ _ _
            rw [HSV2.out, List.map_append]
            exact ho3
          have HB3 : Hid (Below w.heap.size w w3) := ((below_drewN HB.out nq).alloc HZ.out _).grown hg3 (by rw [size_alloc']; have := HZ.out; omega) (fun k hk => by have := (HO.out.lt k hk).1; omega)
          obtain ⟨a3, c3, hv3, z1, z2⟩ := ho3.shape
          rw [List.length_append, List.length_map, HN.out, List.length_singleton] at hv3
          subst hv3
          clear ho3 hg3 hat3
          go_wp2
          go_roundw
          case rel => exact ⟨j + 1, N + 1, a3, c3, rfl, by go_num, by omega, by omega, by show _ = _; rw [HSV2.out, List.length_append, HN.out]; rfl, HO4.out, HB3.out⟩
          case measure => simp [intOf]; omega
        · obtain rfl : T = old := by omega
          have HO3 : Hid (OR 60 2 ((wr.drewN nq).alloc (.cells #[.int .i64 at0, .int .i64 T] 60)) w.heap.size (.slice ta N tc) ((svd T ((nms R).take j)).map spC)) := (HO.out.move (w' := wr.drewN nq) (fun _ _ => rfl)).alloc _
          have hm2 : T < at0 + (n : Int) := by omega
          clear hT
          go_wp2_with (at_builtin; refine wpRow rfl _ _ 53 60 2 16 _ rfl Try.underlying53 infoS rfl (by omega) w.heap.size (.slice ta N tc) ((svd T ((nms R).take j)).map spC) #[.int .i64 at0, .int .i64 T] (wr.drewN nq).heap.size 1 (0, 0) rfl HO3.out rfl (heap_alloc_new _ _) rfl (by simp [Value.oneCell']) (by rw [List.length_map, HN.out]; omega) (by rw [List.length_map, HN.out]; omega) (by rw [size_alloc']; have := HZ.out; omega) ?_)
          intro v3 w3 ho3 hg3 hat3
          have HO4 : Hid (OR 60 2 w3 w.heap.size v3 ((svd T ((nms R).take (j + 1))).map spC)) := by
            show OR _ _ _ _ _ _
            rw [HSV2.out, List.map_append]
            exact ho3
          have HB3 : Hid (Below w.heap.size w w3) := ((below_drewN HB.out nq).alloc HZ.out _).grown hg3 (by rw [size_alloc']; have := HZ.out; omega) (fun k hk => by have := (HO.out.lt k hk).1; omega)
          obtain ⟨a3, c3, hv3, z1, z2⟩ := ho3.shape
          rw [List.length_append, List.length_map, HN.out, List.length_singleton] at hv3
          subst hv3
          clear ho3 hg3 hat3
          go_wp2
          go_roundw
          case rel => exact ⟨j + 1, N + 1, a3, c3, rfl, by go_num, by omega, by omega, by show _ = _; rw [HSV2.out, List.length_append, HN.out]; rfl, HO4.out, HB3.out⟩
          case measure => simp [intOf]; omega
      · have HSV2 : Hid (svd old ((nms R).take (j + 1)) = svd old ((nms R).take j)) := by
          show _ = _
          rw [HSV.out]
          unfold svd1
          rw [if_neg hao, List.append_nil]
        have hm2 : old < at0 + (n : Int) := by omega
        go_wp2
        go_roundw
        case rel => exact ⟨j + 1, N, ta, tc, rfl, by go_num, by omega, by omega, by show _ = _; rw [HSV2.out]; exact HN.out, by show OR _ _ _ _ _ _; rw [HSV2.out]; exact HO.out.move (fun _ _ => rfl), below_drewN HB.out _⟩
        case measure => simp [intOf]; omega
    · have hje : j = R.length := by omega
      subst hje
      have HF := HO.out
      rw [← nms_len R, List.take_length] at HF
      have HF2 := hide HF
      clear HF
      go_wp2
      go_ret
      exact ⟨_, rfl, HF2.out, HB.out⟩
end Go.Proofs.Ytlleajegfeilfaa

