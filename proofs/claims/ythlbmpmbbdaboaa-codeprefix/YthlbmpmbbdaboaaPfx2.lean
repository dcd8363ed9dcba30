import Derived.Test.YthlbmpmbbdaboaaPfx
namespace Go.Proofs.Ythlbmpmbbdaboaa
open Go.RowKit Go.Maps
set_option maxRecDepth 20000

theorem cd111 : cdE [1, 1, 1] = 51 ∧ cdL [1, 1, 1] = [] := by decide +kernel

theorem shp_over {l : List Int} (hl : Lens l) : shp l = 3 ↔ 32768 < usum l := by
  unfold shp
  by_cases c0 : tsum l = 0
  · rw [if_pos c0]
    have hz := (tsum_zero hl).1 c0
    have : us l 16 = 0 := by
      have h : ∀ n, n ≤ 16 → us l n = 0 := by
        intro n
        induction n with
        | zero => intro _; rfl
        | succ n ih => intro hn; simp only [us]; rw [ih (by omega), hz n (by omega)]; simp
      exact h 16 (by omega)
    rw [us_sum hl.2] at this
    omega
  · rw [if_neg c0]
    by_cases c1 : tsum l = 1 ∧ usum l = 16384
    · rw [if_pos c1]; omega
    · rw [if_neg c1]
      by_cases c2 : 32768 < usum l
      · rw [if_pos c2]; omega
      · rw [if_neg c2]
        by_cases c3 : usum l = 32768
        · rw [if_pos c3]; omega
        · rw [if_neg c3]; omega

theorem built_si3 (w : World) (cs : List Int) (h : cs.length ≤ 1000) : SI (w.alloc (.cells (cs.map (Value.int .i64)).toArray 3)) (.slice (some ⟨w.heap.size, 0, none⟩) cs.length cs.length) cs := by
  refine ⟨_, _, rfl, Nat.le_refl _, by unfold maxLen; omega, (fun h => by cases h), fun x hx i hi => ?_⟩
  cases hx
  rw [Addr.add_lit, cell_of_row _ _ _ _ _ _ (heap_alloc_new w _)]
  simp [hi]

theorem wt_pos {n : Nat} (h : 0 < n) : wt (n : Int) = 2 ^ (15 - n) := by unfold wt; rw [if_pos (by omega)]; rfl

set_option maxHeartbeats 4000000 in
theorem prefix_no (v : Value) (l : List Int) (w : World) (h : SI w v l) (hr : l.length ≤ 17592186043904) (hd : cdE l ≠ 0) :
    Calls Try.prog 4 #[v] w fun e w' => e = .returned (.bool true) ∧ Below w.heap.size w w' := by
  have HS := hide h
  obtain ⟨ao, cap, rfl, hlc, hcm⟩ := h.open
  clear h
  have HCL : Hid (cdL l = []) := if_neg hd
  obtain ⟨c, HC⟩ : ∃ c, Hid (c = cdE l) := ⟨_, rfl⟩
  have hc : ¬ c = 0 := by rw [HC.out]; exact hd
  have HCN : Hid ((c != 0) = true) := by show _ = _; simpa using hc
  have HD := hide hd
  clear hd
  go_enter Try.func4, Try.ntmps4
  go_wp2_with fail
  refine (icopied_any _ l _ HS.out hr).mono ?_
  rintro e w1 ⟨a1, rfl, ho1, hb1⟩
  have HB1 := hide hb1
  have HO1 := hide ho1.sb
  clear hb1 ho1
  go_wp2_with fail
  refine (codes_any _ l _ HO1.out).mono ?_
  rintro e w2 ⟨a2, c2, rfl, ho2, hb2⟩
  have HB2 := hide (HB1.out.trans (hb2.mono HB1.out.size))
  have HS2 := hide (HS.out.below HB2.out)
  rw [HCL.out, ← HC.out]
  clear hb2 ho2
  go_wp2
  go_loopw [5, 6] (fun u i wr => ∃ k : Nat, k ≤ l.length ∧ i = .int .i64 k ∧ u = .int .i64 (usum (l.take k)) ∧ wr = w2 ∧ Hid (okTo l k) ∧ (0 < k → l.length ≤ 288)) (fun _ i _ => l.length - (intOf i).toNat)
  case atStart => exact ⟨0, Nat.zero_le _, rfl, rfl, rfl, fun i hi => by omega, fun hh => by omega⟩
  case round =>
    obtain ⟨k, hk, rfl, rfl, rfl, HT, h288⟩ := hrel
    by_cases hlt : k < l.length
    · have hlt' : (k : Int) < (l.length : Int) := by omega
      obtain ⟨b, o, hao, hcc⟩ := HS2.out.get (Below.refl _ _) hlt
      subst hao
      by_cases hl2 : 288 < l.length
      · have hl2' : (288 : Int) < l.length := by omega
        clear h288
        go_wp2_with fail
        refine (num_any _ _).mono ?_
        rintro e wy ⟨rfl, rfl⟩
        go_wp2
        go_ret
        refine ⟨?_, HB2.out⟩
        first | rfl | (show Ending.returned (Value.bool (c != 0)) = _; rw [HCN.out])
      have hl2' : ¬ (288 : Int) < l.length := by omega
      obtain ⟨x, HX⟩ : ∃ x, Hid (x = l.getD k 0) := ⟨_, rfl⟩
      have HU := hide (usum_succ hlt).1
      rw [← HX.out] at hcc HU
      by_cases hb : 0 ≤ x ∧ x ≤ 15
      · have HN : Hid (okTo l (k + 1)) := okTo_succ HT.out (by rw [← HX.out]; exact hb)
        obtain ⟨b0, b1⟩ := hb
        obtain ⟨n, rfl⟩ : ∃ n : Nat, x = n := ⟨x.toNat, by omega⟩
        have b0' : ¬ (n : Int) < 0 := by omega
        have b1' : ¬ 15 < (n : Int) := by omega
        have hub : usum (l.take k) ≤ 288 * 16384 := by
          have h1 : Lens (l.take k) := okTo_lens (fun i hi => by
            rw [List.length_take] at hi
            have := HT.out i (by omega)
            rwa [show (l.take k).getD i 0 = l.getD i 0 by simp [List.getD, show i < k by omega]]) (by rw [List.length_take]; omega)
          have := us_bound h1
          rwa [us_sum h1.2] at this
        obtain ⟨u, HUU⟩ : ∃ u : Nat, Hid (u = usum (l.take k)) := ⟨_, rfl⟩
        rw [← HUU.out] at hub HU ⊢
        by_cases h0 : n = 0
        · subst h0
          have HU2 : Hid (usum (l.take (k + 1)) = u) := by show _ = _; rw [HU.out]; simp [wt]
          clear HT h288
          go_wp2
          go_roundw
          case rel => exact ⟨k + 1, by omega, by go_num, by rw [HU2.out], by trivial, HN, fun _ => by omega⟩
          case measure => simp [intOf]; omega
        · have h0' : (0 : Int) < n := by omega
          have hp4 : 2 ^ (15 - n) ≤ 32768 := Nat.pow_le_pow_right (n := 2) (by decide) (show 15 - n ≤ 15 by omega)
          have HU2 : Hid (usum (l.take (k + 1)) = u + 2 ^ (15 - n)) := by show _ = _; rw [HU.out, wt_pos (by omega)]
          have e1 : (15 : Int) - n = ((15 - n : Nat) : Int) := by omega
          obtain ⟨m, HM⟩ : ∃ m : Nat, Hid (m = 15 - n) := ⟨_, rfl⟩
          rw [← HM.out] at hp4 HU2 e1
          have hm15 : m ≤ 15 := by rw [HM.out]; omega
          have hpp : (2 : Int) ^ m = ((2 ^ m : Nat) : Int) := by push_cast; rfl
          obtain ⟨p, HP⟩ : ∃ p : Nat, Hid (p = 2 ^ m) := ⟨_, rfl⟩
          rw [← HP.out] at hp4 HU2 hpp
          have hwp : IntKind.i64.wrap (p : Int) = p := by rw [IntKind.wrap_i64]; omega
          clear HT h288
          go_wp2
          go_roundw
          case rel => exact ⟨k + 1, by omega, by go_num, by rw [HU2.out]; push_cast; rfl, by trivial, HN, fun _ => by omega⟩
          case measure => simp [intOf]; omega
      · by_cases b0 : x < 0
        · clear hb h288
          go_wp2_with fail
          refine (num_any _ _).mono ?_
          rintro e wy ⟨rfl, rfl⟩
          go_wp2
          go_ret
          refine ⟨?_, HB2.out⟩
          first | rfl | (show Ending.returned (Value.bool (c != 0)) = _; rw [HCN.out])
        · have b1 : 15 < x := by omega
          clear hb h288
          go_wp2_with fail
          refine (num_any _ _).mono ?_
          rintro e wy ⟨rfl, rfl⟩
          go_wp2
          go_ret
          refine ⟨?_, HB2.out⟩
          first | rfl | (show Ending.returned (Value.bool (c != 0)) = _; rw [HCN.out])
    · obtain rfl : k = l.length := by omega
      have hlt' : ¬ (l.length : Int) < (l.length : Int) := by omega
      have hl88 : l.length ≤ 288 := by
        rcases Nat.eq_zero_or_pos l.length with e | e
        · omega
        · exact h288 e
      have hl : Lens l := okTo_lens HT.out hl88
      rw [List.take_of_length_le (Nat.le_refl _)]
      have hc0 : chkE l = 0 := by unfold chkE; rw [if_neg (by omega), if_pos hl]
      have hs3 : shp l = 3 := by
        by_cases e : shp l = 3
        · exact e
        · exfalso
          apply HD.out
          unfold cdE
          rw [if_neg (by simp [hc0]), if_neg e]
      have hc51 : c = 51 := by rw [HC.out]; unfold cdE; rw [if_neg (by simp [hc0]), if_pos hs3]
      have hu := (shp_over hl).1 hs3
      have hub := us_bound hl
      rw [us_sum hl.2] at hub
      obtain ⟨u, HUU⟩ : ∃ u : Nat, Hid (u = usum l) := ⟨_, rfl⟩
      rw [← HUU.out] at hu hub ⊢
      have hu' : (32768 : Int) < u := by omega
      subst hc51
      clear h288 HT hl hc0 hs3
      go_wp2_with fail
      refine (num_any _ _).mono ?_
      rintro e wy ⟨rfl, rfl⟩
      go_wp2
      go_ret
      exact ⟨rfl, HB2.out⟩
end Go.Proofs.Ythlbmpmbbdaboaa
