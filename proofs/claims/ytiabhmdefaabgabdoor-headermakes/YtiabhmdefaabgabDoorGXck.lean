import Derived.Test.YtiabhmdefaabgabDoorG5b
namespace Go.Proofs.YtiabhmdefaabgabDoor
open Go.RowKit Go.Maps
set_option maxRecDepth 20000

theorem xrows_any (n : Nat) (w : World) (hn : n ≤ 15) : Calls Tryd.prog 115 #[.int .i64 n] w fun e w' => e = .returned (.int .i64 ((2 ^ (15 - n) : Nat) : Int)) ∧ w' = w := by
  go_enter Tryd.func115, Tryd.ntmps115
  go_wp2
  go_loopw [3, 4] (fun u i wr => ∃ k : Nat, n ≤ k ∧ k ≤ 15 ∧ i = .int .i64 k ∧ u = .int .i64 ((2 ^ (k - n) : Nat) : Int) ∧ wr = w) (fun _ i _ => 15 - (intOf i).toNat)
  case atStart => exact ⟨n, Nat.le_refl _, hn, rfl, by simp, rfl⟩
  case round =>
    obtain ⟨k, hnk, hk, rfl, rfl, rfl⟩ := hrel
    by_cases hlt : k < 15
    · have hlt' : (k : Int) < 15 := by omega
      have b : 2 ^ (k - n) ≤ 32768 := Nat.pow_le_pow_right (n := 2) (by decide) (show k - n ≤ 15 by omega)
      have HS : Hid (2 ^ (k + 1 - n) = 2 * 2 ^ (k - n)) := by show _ = _; rw [show k + 1 - n = (k - n) + 1 by omega, Nat.pow_succ, Nat.mul_comm]
      obtain ⟨p, HP⟩ : ∃ p : Nat, Hid (p = 2 ^ (k - n)) := ⟨_, rfl⟩
      rw [← HP.out] at b HS ⊢
      go_wp2
      go_roundw
      case rel => exact ⟨k + 1, by omega, by omega, by go_num, by rw [HS.out]; push_cast; rfl, by trivial⟩
      case measure => simp [intOf]; omega
    · obtain rfl : k = 15 := by omega
      have hlt' : ¬ ((15 : Nat) : Int) < 15 := by omega
      go_wp2
      go_ret
      exact ⟨rfl, rfl⟩

theorem usum_succ {l : List Int} {k : Nat} (h : k < l.length) : usum (l.take (k + 1)) = usum (l.take k) + wt (l.getD k 0) ∧ tsum (l.take (k + 1)) = tsum (l.take k) + one (l.getD k 0) := by
  have e : l.getD k 0 = l[k] := by simp [h]
  rw [List.take_succ_eq_append_getElem h, e]
  unfold usum tsum
  rw [List.map_append, List.map_append, List.sum_append, List.sum_append]
  simp

theorem sum_bound {l : List Int} (hl : Lens l) (k : Nat) : usum (l.take k) ≤ 288 * 16384 ∧ tsum (l.take k) ≤ 288 := by
  have h1 : Lens (l.take k) := ⟨by rw [List.length_take]; have := hl.1; omega, fun x hx => hl.2 x (List.mem_of_mem_take hx)⟩
  have h2 := us_bound h1
  rw [us_sum h1.2] at h2
  have h3 := sh_le (l.take k) 16
  rw [sh_sum h1.2] at h3
  exact ⟨h2, Nat.le_trans h3 h1.1⟩

theorem xused_any (v : Value) (l : List Int) (w : World) (h : SI w v l) (hl : Lens l) :
    Calls Tryd.prog 102 #[v] w fun e w' => e = .returned (.tuple #[.int .i64 (usum l), .int .i64 (tsum l)]) ∧ w' = w := by
  have HS := hide h
  have HL := hide hl
  have h288 := hl.1
  obtain ⟨ao, cap, rfl, hlc, hcm⟩ := h.open
  clear h hl
  go_enter Tryd.func102, Tryd.ntmps102
  go_wp2
  go_loopw [4, 5, 6] (fun u t i wr => ∃ k : Nat, k ≤ l.length ∧ i = .int .i64 k ∧ u = .int .i64 (usum (l.take k)) ∧ t = .int .i64 (tsum (l.take k)) ∧ wr = w) (fun _ _ i _ => l.length - (intOf i).toNat)
  case atStart => exact ⟨0, Nat.zero_le _, rfl, rfl, rfl, rfl⟩
  case round =>
    obtain ⟨k, hk, rfl, rfl, rfl, rfl⟩ := hrel
    by_cases hlt : k < l.length
    · have hlt' : (k : Int) < (l.length : Int) := by omega
      obtain ⟨b, o, rfl, hc⟩ := HS.out.get (Below.refl _ _) hlt
      obtain ⟨n, HN⟩ : ∃ n, Hid (ln l k = n) := ⟨_, rfl⟩
      have hn15 : n ≤ 15 := by rw [← HN.out]; exact (HL.out.ln k).2
      have HX := hide (usum_succ hlt)
      rw [(HL.out.ln k).1, HN.out] at hc HX
      have hb := sum_bound HL.out k
      obtain ⟨u, HU⟩ : ∃ u : Nat, Hid (u = usum (l.take k)) := ⟨_, rfl⟩
      obtain ⟨t, HT⟩ : ∃ t : Nat, Hid (t = tsum (l.take k)) := ⟨_, rfl⟩
      rw [← HU.out, ← HT.out] at hb HX ⊢
      obtain ⟨hb1, hb2⟩ := hb
      by_cases h0 : n = 0
      · subst h0
        have HY : Hid (usum (l.take (k + 1)) = u ∧ tsum (l.take (k + 1)) = t) := by
          have := HX.out
          show _ ∧ _
          simpa [wt, one] using this
        clear HX
        go_wp2
        go_roundw
        case rel => exact ⟨k + 1, by omega, by go_num, by rw [HY.out.1], by rw [HY.out.2], by trivial⟩
        case measure => simp [intOf]; omega
      · have h0' : (0 : Int) < n := by omega
        have HY : Hid (usum (l.take (k + 1)) = u + 2 ^ (15 - n) ∧ tsum (l.take (k + 1)) = t + 1) := by
          have := HX.out
          unfold wt one at this
          rw [if_pos h0', if_pos h0'] at this
          exact this
        have b4 : 2 ^ (15 - n) ≤ 32768 := Nat.pow_le_pow_right (n := 2) (by decide) (show 15 - n ≤ 15 by omega)
        clear HX
        go_wp2_with fail
        refine (xrows_any n _ hn15).mono ?_
        rintro e w1 ⟨rfl, rfl⟩
        obtain ⟨p, HP⟩ : ∃ p : Nat, Hid (p = 2 ^ (15 - n)) := ⟨_, rfl⟩
        rw [← HP.out] at b4 HY ⊢
        go_wp2
        go_roundw
        case rel => exact ⟨k + 1, by omega, by go_num, by rw [HY.out.1]; push_cast; rfl, by rw [HY.out.2]; push_cast; rfl, by trivial⟩
        case measure => simp [intOf]; omega
    · obtain rfl : k = l.length := by omega
      have hlt' : ¬ (l.length : Int) < (l.length : Int) := by omega
      rw [List.take_of_length_le (Nat.le_refl _)]
      go_wp2
      go_ret2
      exact ⟨rfl, rfl⟩

theorem xvalid_any (v : Value) (l : List Int) (w : World) (h : SI w v l) :
    Calls Tryd.prog 101 #[v] w fun e w' => e = .returned (.int .i64 (chkE l)) ∧ w' = w := by
  have HS := hide h
  obtain ⟨ao, cap, rfl, hlc, hcm⟩ := h.open
  clear h
  by_cases hlen : 288 < l.length
  · have hlen' : (288 : Int) < l.length := by omega
    have HE : Hid (chkE l = 1) := if_pos hlen
    go_enter Tryd.func101, Tryd.ntmps101
    go_wp2
    go_ret
    rw [HE.out]
    exact ⟨rfl, rfl⟩
  have hlen' : ¬ (288 : Int) < l.length := by omega
  have HNL := hide hlen
  clear hlen
  go_enter Tryd.func101, Tryd.ntmps101
  go_wp2
  go_loopw [3] (fun i wr => ∃ k : Nat, k ≤ l.length ∧ i = .int .i64 k ∧ wr = w ∧ Hid (okTo l k)) (fun i _ => l.length - (intOf i).toNat)
  case atStart => exact ⟨0, Nat.zero_le _, rfl, rfl, fun i hi => by omega⟩
  case round =>
    obtain ⟨k, hk, rfl, rfl, HT⟩ := hrel
    by_cases hlt : k < l.length
    · have hlt' : (k : Int) < (l.length : Int) := by omega
      obtain ⟨b, o, rfl, hc⟩ := HS.out.get (Below.refl _ _) hlt
      obtain ⟨x, HX⟩ : ∃ x, Hid (x = l.getD k 0) := ⟨_, rfl⟩
      rw [← HX.out] at hc
      by_cases hb : 0 ≤ x ∧ x ≤ 15
      · have HN : Hid (okTo l (k + 1)) := okTo_succ HT.out (by rw [← HX.out]; exact hb)
        obtain ⟨b0, b1⟩ := hb
        have b0' : ¬ x < 0 := by omega
        have b1' : ¬ 15 < x := by omega
        clear HT
        go_wp2
        go_roundw
        case rel => exact ⟨k + 1, by omega, by go_num, by trivial, HN⟩
        case measure => simp [intOf]; omega
      · have hn : ¬ Lens l := not_lens (k := k) (by rw [← HX.out]; exact hb)
        have HE : Hid (chkE l = 50) := by show _ = _; unfold chkE; rw [if_neg HNL.out, if_neg hn]
        clear hn
        by_cases b0 : x < 0
        · clear hb
          go_wp2
          go_ret
          rw [HE.out]
          exact ⟨rfl, rfl⟩
        · have b1 : 15 < x := by omega
          clear hb
          go_wp2
          go_ret
          rw [HE.out]
          exact ⟨rfl, rfl⟩
    · obtain rfl : k = l.length := by omega
      have hl : Lens l := okTo_lens HT.out (by have := HNL.out; omega)
      have HE : Hid (chkE l = 0) := by show _ = _; unfold chkE; rw [if_neg HNL.out, if_pos hl]
      have hlt' : ¬ (l.length : Int) < (l.length : Int) := by omega
      clear hl HT
      go_wp2
      go_ret
      rw [HE.out]
      exact ⟨rfl, rfl⟩

theorem xcheck_any (v : Value) (l : List Int) (w : World) (h : SI w v l) :
    Calls Tryd.prog 76 #[v] w fun e w' => e = .returned (.tuple #[.int .i64 (chkS l), .int .i64 (chkE l)]) ∧ w' = w := by
  have HS := hide h
  obtain ⟨ao, cap, rfl, hlc, hcm⟩ := h.open
  clear h
  by_cases h0 : chkE l = 0
  case neg =>
    have h1 : (chkE l == 0) = false := by simpa using h0
    have hn : ¬ Lens l := fun hl => h0 (by unfold chkE; rw [if_neg (by have := hl.1; omega), if_pos hl])
    have HE : Hid (chkS l = 0) := if_neg hn
    obtain ⟨q, HQ⟩ : ∃ q, Hid (q = chkE l) := ⟨_, rfl⟩
    rw [← HQ.out] at h0 h1
    rw [HE.out, ← HQ.out]
    clear hn
    go_enter Tryd.func76, Tryd.ntmps76
    go_wp2_with fail
    refine (xvalid_any _ l _ HS.out).mono ?_
    rintro e w1 ⟨rfl, rfl⟩
    rw [← HQ.out]
    go_wp2
    go_ret2
    exact ⟨rfl, rfl⟩
  obtain ⟨hl, hs⟩ := chkE_zero h0
  have HL := hide hl
  have HQ := hide h0
  have hb := sum_bound hl l.length
  rw [List.take_of_length_le (Nat.le_refl _)] at hb
  obtain ⟨U, HU⟩ : ∃ U : Nat, Hid (U = usum l) := ⟨_, rfl⟩
  obtain ⟨T, HT⟩ : ∃ T : Nat, Hid (T = tsum l) := ⟨_, rfl⟩
  have HSH : Hid (chkS l = if T = 0 then 0 else if T = 1 ∧ U = 16384 then 1 else if 32768 < U then 3 else if U = 32768 then 4 else 2) := by
    show _ = _
    rw [hs, HU.out, HT.out]; rfl
  rw [← HU.out, ← HT.out] at hb
  obtain ⟨hb1, hb2⟩ := hb
  clear hl hs h0
  by_cases c1 : T = 0
  · have HX : Hid (chkS l = 0) := by show _ = _; rw [HSH.out, if_pos c1]
    clear HSH
    subst c1
    go_enter Tryd.func76, Tryd.ntmps76
    go_wp2_with fail
    refine (xvalid_any _ l _ HS.out).mono ?_
    rintro e w1 ⟨rfl, rfl⟩
    rw [HQ.out]
    go_wp2_with fail
    refine (xused_any _ l _ HS.out HL.out).mono ?_
    rintro e w2 ⟨rfl, rfl⟩
    rw [← HU.out, ← HT.out]
    go_wp2
    go_ret2
    rw [HX.out, HQ.out]
    exact ⟨rfl, rfl⟩
  by_cases c2 : T = 1 ∧ U = 16384
  · have HX : Hid (chkS l = 1) := by show _ = _; rw [HSH.out, if_neg c1, if_pos c2]
    clear HSH c1
    obtain ⟨e1, e2⟩ := c2
    subst e1 e2
    go_enter Tryd.func76, Tryd.ntmps76
    go_wp2_with fail
    refine (xvalid_any _ l _ HS.out).mono ?_
    rintro e w1 ⟨rfl, rfl⟩
    rw [HQ.out]
    go_wp2_with fail
    refine (xused_any _ l _ HS.out HL.out).mono ?_
    rintro e w2 ⟨rfl, rfl⟩
    rw [← HU.out, ← HT.out]
    go_wp2
    go_ret2
    rw [HX.out, HQ.out]
    exact ⟨rfl, rfl⟩
  have HX : Hid (chkS l = if 32768 < U then 3 else if U = 32768 then 4 else 2) := by show _ = _; rw [HSH.out, if_neg c1, if_neg c2]
  clear HSH
  have c1' : ((T : Int) == 0) = false := by simp; omega
  by_cases c3 : 32768 < U
  · have HY : Hid (chkS l = 3) := by show _ = _; rw [HX.out, if_pos c3]
    clear HX c2
    by_cases t1 : T = 1
    · subst t1
      have u1 : ((U : Int) == 16384) = false := by simp; omega
      go_enter Tryd.func76, Tryd.ntmps76
      go_wp2_with fail
      refine (xvalid_any _ l _ HS.out).mono ?_
      rintro e w1 ⟨rfl, rfl⟩
      rw [HQ.out]
      go_wp2_with fail
      refine (xused_any _ l _ HS.out HL.out).mono ?_
      rintro e w2 ⟨rfl, rfl⟩
      rw [← HU.out, ← HT.out]
      go_wp2
      go_ret2
      rw [HY.out, HQ.out]
      exact ⟨rfl, rfl⟩
    · have t1' : ((T : Int) == 1) = false := by simp; omega
      go_enter Tryd.func76, Tryd.ntmps76
      go_wp2_with fail
      refine (xvalid_any _ l _ HS.out).mono ?_
      rintro e w1 ⟨rfl, rfl⟩
      rw [HQ.out]
      go_wp2_with fail
      refine (xused_any _ l _ HS.out HL.out).mono ?_
      rintro e w2 ⟨rfl, rfl⟩
      rw [← HU.out, ← HT.out]
      go_wp2
      go_ret2
      rw [HY.out, HQ.out]
      exact ⟨rfl, rfl⟩
  by_cases c4 : U = 32768
  · have HY : Hid (chkS l = 4) := by show _ = _; rw [HX.out, if_neg c3, if_pos c4]
    clear HX c2 c3
    subst c4
    by_cases t1 : T = 1
    · subst t1
      go_enter Tryd.func76, Tryd.ntmps76
      go_wp2_with fail
      refine (xvalid_any _ l _ HS.out).mono ?_
      rintro e w1 ⟨rfl, rfl⟩
      rw [HQ.out]
      go_wp2_with fail
      refine (xused_any _ l _ HS.out HL.out).mono ?_
      rintro e w2 ⟨rfl, rfl⟩
      rw [← HU.out, ← HT.out]
      go_wp2
      go_ret2
      rw [HY.out, HQ.out]
      exact ⟨rfl, rfl⟩
    · have t1' : ((T : Int) == 1) = false := by simp; omega
      go_enter Tryd.func76, Tryd.ntmps76
      go_wp2_with fail
      refine (xvalid_any _ l _ HS.out).mono ?_
      rintro e w1 ⟨rfl, rfl⟩
      rw [HQ.out]
      go_wp2_with fail
      refine (xused_any _ l _ HS.out HL.out).mono ?_
      rintro e w2 ⟨rfl, rfl⟩
      rw [← HU.out, ← HT.out]
      go_wp2
      go_ret2
      rw [HY.out, HQ.out]
      exact ⟨rfl, rfl⟩
  · have HY : Hid (chkS l = 2) := by show _ = _; rw [HX.out, if_neg c3, if_neg c4]
    clear HX
    have u2 : ((U : Int) == 32768) = false := by simp; omega
    by_cases t1 : T = 1
    · subst t1
      have u1 : ((U : Int) == 16384) = false := by simp; omega
      clear c2
      go_enter Tryd.func76, Tryd.ntmps76
      go_wp2_with fail
      refine (xvalid_any _ l _ HS.out).mono ?_
      rintro e w1 ⟨rfl, rfl⟩
      rw [HQ.out]
      go_wp2_with fail
      refine (xused_any _ l _ HS.out HL.out).mono ?_
      rintro e w2 ⟨rfl, rfl⟩
      rw [← HU.out, ← HT.out]
      go_wp2
      go_ret2
      rw [HY.out, HQ.out]
      exact ⟨rfl, rfl⟩
    · have t1' : ((T : Int) == 1) = false := by simp; omega
      clear c2
      go_enter Tryd.func76, Tryd.ntmps76
      go_wp2_with fail
      refine (xvalid_any _ l _ HS.out).mono ?_
      rintro e w1 ⟨rfl, rfl⟩
      rw [HQ.out]
      go_wp2_with fail
      refine (xused_any _ l _ HS.out HL.out).mono ?_
      rintro e w2 ⟨rfl, rfl⟩
      rw [← HU.out, ← HT.out]
      go_wp2
      go_ret2
      rw [HY.out, HQ.out]
      exact ⟨rfl, rfl⟩

/-- The document's words so far: all of the shorter lengths, of this length those ahead. -/
def outN (l : List Int) (n s : Nat) : List Int := (List.range l.length).map fun t => if 0 < ln l t ∧ (ln l t < n ∨ (ln l t = n ∧ t < s)) then (wd l t : Int) else 0

theorem outN_len (l : List Int) (n s : Nat) : (outN l n s).length = l.length := by simp [outN]

theorem outN_start (l : List Int) : outN l 1 0 = List.replicate l.length 0 := by
  apply List.ext_getElem
  · simp [outN]
  · intro i h1 h2
    simp only [outN, List.getElem_map, List.getElem_range, List.getElem_replicate]
    rw [if_neg (by omega)]

theorem outN_skip {l : List Int} {n s : Nat} (h : ln l s ≠ n) : outN l n (s + 1) = outN l n s := by
  unfold outN
  apply List.map_congr_left
  intro t _
  by_cases e : t = s
  · subst e
    by_cases c : 0 < ln l t ∧ (ln l t < n ∨ (ln l t = n ∧ t < t))
    · rw [if_pos c, if_pos (by omega)]
    · rw [if_neg c, if_neg (by omega)]
  · by_cases c : 0 < ln l t ∧ (ln l t < n ∨ (ln l t = n ∧ t < s))
    · rw [if_pos c, if_pos (by omega)]
    · rw [if_neg c, if_neg (by omega)]

theorem outN_step {l : List Int} {n s : Nat} (h : ln l s = n) (h0 : 0 < n) : outN l n (s + 1) = (outN l n s).set s (wd l s : Int) := by
  apply List.ext_getElem
  · simp [outN]
  · intro t h1 h2
    rw [List.getElem_set]
    simp only [outN, List.getElem_map, List.getElem_range]
    by_cases e : s = t
    · subst e
      rw [if_pos (by omega), if_pos rfl]
    · rw [if_neg e]
      by_cases c : 0 < ln l t ∧ (ln l t < n ∨ (ln l t = n ∧ t < s))
      · rw [if_pos c, if_pos (by omega)]
      · rw [if_neg c, if_neg (by omega)]

theorem outN_next {l : List Int} {n : Nat} : outN l (n + 1) 0 = outN l n l.length := by
  unfold outN
  apply List.map_congr_left
  intro t ht
  have ht' : t < l.length := List.mem_range.1 ht
  by_cases c : 0 < ln l t ∧ (ln l t < n ∨ (ln l t = n ∧ t < l.length))
  · rw [if_pos c, if_pos (by omega)]
  · rw [if_neg c, if_neg (by omega)]

theorem outN_end {l : List Int} (hl : Lens l) : outN l 16 0 = wds l := by
  unfold outN wds
  apply List.map_congr_left
  intro t _
  have := (hl.ln t).2
  by_cases c : 0 < ln l t
  · rw [if_pos (by omega)]
  · rw [if_neg (by omega)]
    have : ln l t = 0 := by omega
    simp [wd, this]

def Xst (w : World) (l : List Int) (n s : Nat) (wr : World) : Prop := wr.heap[w.heap.size]? = some (.cells ((outN l n s).map (Value.int .i64)).toArray 3 (0, 0)) ∧ Below w.heap.size w wr

theorem Xst.step {w wr : World} {l : List Int} {n s : Nat} (h : Xst w l n s wr) (hn : ln l s = n) (h0 : 0 < n) (x : Int) (hx : x = (wd l s : Int)) : Xst w l n (s + 1) (wr.setCell ⟨w.heap.size, s, none⟩ (.int .i64 x)) :=
  ⟨by rw [heap_setCell_same _ _ _ _ _ _ h.1, map_set, outN_step hn h0, hx], h.2.setCell (by show _ ≤ w.heap.size; omega) _⟩

theorem wd_at {l : List Int} (hl : Lens l) {s n : Nat} (hn : ln l s = n) (h0 : 0 < n) : wd l s = fi l n + (l.take s).count (n : Int) := by
  unfold wd rk
  rw [if_neg (by omega), (hl.ln s).1, hn]

end Go.Proofs.YtiabhmdefaabgabDoor

