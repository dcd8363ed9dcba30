import Derived.Test.YtiabhmdefaabgacGreatDoorG5b
import Derived.Test.YtiabhmdefaabgacGreatDoorGNx
import Derived.Test.YtiabhmdefaabgacGreatDoorGQq
import Derived.Test.YtiabhmdefaabgacGreatDoorGXw
import Derived.Test.YtiabhmdefaabgacGreatDoorGEnc
namespace Go.Proofs.YtiabhmdefaabgacGreatDoor
open Go.RowKit Go.Maps
set_option maxRecDepth 20000

theorem xrows_any (n : Nat) (w : World) (hn : n ≤ 15) : Calls Tryz.prog 98 #[.int .i64 n] w fun e w' => e = .returned (.int .i64 ((2 ^ (15 - n) : Nat) : Int)) ∧ w' = w := by
  go_enter Tryz.func98, Tryz.ntmps98
  go_wp2
  go_loopw [3, 4] (fun u i wr => ∃ k : Nat, n ≤ k ∧ k ≤ 15 ∧ i = .int .i64 k ∧ u = .int .i64 ((2 ^ (k - n) : Nat) : Int) ∧ wr = w) (fun _ i _ => 15 - (intOf i).toNat)
  case atStart => exact ⟨n, Nat.le_refl _, hn, rfl, by simp, rfl⟩
  case round =>
    obtain ⟨k, hnk, hk, rfl, rfl, rfl⟩ := hrel
    by_cases hlt : k < 15
    · have hlt' : (k : Int) < 15 := by omega
      have b : 2 ^ (k - n) ≤ 32768 := Nat.pow_le_pow_right (n := 2) (by decide) (show k - n ≤ 15 by omega)
      have HS : Hid (2 ^ (k + 1 - n) = 2 * 2 ^ (k - n)) := by show _ = _; rw [show k + 1 - n = (k - n) + 1 by omega, Nat.pow_succ, Nat.mul_comm]
      obtain ⟨p, HP⟩ : ∃ p : Nat, Hid (p = 2 ^ (k - n)) := ⟨_, rfl⟩
      rw [← HP.out] at b HS ⊢
      go_wp2
      go_roundw
      case rel => exact ⟨k + 1, by omega, by omega, by go_num, by rw [HS.out]; push_cast; rfl, by trivial⟩
      case measure => simp [intOf]; omega
    · obtain rfl : k = 15 := by omega
      have hlt' : ¬ ((15 : Nat) : Int) < 15 := by omega
      go_wp2
      go_ret
      exact ⟨rfl, rfl⟩

theorem usum_succ {l : List Int} {k : Nat} (h : k < l.length) : usum (l.take (k + 1)) = usum (l.take k) + wt (l.getD k 0) ∧ tsum (l.take (k + 1)) = tsum (l.take k) + one (l.getD k 0) := by
  have e : l.getD k 0 = l[k] := by simp [h]
  rw [List.take_succ_eq_append_getElem h, e]
  unfold usum tsum
  rw [List.map_append, List.map_append, List.sum_append, List.sum_append]
  simp

theorem sum_bound {l : List Int} (hl : Lens l) (k : Nat) : usum (l.take k) ≤ 288 * 16384 ∧ tsum (l.take k) ≤ 288 := by
  have h1 : Lens (l.take k) := ⟨by rw [List.length_take]; have := hl.1; omega, fun x hx => hl.2 x (List.mem_of_mem_take hx)⟩
  have h2 := us_bound h1
  rw [us_sum h1.2] at h2
  have h3 := sh_le (l.take k) 16
  rw [sh_sum h1.2] at h3
  exact ⟨h2, Nat.le_trans h3 h1.1⟩

theorem xused_any (v : Value) (l : List Int) (w : World) (h : SI w v l) (hl : Lens l) :
    Calls Tryz.prog 88 #[v] w fun e w' => e = .returned (.tuple #[.int .i64 (usum l), .int .i64 (tsum l)]) ∧ w' = w := by
  have HS := hide h
  have HL := hide hl
  have h288 := hl.1
  obtain ⟨ao, cap, rfl, hlc, hcm⟩ := h.open
  clear h hl
  go_enter Tryz.func88, Tryz.ntmps88
  go_wp2
  go_loopw [4, 5, 6] (fun u t i wr => ∃ k : Nat, k ≤ l.length ∧ i = .int .i64 k ∧ u = .int .i64 (usum (l.take k)) ∧ t = .int .i64 (tsum (l.take k)) ∧ wr = w) (fun _ _ i _ => l.length - (intOf i).toNat)
  case atStart => exact ⟨0, Nat.zero_le _, rfl, rfl, rfl, rfl⟩
  case round =>
    obtain ⟨k, hk, rfl, rfl, rfl, rfl⟩ := hrel
    by_cases hlt : k < l.length
    · have hlt' : (k : Int) < (l.length : Int) := by omega
      obtain ⟨b, o, rfl, hc⟩ := HS.out.get (Below.refl _ _) hlt
      obtain ⟨n, HN⟩ : ∃ n, Hid (ln l k = n) := ⟨_, rfl⟩
      have hn15 : n ≤ 15 := by rw [← HN.out]; exact (HL.out.ln k).2
      have HX := hide (usum_succ hlt)
      rw [(HL.out.ln k).1, HN.out] at hc HX
      have hb := sum_bound HL.out k
      obtain ⟨u, HU⟩ : ∃ u : Nat, Hid (u = usum (l.take k)) := ⟨_, rfl⟩
      obtain ⟨t, HT⟩ : ∃ t : Nat, Hid (t = tsum (l.take k)) := ⟨_, rfl⟩
      rw [← HU.out, ← HT.out] at hb HX ⊢
      obtain ⟨hb1, hb2⟩ := hb
      by_cases h0 : n = 0
      · subst h0
        have HY : Hid (usum (l.take (k + 1)) = u ∧ tsum (l.take (k + 1)) = t) := by
          have := HX.out
          show _ ∧ _
          simpa [wt, one] using this
        clear HX
        go_wp2
        go_roundw
        case rel => exact ⟨k + 1, by omega, by go_num, by rw [HY.out.1], by rw [HY.out.2], by trivial⟩
        case measure => simp [intOf]; omega
      · have h0' : (0 : Int) < n := by omega
        have HY : Hid (usum (l.take (k + 1)) = u + 2 ^ (15 - n) ∧ tsum (l.take (k + 1)) = t + 1) := by
          have := HX.out
          unfold wt one at this
          rw [if_pos h0', if_pos h0'] at this
          exact this
        have b4 : 2 ^ (15 - n) ≤ 32768 := Nat.pow_le_pow_right (n := 2) (by decide) (show 15 - n ≤ 15 by omega)
        clear HX
        go_wp2_with fail
        refine (xrows_any n _ hn15).mono ?_
        rintro e w1 ⟨rfl, rfl⟩
        obtain ⟨p, HP⟩ : ∃ p : Nat, Hid (p = 2 ^ (15 - n)) := ⟨_, rfl⟩
        rw [← HP.out] at b4 HY ⊢
        go_wp2
        go_roundw
        case rel => exact ⟨k + 1, by omega, by go_num, by rw [HY.out.1]; push_cast; rfl, by rw [HY.out.2]; push_cast; rfl, by trivial⟩
        case measure => simp [intOf]; omega
    · obtain rfl : k = l.length := by omega
      have hlt' : ¬ (l.length : Int) < (l.length : Int) := by omega
      rw [List.take_of_length_le (Nat.le_refl _)]
      go_wp2
      go_ret2
      exact ⟨rfl, rfl⟩

theorem xvalid_any (v : Value) (l : List Int) (w : World) (h : SI w v l) :
    Calls Tryz.prog 87 #[v] w fun e w' => e = .returned (.int .i64 (chkE l)) ∧ w' = w := by
  have HS := hide h
  obtain ⟨ao, cap, rfl, hlc, hcm⟩ := h.open
  clear h
  by_cases hlen : 288 < l.length
  · have hlen' : (288 : Int) < l.length := by omega
    have HE : Hid (chkE l = 1) := if_pos hlen
    go_enter Tryz.func87, Tryz.ntmps87
    go_wp2
    go_ret
    rw [HE.out]
    exact ⟨rfl, rfl⟩
  have hlen' : ¬ (288 : Int) < l.length := by omega
  have HNL := hide hlen
  clear hlen
  go_enter Tryz.func87, Tryz.ntmps87
  go_wp2
  go_loopw [3] (fun i wr => ∃ k : Nat, k ≤ l.length ∧ i = .int .i64 k ∧ wr = w ∧ Hid (okTo l k)) (fun i _ => l.length - (intOf i).toNat)
  case atStart => exact ⟨0, Nat.zero_le _, rfl, rfl, fun i hi => by omega⟩
  case round =>
    obtain ⟨k, hk, rfl, rfl, HT⟩ := hrel
    by_cases hlt : k < l.length
    · have hlt' : (k : Int) < (l.length : Int) := by omega
      obtain ⟨b, o, rfl, hc⟩ := HS.out.get (Below.refl _ _) hlt
      obtain ⟨x, HX⟩ : ∃ x, Hid (x = l.getD k 0) := ⟨_, rfl⟩
      rw [← HX.out] at hc
      by_cases hb : 0 ≤ x ∧ x ≤ 15
      · have HN : Hid (okTo l (k + 1)) := okTo_succ HT.out (by rw [← HX.out]; exact hb)
        obtain ⟨b0, b1⟩ := hb
        have b0' : ¬ x < 0 := by omega
        have b1' : ¬ 15 < x := by omega
        clear HT
        go_wp2
        go_roundw
        case rel => exact ⟨k + 1, by omega, by go_num, by trivial, HN⟩
        case measure => simp [intOf]; omega
      · have hn : ¬ Lens l := not_lens (k := k) (by rw [← HX.out]; exact hb)
        have HE : Hid (chkE l = 50) := by show _ = _; unfold chkE; rw [if_neg HNL.out, if_neg hn]
        clear hn
        by_cases b0 : x < 0
        · clear hb
          go_wp2
          go_ret
          rw [HE.out]
          exact ⟨rfl, rfl⟩
        · have b1 : 15 < x := by omega
          clear hb
          go_wp2
          go_ret
          rw [HE.out]
          exact ⟨rfl, rfl⟩
    · obtain rfl : k = l.length := by omega
      have hl : Lens l := okTo_lens HT.out (by have := HNL.out; omega)
      have HE : Hid (chkE l = 0) := by show _ = _; unfold chkE; rw [if_neg HNL.out, if_pos hl]
      have hlt' : ¬ (l.length : Int) < (l.length : Int) := by omega
      clear hl HT
      go_wp2
      go_ret
      rw [HE.out]
      exact ⟨rfl, rfl⟩

theorem xcheck_any (v : Value) (l : List Int) (w : World) (h : SI w v l) :
    Calls Tryz.prog 66 #[v] w fun e w' => e = .returned (.tuple #[.int .i64 (chkS l), .int .i64 (chkE l)]) ∧ w' = w := by
  have HS := hide h
  obtain ⟨ao, cap, rfl, hlc, hcm⟩ := h.open
  clear h
  by_cases h0 : chkE l = 0
  case neg =>
    have h1 : (chkE l == 0) = false := by simpa using h0
    have hn : ¬ Lens l := fun hl => h0 (by unfold chkE; rw [if_neg (by have := hl.1; omega), if_pos hl])
    have HE : Hid (chkS l = 0) := if_neg hn
    obtain ⟨q, HQ⟩ : ∃ q, Hid (q = chkE l) := ⟨_, rfl⟩
    rw [← HQ.out] at h0 h1
    rw [HE.out, ← HQ.out]
    clear hn
    go_enter Tryz.func66, Tryz.ntmps66
    go_wp2_with fail
    refine (xvalid_any _ l _ HS.out).mono ?_
    rintro e w1 ⟨rfl, rfl⟩
    rw [← HQ.out]
    go_wp2
    go_ret2
    exact ⟨rfl, rfl⟩
  obtain ⟨hl, hs⟩ := chkE_zero h0
  have HL := hide hl
  have HQ := hide h0
  have hb := sum_bound hl l.length
  rw [List.take_of_length_le (Nat.le_refl _)] at hb
  obtain ⟨U, HU⟩ : ∃ U : Nat, Hid (U = usum l) := ⟨_, rfl⟩
  obtain ⟨T, HT⟩ : ∃ T : Nat, Hid (T = tsum l) := ⟨_, rfl⟩
  have HSH : Hid (chkS l = if T = 0 then 0 else if T = 1 ∧ U = 16384 then 1 else if 32768 < U then 3 else if U = 32768 then 4 else 2) := by
    show _ = _
    rw [hs, HU.out, HT.out]; rfl
  rw [← HU.out, ← HT.out] at hb
  obtain ⟨hb1, hb2⟩ := hb
  clear hl hs h0
  by_cases c1 : T = 0
  · have HX : Hid (chkS l = 0) := by show _ = _; rw [HSH.out, if_pos c1]
    clear HSH
    subst c1
    go_enter Tryz.func66, Tryz.ntmps66
    go_wp2_with fail
    refine (xvalid_any _ l _ HS.out).mono ?_
    rintro e w1 ⟨rfl, rfl⟩
    rw [HQ.out]
    go_wp2_with fail
    refine (xused_any _ l _ HS.out HL.out).mono ?_
    rintro e w2 ⟨rfl, rfl⟩
    rw [← HU.out, ← HT.out]
    go_wp2
    go_ret2
    rw [HX.out, HQ.out]
    exact ⟨rfl, rfl⟩
  by_cases c2 : T = 1 ∧ U = 16384
  · have HX : Hid (chkS l = 1) := by show _ = _; rw [HSH.out, if_neg c1, if_pos c2]
    clear HSH c1
    obtain ⟨e1, e2⟩ := c2
    subst e1 e2
    go_enter Tryz.func66, Tryz.ntmps66
    go_wp2_with fail
    refine (xvalid_any _ l _ HS.out).mono ?_
    rintro e w1 ⟨rfl, rfl⟩
    rw [HQ.out]
    go_wp2_with fail
    refine (xused_any _ l _ HS.out HL.out).mono ?_
    rintro e w2 ⟨rfl, rfl⟩
    rw [← HU.out, ← HT.out]
    go_wp2
    go_ret2
    rw [HX.out, HQ.out]
    exact ⟨rfl, rfl⟩
  have HX : Hid (chkS l = if 32768 < U then 3 else if U = 32768 then 4 else 2) := by show _ = _; rw [HSH.out, if_neg c1, if_neg c2]
  clear HSH
  have c1' : ((T : Int) == 0) = false := by simp; omega
  by_cases c3 : 32768 < U
  · have HY : Hid (chkS l = 3) := by show _ = _; rw [HX.out, if_pos c3]
    clear HX c2
    by_cases t1 : T = 1
    · subst t1
      have u1 : ((U : Int) == 16384) = false := by simp; omega
      go_enter Tryz.func66, Tryz.ntmps66
      go_wp2_with fail
      refine (xvalid_any _ l _ HS.out).mono ?_
      rintro e w1 ⟨rfl, rfl⟩
      rw [HQ.out]
      go_wp2_with fail
      refine (xused_any _ l _ HS.out HL.out).mono ?_
      rintro e w2 ⟨rfl, rfl⟩
      rw [← HU.out, ← HT.out]
      go_wp2
      go_ret2
      rw [HY.out, HQ.out]
      exact ⟨rfl, rfl⟩
    · have t1' : ((T : Int) == 1) = false := by simp; omega
      go_enter Tryz.func66, Tryz.ntmps66
      go_wp2_with fail
      refine (xvalid_any _ l _ HS.out).mono ?_
      rintro e w1 ⟨rfl, rfl⟩
      rw [HQ.out]
      go_wp2_with fail
      refine (xused_any _ l _ HS.out HL.out).mono ?_
      rintro e w2 ⟨rfl, rfl⟩
      rw [← HU.out, ← HT.out]
      go_wp2
      go_ret2
      rw [HY.out, HQ.out]
      exact ⟨rfl, rfl⟩
  by_cases c4 : U = 32768
  · have HY : Hid (chkS l = 4) := by show _ = _; rw [HX.out, if_neg c3, if_pos c4]
    clear HX c2 c3
    subst c4
    by_cases t1 : T = 1
    · subst t1
      go_enter Tryz.func66, Tryz.ntmps66
      go_wp2_with fail
      refine (xvalid_any _ l _ HS.out).mono ?_
      rintro e w1 ⟨rfl, rfl⟩
      rw [HQ.out]
      go_wp2_with fail
      refine (xused_any _ l _ HS.out HL.out).mono ?_
      rintro e w2 ⟨rfl, rfl⟩
      rw [← HU.out, ← HT.out]
      go_wp2
      go_ret2
      rw [HY.out, HQ.out]
      exact ⟨rfl, rfl⟩
    · have t1' : ((T : Int) == 1) = false := by simp; omega
      go_enter Tryz.func66, Tryz.ntmps66
      go_wp2_with fail
      refine (xvalid_any _ l _ HS.out).mono ?_
      rintro e w1 ⟨rfl, rfl⟩
      rw [HQ.out]
      go_wp2_with fail
      refine (xused_any _ l _ HS.out HL.out).mono ?_
      rintro e w2 ⟨rfl, rfl⟩
      rw [← HU.out, ← HT.out]
      go_wp2
      go_ret2
      rw [HY.out, HQ.out]
      exact ⟨rfl, rfl⟩
  · have HY : Hid (chkS l = 2) := by show _ = _; rw [HX.out, if_neg c3, if_neg c4]
    clear HX
    have u2 : ((U : Int) == 32768) = false := by simp; omega
    by_cases t1 : T = 1
    · subst t1
      have u1 : ((U : Int) == 16384) = false := by simp; omega
      clear c2
      go_enter Tryz.func66, Tryz.ntmps66
      go_wp2_with fail
      refine (xvalid_any _ l _ HS.out).mono ?_
      rintro e w1 ⟨rfl, rfl⟩
      rw [HQ.out]
      go_wp2_with fail
      refine (xused_any _ l _ HS.out HL.out).mono ?_
      rintro e w2 ⟨rfl, rfl⟩
      rw [← HU.out, ← HT.out]
      go_wp2
      go_ret2
      rw [HY.out, HQ.out]
      exact ⟨rfl, rfl⟩
    · have t1' : ((T : Int) == 1) = false := by simp; omega
      clear c2
      go_enter Tryz.func66, Tryz.ntmps66
      go_wp2_with fail
      refine (xvalid_any _ l _ HS.out).mono ?_
      rintro e w1 ⟨rfl, rfl⟩
      rw [HQ.out]
      go_wp2_with fail
      refine (xused_any _ l _ HS.out HL.out).mono ?_
      rintro e w2 ⟨rfl, rfl⟩
      rw [← HU.out, ← HT.out]
      go_wp2
      go_ret2
      rw [HY.out, HQ.out]
      exact ⟨rfl, rfl⟩

/-- The document's words so far: all of the shorter lengths, of this length those ahead. -/
def outN (l : List Int) (n s : Nat) : List Int := (List.range l.length).map fun t => if 0 < ln l t ∧ (ln l t < n ∨ (ln l t = n ∧ t < s)) then (wd l t : Int) else 0

theorem outN_len (l : List Int) (n s : Nat) : (outN l n s).length = l.length := by simp [outN]

theorem outN_start (l : List Int) : outN l 1 0 = List.replicate l.length 0 := by
  apply List.ext_getElem
  · simp [outN]
  · intro i h1 h2
    simp only [outN, List.getElem_map, List.getElem_range, List.getElem_replicate]
    rw [if_neg (by omega)]

theorem outN_skip {l : List Int} {n s : Nat} (h : ln l s ≠ n) : outN l n (s + 1) = outN l n s := by
  unfold outN
  apply List.map_congr_left
  intro t _
  by_cases e : t = s
  · subst e
    by_cases c : 0 < ln l t ∧ (ln l t < n ∨ (ln l t = n ∧ t < t))
    · rw [if_pos c, if_pos (by omega)]
    · rw [if_neg c, if_neg (by omega)]
  · by_cases c : 0 < ln l t ∧ (ln l t < n ∨ (ln l t = n ∧ t < s))
    · rw [if_pos c, if_pos (by omega)]
    · rw [if_neg c, if_neg (by omega)]

theorem outN_step {l : List Int} {n s : Nat} (h : ln l s = n) (h0 : 0 < n) : outN l n (s + 1) = (outN l n s).set s (wd l s : Int) := by
  apply List.ext_getElem
  · simp [outN]
  · intro t h1 h2
    rw [List.getElem_set]
    simp only [outN, List.getElem_map, List.getElem_range]
    by_cases e : s = t
    · subst e
      rw [if_pos (by omega), if_pos rfl]
    · rw [if_neg e]
      by_cases c : 0 < ln l t ∧ (ln l t < n ∨ (ln l t = n ∧ t < s))
      · rw [if_pos c, if_pos (by omega)]
      · rw [if_neg c, if_neg (by omega)]

theorem outN_next {l : List Int} {n : Nat} : outN l (n + 1) 0 = outN l n l.length := by
  unfold outN
  apply List.map_congr_left
  intro t ht
  have ht' : t < l.length := List.mem_range.1 ht
  by_cases c : 0 < ln l t ∧ (ln l t < n ∨ (ln l t = n ∧ t < l.length))
  · rw [if_pos c, if_pos (by omega)]
  · rw [if_neg c, if_neg (by omega)]

theorem outN_end {l : List Int} (hl : Lens l) : outN l 16 0 = wds l := by
  unfold outN wds
  apply List.map_congr_left
  intro t _
  have := (hl.ln t).2
  by_cases c : 0 < ln l t
  · rw [if_pos (by omega)]
  · rw [if_neg (by omega)]
    have : ln l t = 0 := by omega
    simp [wd, this]

def Xst (w : World) (l : List Int) (n s : Nat) (wr : World) : Prop := wr.heap[w.heap.size]? = some (.cells ((outN l n s).map (Value.int .i64)).toArray 3 (0, 0)) ∧ Below w.heap.size w wr

theorem Xst.step {w wr : World} {l : List Int} {n s : Nat} (h : Xst w l n s wr) (hn : ln l s = n) (h0 : 0 < n) (x : Int) (hx : x = (wd l s : Int)) : Xst w l n (s + 1) (wr.setCell ⟨w.heap.size, s, none⟩ (.int .i64 x)) :=
  ⟨by rw [heap_setCell_same _ _ _ _ _ _ h.1, map_set, outN_step hn h0, hx], h.2.setCell (by show _ ≤ w.heap.size; omega) _⟩

theorem wd_at {l : List Int} (hl : Lens l) {s n : Nat} (hn : ln l s = n) (h0 : 0 < n) : wd l s = fi l n + (l.take s).count (n : Int) := by
  unfold wd rk
  rw [if_neg (by omega), (hl.ln s).1, hn]

set_option maxHeartbeats 1000000 in
theorem xcodes_any (v : Value) (l : List Int) (w : World) (h : SI w v l) :
    Calls Tryz.prog 73 #[v] w fun e w' => ∃ a c, e = .returned (.tuple #[.slice a (cdL l).length c, .int .i64 (cdE l)]) ∧ OI w' w.heap.size (.slice a (cdL l).length c) (cdL l) ∧ Below w.heap.size w w' := by
  have HS := hide h
  obtain ⟨ao, cap, rfl, hlc, hcm⟩ := h.open
  clear h
  by_cases h0 : chkE l = 0
  case neg =>
    have h1 : (chkE l == 0) = false := by simpa using h0
    have HE : Hid (cdE l = chkE l) := if_pos h0
    have HC : Hid (cdL l = []) := if_neg (by rw [HE.out]; exact h0)
    obtain ⟨q, HQ⟩ : ∃ q, Hid (q = chkE l) := ⟨_, rfl⟩
    obtain ⟨r, HR⟩ : ∃ q, Hid (q = chkS l) := ⟨_, rfl⟩
    rw [← HQ.out] at h0 h1 HE
    rw [HC.out, HE.out]
    go_enter Tryz.func73, Tryz.ntmps73
    go_wp2_with fail
    refine (xcheck_any _ l _ HS.out).mono ?_
    rintro e w1 ⟨rfl, rfl⟩
    rw [← HQ.out, ← HR.out]
    go_wp2
    go_ret2
    exact ⟨none, 0, rfl, World.ownsRow_nil _ _ _ _, Below.refl _ _⟩
  obtain ⟨hl, hs⟩ := chkE_zero h0
  have HL := hide hl
  have h288 := hl.1
  have HR := hide hs
  have HQ := hide h0
  clear hl hs h0
  by_cases h3 : shp l = 3
  · have HE : Hid (cdE l = 51) := by show _ = _; unfold cdE; rw [if_neg (by have := HQ.out; simp [this]), if_pos h3]
    have HC : Hid (cdL l = []) := if_neg (by rw [HE.out]; decide)
    rw [HC.out, HE.out]
    go_enter Tryz.func73, Tryz.ntmps73
    go_wp2_with fail
    refine (xcheck_any _ l _ HS.out).mono ?_
    rintro e w1 ⟨rfl, rfl⟩
    rw [HQ.out, HR.out, h3]
    go_wp2
    go_ret2
    exact ⟨none, 0, rfl, World.ownsRow_nil _ _ _ _, Below.refl _ _⟩
  · have HE : Hid (cdE l = 0) := by show _ = _; unfold cdE; rw [if_neg (by have := HQ.out; simp [this]), if_neg h3]
    have HC : Hid (cdL l = wds l) := if_pos HE.out
    obtain ⟨r, HR2⟩ : ∃ q, Hid (q = shp l) := ⟨_, rfl⟩
    rw [HC.out, HE.out, wds_len]
    rw [← HR2.out] at h3
    have h3' : (r == 3) = false := by simpa using h3
    go_enter Tryz.func73, Tryz.ntmps73
    go_wp2_with fail
    refine (xcheck_any _ l _ HS.out).mono ?_
    rintro e w1 ⟨rfl, rfl⟩
    rw [HQ.out, HR.out, ← HR2.out]
    go_wp2_with (at_make; refine wpList_mkI rfl _ _ rfl _ _ _ _ l.length l.length rfl rfl rfl rfl (Nat.le_refl _) (by omega) ?_)
    intro w2 hg hb1
    have HW : Hid (Xst w1 l 1 0 w2) := ⟨by rw [hg, outN_start]; simp, hb1⟩
    clear hg hb1
    go_wp2
    go_loopw [7, 8] (fun u i wr => ∃ n : Nat, n ≤ 15 ∧ i = .int .i64 ((n : Int) + 1) ∧ u = .int .i64 ((fi l n + cn l n : Nat) : Int) ∧ Hid (Xst w1 l (n + 1) 0 wr)) (fun _ i _ => 16 - (intOf i).toNat)
    case atStart => exact ⟨0, Nat.zero_le _, rfl, rfl, HW⟩
    case round =>
      clear HW
      obtain ⟨n, hn, rfl, rfl, HT⟩ := hrel
      have b1 := fi_top HL.out (n := n) hn
      have b2 : cn l n ≤ 288 := by have := cn_le l n; omega
      by_cases hlt : n < 15
      · have hlt' : (n : Int) + 1 ≤ 15 := by omega
        have HF : Hid (fi l (n + 1) = 2 * (fi l n + cn l n)) := rfl
        obtain ⟨z, HZ⟩ : ∃ z : Nat, Hid (z = fi l n + cn l n) := ⟨_, rfl⟩
        have bz : z ≤ 100000000 := by rw [HZ.out]; omega
        rw [← HZ.out] at HF ⊢
        clear b1 b2
        go_wp2
        go_loopw [7, 9] (fun u i wr => ∃ s : Nat, s ≤ l.length ∧ i = .int .i64 s ∧ u = .int .i64 ((2 * z + (l.take s).count ((n : Int) + 1) : Nat) : Int) ∧ Hid (Xst w1 l (n + 1) s wr)) (fun _ i _ => l.length - (intOf i).toNat)
        case atStart => exact ⟨0, Nat.zero_le _, rfl, by simp, HT⟩
        case round =>
          clear HT
          obtain ⟨s, hs, rfl, rfl, HT⟩ := hrel
          have bc : (l.take s).count ((n : Int) + 1) ≤ 288 := by
            have := List.count_le_length (a := (n : Int) + 1) (l := l.take s)
            rw [List.length_take] at this; omega
          by_cases hsl : s < l.length
          · have hsl' : (s : Int) < (l.length : Int) := by omega
            obtain ⟨b, o, rfl, hc⟩ := HS.out.get HT.out.2 hsl
            have hcs := count_take_succ l ((n : Int) + 1) hsl
            obtain ⟨q, HQn⟩ : ∃ q, Hid (ln l s = q) := ⟨_, rfl⟩
            rw [(HL.out.ln s).1, HQn.out] at hc hcs
            obtain ⟨y, HY⟩ : ∃ y : Nat, Hid (y = 2 * z + (l.take s).count ((n : Int) + 1)) := ⟨_, rfl⟩
            have by' : y ≤ 1000000000 := by rw [HY.out]; omega
            have HCS := hide hcs
            rw [← HY.out]
            clear hcs bc
            by_cases e : q = n + 1
            · subst e
              have HX := hide (HT.out.step HQn.out (by omega) y (by rw [wd_at HL.out HQn.out (by omega), HY.out, HF.out]; push_cast; rfl))
              have HCC : Hid (2 * z + (l.take (s + 1)).count ((n : Int) + 1) = y + 1) := by show _ = _; rw [HCS.out, if_pos (by push_cast; rfl), HY.out]; omega
              obtain ⟨c0, hc0⟩ : ∃ c0, wr.cell? ⟨w1.heap.size, s, none⟩ = some c0 := by
                rw [cell_of_row _ _ _ _ _ _ HT.out.1]
                have : s < (outN l (n + 1) s).length := by rw [outN_len]; exact hsl
                exact ⟨_, by simp [this]; rfl⟩
              have f0 : wr.frozen? ⟨w1.heap.size, s, none⟩ = false := frozen_of_row _ _ _ _ _ HT.out.1
              have hq : ((n + 1 : Nat) : Int) = (n : Int) + 1 := by push_cast; rfl
              rw [hq] at hc
              clear HT hq
              go_wp2
              go_roundw
              case rel => exact ⟨s + 1, by omega, by go_num, by rw [HCC.out]; push_cast; rfl, HX⟩
              case measure => simp [intOf]; omega
            · have HX : Hid (Xst w1 l (n + 1) (s + 1) wr) := ⟨by rw [outN_skip (by rw [HQn.out]; exact e)]; exact HT.out.1, HT.out.2⟩
              have HCC : Hid (2 * z + (l.take (s + 1)).count ((n : Int) + 1) = y) := by show _ = _; rw [HCS.out, if_neg (by omega), HY.out]; omega
              have e' : ((q : Int) == (n : Int) + 1) = false := by simp; omega
              have e2 : ¬ (q : Int) = (n : Int) + 1 := by omega
              clear HT
              go_wp2
              go_roundw
              case rel => exact ⟨s + 1, by omega, by go_num, by rw [HCC.out], HX⟩
              case measure => simp [intOf]; omega
          · obtain rfl : s = l.length := by omega
            have hsl' : ¬ (l.length : Int) < (l.length : Int) := by omega
            have HX : Hid (Xst w1 l (n + 1 + 1) 0 wr) := ⟨by rw [outN_next]; exact HT.out.1, HT.out.2⟩
            have HCC : Hid (2 * z + (l.take l.length).count ((n : Int) + 1) = fi l (n + 1) + cn l (n + 1)) := by
              show _ = _
              rw [List.take_of_length_le (Nat.le_refl _), HF.out]
              unfold cn
              rw [if_neg (by omega)]
              push_cast; rfl
            rw [HCC.out]
            clear HT bc
            go_wp2
            go_roundw
            case rel => exact ⟨n + 1, by omega, by go_num, rfl, HX⟩
            case measure => simp [intOf]; omega
      · obtain rfl : n = 15 := by omega
        have hlt' : ¬ ((15 : Nat) : Int) + 1 ≤ 15 := by omega
        go_wp2
        go_ret2
        refine ⟨_, _, rfl, ?_, HT.out.2⟩
        have e := HT.out.1
        rw [outN_end HL.out] at e
        have := OI.of_full (base := w1.heap.size) e (by omega) (by rw [wds_len]; unfold maxLen; omega)
        rwa [wds_len] at this
end Go.Proofs.YtiabhmdefaabgacGreatDoor

namespace Go.Proofs.YtiabhmdefaabgacGreatDoor
open Go.RowKit Go.Maps
set_option maxRecDepth 20000

theorem cd_of_dc {l : List Int} (h : dcE l = 0) : cdE l = 0 ∧ cdL l = wds l := by
  obtain ⟨h1, h2⟩ := (dcE_iff l).1 h
  have e : cdE l = 0 := by unfold cdE; rw [if_neg (by simp [h1]), if_neg (by omega)]
  exact ⟨e, if_pos e⟩

/-- The first symbol of a length with a word. -/
def At (l : List Int) (n y s : Nat) : Prop := s < l.length ∧ ln l s = n ∧ wd l s = y

theorem at_hit {l : List Int} (v : Int) {n s : Nat} (hn : n ≤ 15) (h0 : 0 < n) {y : Nat} (hy : mir v n = (y : Int)) : At l n y s ↔ Hit l (rowN v) s ∧ ln l s = n := by
  have hr := mir_row v hn
  rw [hy] at hr
  have hr' : rowN v / 2 ^ (15 - n) = y := by exact_mod_cast hr.symm
  rw [hit_iff]
  constructor
  · rintro ⟨h1, h2, h3⟩
    exact ⟨⟨⟨h1, by omega⟩, by rw [h2, h3]; exact hr'⟩, h2⟩
  · rintro ⟨⟨h1, h2⟩, h3⟩
    exact ⟨h1.1, h3, by rw [← h2, h3]; exact hr'⟩

theorem ahead_mod {row : List Int} (hb : Bit row) (p : Nat) {n : Nat} (h : n ≤ 15) : bts (ahead row p n) n = bts (ahead row p 15) n := by
  have e : ahead row p n = ahead row p 15 % 2 ^ n := by
    unfold ahead
    rw [← val_take ((hb.drop p).take 15), List.take_take, Nat.min_eq_left h]
  rw [e, bts_mod]

theorem mir_ahead {row : List Int} (hb : Bit row) (p : Nat) {n : Nat} (h : n ≤ 15) : mir (ahead row p n) n = mir (ahead row p 15) n := by unfold mir; rw [ahead_mod hb p h]

theorem top_bit {v : Int} {n : Nat} (h0 : 0 ≤ v) (h1 : v < 2 ^ (n + 1)) : v / 2 ^ n = v / 2 ^ n % 2 := by
  have hp := pow_pos n
  rw [pow_add1] at h1
  have : v / 2 ^ n < 2 := by rw [Int.ediv_lt_iff_lt_mul hp]; omega
  have h2 := Int.ediv_nonneg h0 (Int.le_of_lt hp)
  omega
end Go.Proofs.YtiabhmdefaabgacGreatDoor

namespace Go.Proofs.YtiabhmdefaabgacGreatDoor
open Go.RowKit Go.Maps
set_option maxRecDepth 20000

/-- The document's encoder. -/
structure Ex (w : World) (K : Nat → Nat) (g : Nat) (l : List Int) : Prop where
  d : ∃ vl vw, w.heap[g]? = some (.cells #[vl, vw] 123 (0, 0)) ∧ OI w 0 vl l ∧ OI w 0 vw (wds l) ∧ (∀ k, vl.ownBlock = some k → K k ≠ 0) ∧ (∀ k, vw.ownBlock = some k → K k ≠ 0)
  k : K g ≠ 0
  sup : ∀ k, K k ≠ 0 → k < w.heap.size
  ok : bkE l = 0

theorem Ex.far {w w' : World} {K : Nat → Nat} {g : Nat} {l : List Int} (h : Ex w K g l) (hsz : w.heap.size ≤ w'.heap.size) (hb : ∀ k, K k ≠ 0 → w'.heap[k]? = w.heap[k]?) : Ex w' K g l := by
  obtain ⟨vl, vw, a1, a2, a3, a4, a5⟩ := h.d
  exact ⟨⟨vl, vw, (hb g h.k).trans a1, a2.move fun k hk => hb k (a4 k hk), a3.move fun k hk => hb k (a5 k hk), a4, a5⟩, h.k, fun k hk => Nat.lt_of_lt_of_le (h.sup k hk) hsz, h.ok⟩

def tex (g : Nat) (l : List Int) : Thing := ⟨fun w K => Ex w K g l, fun h a b => h.far a b, fun h => h.sup⟩

def MadeEx (w : World) (l : List Int) (e : Ending) (w' : World) : Prop := Below w.heap.size w w' ∧ ((bkE l ≠ 0 ∧ e = .returned (.tuple #[.pointer none, .int .i64 (bkE l)])) ∨ (bkE l = 0 ∧ ∃ g K, e = .returned (.tuple #[.pointer (some ⟨g, 0, none⟩), .int .i64 0]) ∧ Ex w' K g l ∧ ∀ k, K k ≠ 0 → w.heap.size ≤ k))

theorem cd_of_bk {l : List Int} (h0 : chkE l = 0) (h3 : shp l ≠ 3) : cdE l = 0 ∧ cdL l = wds l := by
  have e : cdE l = 0 := by unfold cdE; rw [if_neg (by simp [h0]), if_neg h3]
  exact ⟨e, if_pos e⟩

set_option maxHeartbeats 1000000 in
theorem xnewEncoder_any (v : Value) (l : List Int) (w : World) (h : SI w v l) :
    Calls Tryz.prog 49 #[v] w fun e w' => MadeEx w l e w' := by
  have HS := hide h
  obtain ⟨ao, cap, rfl, hlc, hcm⟩ := h.open
  clear h
  by_cases h0 : chkE l = 0
  case neg =>
    have h1 : (chkE l == 0) = false := by simpa using h0
    have hE : bkE l = chkE l := if_pos h0
    have HE := hide hE
    have HNE : Hid (bkE l ≠ 0) := by show _ ≠ _; rw [hE]; exact h0
    obtain ⟨q, HQ⟩ : ∃ q, Hid (q = chkE l) := ⟨_, rfl⟩
    obtain ⟨r, HR⟩ : ∃ q, Hid (q = chkS l) := ⟨_, rfl⟩
    rw [← HQ.out] at h0 h1 HE
    clear hE
    go_enter Tryz.func49, Tryz.ntmps49
    go_wp2_with fail
    refine (xcheck_any _ l _ HS.out).mono ?_
    rintro e w1 ⟨rfl, rfl⟩
    rw [← HQ.out, ← HR.out]
    go_wp2
    go_ret2
    exact ⟨Below.refl _ _, .inl ⟨HNE.out, by rw [HE.out]; rfl⟩⟩
  obtain ⟨hl, hs⟩ := chkE_zero h0
  have HL := hide hl
  have h288 := hl.1
  have HR := hide hs
  have HQ := hide h0
  have hbk : bkE l = if shp l = 2 then 52 else if shp l = 3 then 51 else 0 := by unfold bkE; rw [if_neg (by simp [h0])]
  clear hl hs
  by_cases c2 : shp l = 2
  · have hE : bkE l = 52 := by rw [hbk, if_pos c2]
    have HE := hide hE
    clear hE hbk h0
    go_enter Tryz.func49, Tryz.ntmps49
    go_wp2_with fail
    refine (xcheck_any _ l _ HS.out).mono ?_
    rintro e w1 ⟨rfl, rfl⟩
    rw [HQ.out, HR.out, c2]
    go_wp2
    go_ret2
    exact ⟨Below.refl _ _, .inl ⟨by rw [HE.out]; decide, by rw [HE.out]; rfl⟩⟩
  by_cases c3 : shp l = 3
  · have hE : bkE l = 51 := by rw [hbk, if_neg c2, if_pos c3]
    have HE := hide hE
    clear hE hbk c2 h0
    go_enter Tryz.func49, Tryz.ntmps49
    go_wp2_with fail
    refine (xcheck_any _ l _ HS.out).mono ?_
    rintro e w1 ⟨rfl, rfl⟩
    rw [HQ.out, HR.out, c3]
    go_wp2
    go_ret2
    exact ⟨Below.refl _ _, .inl ⟨by rw [HE.out]; decide, by rw [HE.out]; rfl⟩⟩
  have hE : bkE l = 0 := by rw [hbk, if_neg c2, if_neg c3]
  have HE := hide hE
  have HCD := hide (cd_of_bk h0 c3)
  obtain ⟨r, HR2⟩ : ∃ q, Hid (q = shp l) := ⟨_, rfl⟩
  rw [← HR2.out] at c2 c3
  have c2' : (r == 2) = false := by simpa using c2
  have c3' : (r == 3) = false := by simpa using c3
  clear hE hbk h0
  go_enter Tryz.func49, Tryz.ntmps49
  go_wp2_with fail
  refine (xcheck_any _ l _ HS.out).mono ?_
  rintro e w1 ⟨rfl, rfl⟩
  rw [HQ.out, HR.out, ← HR2.out]
  go_wp2_with fail
  refine (xcodes_any _ l _ HS.out).mono ?_
  rintro e w2 ⟨a2, c2, rfl, ho2, hb2⟩
  rw [HCD.out.2, wds_len] at ho2
  rw [HCD.out.1, HCD.out.2, wds_len]
  have HO2 := hide ho2
  have HB2 := hide hb2
  have HS2 := hide (HS.out.below hb2)
  clear ho2 hb2
  obtain ⟨V, HV⟩ : ∃ V, Hid (V = w2.alloc (.cells #[.slice none 0 0, .slice a2 l.length c2] 123)) := ⟨_, rfl⟩
  have hbox : V.heap[w2.heap.size]? = some (.cells #[.slice none 0 0, .slice a2 l.length c2] 123 (0, 0)) := by rw [HV.out]; exact heap_alloc_new w2 _
  have hbV : Below w2.heap.size w2 V := by rw [HV.out]; exact (Below.refl _ _).alloc (Nat.le_refl _) _
  have HBOX := hide hbox
  have HSR : Hid (Src Tryz.prog 1 23 (.slice ao l.length cap) l.length (l.map (Value.int .i64)) (w2.alloc (.cells #[.slice none 0 0, .slice a2 l.length c2] 123))) := by rw [← HV.out]; exact (HS2.out.below hbV).src
  have HOV := hide (HO2.out.below hbV (Nat.le_refl _))
  have HBV := hide (HB2.out.trans (hbV.mono HB2.out.size))
  have HSZ : Hid (V.heap.size = w2.heap.size + 1) := by show _ = _; rw [HV.out]; simp
  have hw12 : w1.heap.size ≤ w2.heap.size := HB2.out.size
  clear hbox hbV
  go_wp2_with (at_builtin; refine wpList_appI rfl _ _ 23 rfl w1.heap.size _ _ [] l rfl (World.ownsRow_nil _ _ _ _) rfl HSR.out (by simp; omega) (by simp; omega) ?_)
  rw [← HV.out]
  intro v3 w3 ho3 hgr3
  have hB3 : w3.heap[w2.heap.size]? = some (.cells #[.slice none 0 0, .slice a2 l.length c2] 123 (0, 0)) := (hgr3.by.block _ (by rw [HSZ.out]; omega) (by simp [Value.ownBlock])).trans HBOX.out
  have k0 : w3.cell? ⟨w2.heap.size, 0, none⟩ = some (.slice none 0 0) := by rw [cell_of_row _ _ _ _ _ _ hB3]; rfl
  have f0 : w3.frozen? ⟨w2.heap.size, 0, none⟩ = false := frozen_of_row _ _ _ _ _ hB3
  obtain ⟨a3, c3', hv3⟩ := ho3.shape
  have HF : Hid (MadeEx w1 l (.returned (.tuple #[.pointer (some ⟨w2.heap.size, 0, none⟩), .int .i64 0])) (w3.setCell ⟨w2.heap.size, 0, none⟩ v3)) := by
    have hnb : ∀ k, v3.ownBlock = some k → k ≠ w2.heap.size := fun k hk e => by
      rcases hgr3.at with h | h
      · rw [h, HSZ.out] at hk; simp at hk; omega
      · rw [h] at hk; simp [Value.ownBlock] at hk
    have p1 : OI (w3.setCell ⟨w2.heap.size, 0, none⟩ v3) w1.heap.size v3 l := (show OI w3 w1.heap.size v3 l from ho3).move fun k hk => setCell_others w3 _ _ _ _ (hnb k hk)
    have q2 : OI w3 w1.heap.size (.slice a2 l.length c2) (wds l) := HOV.out.move fun k hk => hgr3.by.block k (HOV.out.lt k hk).2 (by simp [Value.ownBlock])
    have p2 : OI (w3.setCell ⟨w2.heap.size, 0, none⟩ v3) w1.heap.size (.slice a2 l.length c2) (wds l) := q2.move fun k hk => setCell_others w3 _ _ _ _ (fun e => by have := (HO2.out.lt k hk).2; omega)
    have hsz3 : w2.heap.size < w3.heap.size := by have := hgr3.by.size; rw [HSZ.out] at this; omega
    have hbel : Below w1.heap.size w1 (w3.setCell ⟨w2.heap.size, 0, none⟩ v3) := by
      have h1 : Below w1.heap.size w1 w3 := HBV.out.grown hgr3.by HBV.out.size (fun k hk => by simp [Value.ownBlock] at hk)
      exact h1.setCell (by show _ ≤ w2.heap.size; omega) _
    refine ⟨hbel, .inr ⟨HE.out, w2.heap.size, fun k => if k = w2.heap.size ∨ v3.ownBlock = some k ∨ (Value.slice a2 l.length c2).ownBlock = some k then 1 else 0, rfl, ⟨⟨v3, .slice a2 l.length c2, ?_, p1.base (Nat.zero_le _), p2.base (Nat.zero_le _), fun k hk => by simp [hk], fun k hk => by simp [hk]⟩, by simp, fun k hk => ?_, HE.out⟩, fun k hk => ?_⟩⟩
    · rw [heap_setCell_same _ _ _ _ _ _ hB3]; rfl
    · by_cases c : k = w2.heap.size ∨ v3.ownBlock = some k ∨ (Value.slice a2 l.length c2).ownBlock = some k
      · rcases c with rfl | c | c
        · rw [size_setCell]; exact hsz3
        · exact (p1.lt k c).2
        · exact (p2.lt k c).2
      · simp [c] at hk
    · by_cases c : k = w2.heap.size ∨ v3.ownBlock = some k ∨ (Value.slice a2 l.length c2).ownBlock = some k
      · rcases c with rfl | c | c
        · exact hw12
        · exact (p1.lt k c).1
        · exact (p2.lt k c).1
      · simp [c] at hk
  subst hv3
  clear ho3 hgr3 hB3
  go_wp2
  go_ret2
  exact HF.out

theorem hxencode {W w : World} {xs : List ((Nat → Nat) × Thing)} (H : Herd W w xs) (v : Value) (l : List Int) (h : SI w v l) :
    Calls Tryz.prog 49 #[v] w fun e w' => (bkE l ≠ 0 ∧ e = .returned (.tuple #[.pointer none, .int .i64 (bkE l)]) ∧ Herd W w' xs) ∨ (bkE l = 0 ∧ ∃ g K, e = .returned (.tuple #[.pointer (some ⟨g, 0, none⟩), .int .i64 0]) ∧ Herd W w' (xs ++ [(K, tex g l)])) := by
  refine (xnewEncoder_any v l w h).mono ?_
  rintro e w1 ⟨hb, h | ⟨h0, g, K, rfl, hd, hk⟩⟩
  · exact .inl ⟨h.1, h.2, H.below hb⟩
  · exact .inr ⟨h0, g, K, rfl, H.push hb hd hk⟩

theorem xelen_any {w : World} {K : Nat → Nat} {g : Nat} {l : List Int} (h : Ex w K g l) (s : Int) (hs0 : -9223372036854775808 ≤ s) (hs1 : s ≤ 9223372036854775807) :
    Calls Tryz.prog 74 #[.pointer (some ⟨g, 0, none⟩), .int .i64 s] w fun e w' => e = .returned (.int .i64 (lnI l s)) ∧ w' = w := by
  obtain ⟨vl, vw, a1, a2, a3, _⟩ := h.d
  have hl := (bkE_zero h.ok).1
  have HL := hide hl
  have h288 := hl.1
  have c0 : w.cell? ⟨g, 0, none⟩ = some vl := by rw [cell_of_row _ _ _ _ _ _ a1]; rfl
  obtain ⟨al, cl, hvl⟩ := a2.shape
  have HO := hide a2
  obtain ⟨q1, q2⟩ : l.length ≤ cl ∧ cl ≤ 9223372036854775807 := by
    have hsb := a2.sb
    rw [hvl] at hsb
    obtain ⟨_, _, e1, e2, e3⟩ := hsb.open
    simp only [Value.slice.injEq] at e1
    obtain ⟨-, -, rfl⟩ := e1
    exact ⟨e2, e3⟩
  clear h a1 a2 a3 hl
  by_cases hs : 0 ≤ s ∧ s < l.length
  · have HE : Hid (lnI l s = ln l s.toNat) := if_pos hs
    rw [HE.out]
    obtain ⟨n, rfl⟩ : ∃ n : Nat, s = n := ⟨s.toNat, by omega⟩
    have hn : n < l.length := by omega
    obtain ⟨b, c, hv, _⟩ := HO.out.form (by omega)
    have hc := HO.out.get (b := b) (by rw [hv]; rfl) hn
    rw [(HL.out.ln n).1] at hc
    rw [hv] at c0
    simp only [Int.toNat_natCast]
    rw [hvl] at hv
    simp only [Value.slice.injEq] at hv
    obtain ⟨rfl, -, rfl⟩ := hv
    have h1 : ¬ (n : Int) < 0 := by omega
    have h2 : ¬ (l.length : Int) ≤ n := by omega
    clear hs hvl
    go_enter Tryz.func74, Tryz.ntmps74
    go_wp2
    go_ret
    exact ⟨rfl, rfl⟩
  · have HE : Hid (lnI l s = 0) := if_neg hs
    rw [HE.out]
    rw [hvl] at c0
    by_cases h1 : s < 0
    · clear hs
      go_enter Tryz.func74, Tryz.ntmps74
      go_wp2
      go_ret
      exact ⟨rfl, rfl⟩
    · have h2 : (l.length : Int) ≤ s := by omega
      clear hs
      go_enter Tryz.func74, Tryz.ntmps74
      go_wp2
      go_ret
      exact ⟨rfl, rfl⟩

set_option maxHeartbeats 2000000 in
theorem hxeput {W w : World} {xs : List ((Nat → Nat) × Thing)} (H : Herd W w xs) (i j : Nat) {K Kw : Nat → Nat} {g r : Nat} {l row : List Int} (hi : xs[i]? = some (K, tex g l)) (hj : xs[j]? = some (Kw, tx r row)) (s : Int) (hs0 : -9223372036854775808 ≤ s) (hs1 : s ≤ 9223372036854775807) :
    Calls Tryz.prog 50 #[.pointer (some ⟨g, 0, none⟩), .pointer (some ⟨r, 0, none⟩), .int .i64 s] w fun e w' => e = .returned (.int .i64 (epE l row s)) ∧ ∃ K', Herd W w' (xs.set j (K', tx r (epR l row s))) := by
  have hE : Ex w K g l := H.rep i _ hi
  have hl := (bkE_zero hE.ok).1
  have HL := hide hl
  have hu := us_le hE.ok
  have HH := hide H
  have HI := hide hi
  have HJ := hide hj
  have HEE := hide hE
  have hset : xs.set j (Kw, tx r row) = xs := by
    apply List.ext_getElem?
    intro n
    rw [List.getElem?_set]
    by_cases c : j = n
    · subst c
      rw [if_pos rfl, hj, if_pos (List.getElem?_eq_some_iff.1 hj).1]
    · rw [if_neg c]
  have HST := hide hset
  by_cases h0 : lnI l s = 0
  · have HE : Hid (epE l row s = 56) := if_pos h0
    have HR : Hid (epR l row s = row) := if_neg (by rw [HE.out]; decide)
    rw [HE.out, HR.out]
    have HN := hide h0
    clear hE hl hu H hi hj hset h0
    go_enter Tryz.func50, Tryz.ntmps50
    go_wp2_with fail
    refine (xelen_any HEE.out s hs0 hs1).mono ?_
    rintro e w1 ⟨rfl, rfl⟩
    rw [HN.out]
    go_wp2
    go_ret
    exact ⟨rfl, Kw, by rw [HST.out]; exact HH.out⟩
  · obtain ⟨b0, b1, b2⟩ := lnI_pos h0
    obtain ⟨n, rfl⟩ : ∃ n : Nat, s = n := ⟨s.toNat, by omega⟩
    simp only [Int.toNat_natCast] at b2
    have hn : n < l.length := by omega
    have hlt := word_lt hl hu (s := n)
    have h15 := (hl.ln n).2
    have HEQ : Hid (epE l row n = putE row (val (wb l n)) (ln l n) ∧ epR l row n = putRow row (val (wb l n)) (ln l n)) := by
      have hvb := val_bound (wb_bit l n)
      rw [wb_len] at hvb
      have hbv : bts (val (wb l n)) (ln l n) = wb l n := by have := bts_val (wb_bit l n); rwa [wb_len] at this
      have hfit : Fit (val (wb l n)) (ln l n) := ⟨⟨by omega, by omega⟩, by simp; exact hvb.2⟩
      have hE1 : epE l row n = if row.length + ln l n ≤ 268435456 then 0 else 1 := by unfold epE; rw [if_neg h0, b2]
      by_cases c : row.length + ln l n ≤ 268435456
      · have hok : putOk row (val (wb l n)) (ln l n) := ⟨hfit, by omega⟩
        have e1 : epE l row n = 0 := by rw [hE1, if_pos c]
        refine ⟨by rw [e1]; unfold putE; rw [if_pos hok], ?_⟩
        unfold epR putRow
        rw [if_pos e1, if_pos hok, Int.toNat_natCast, Int.toNat_natCast, hbv]
      · have hok : ¬ putOk row (val (wb l n)) (ln l n) := fun h => c (by have := h.2; omega)
        have e1 : epE l row n = 1 := by rw [hE1, if_neg c]
        refine ⟨by rw [e1]; unfold putE; rw [if_neg hok], ?_⟩
        unfold epR putRow
        rw [if_neg (by rw [e1]; decide), if_neg hok]
    obtain ⟨vl, vw, a1, a2, a3, _⟩ := hE.d
    have c1 : w.cell? ⟨g, 1, none⟩ = some vw := by rw [cell_of_row _ _ _ _ _ _ a1]; rfl
    obtain ⟨bw, cw, hvw, _, _, q1, q2⟩ := a3.form (by rw [wds_len]; omega)
    have cw1 := a3.get (b := bw) (by rw [hvw]; rfl) (i := n) (by rw [wds_len]; exact hn)
    rw [wds_get hn] at cw1
    rw [wds_len] at hvw q1
    subst hvw
    rw [HEQ.out.1, HEQ.out.2]
    have hwb : val (wb l n) = val (bts (wd l n) (ln l n)).reverse := rfl
    rw [hwb]
    have h2n : 2 ^ ln l n ≤ 2 ^ 15 := Nat.pow_le_pow_right (by decide) h15
    have hm0 : ln l n ≠ 0 := by rw [← b2]; exact h0
    obtain ⟨m, HM⟩ : ∃ m : Nat, Hid (m = ln l n) := ⟨_, rfl⟩
    obtain ⟨y, HY⟩ : ∃ y : Nat, Hid (y = wd l n) := ⟨_, rfl⟩
    rw [← HM.out] at h15 hm0 b2 ⊢
    rw [← HY.out] at cw1 ⊢
    have hy : y < 32768 := by rw [HY.out]; omega
    have HB2 : Hid (lnI l (n : Int) = m) := b2
    have hmz : ((m : Int) == 0) = false := by simp; omega
    have h288 := hl.1
    clear hE hl hu H hi hj hset h0 hlt a1 a2 a3 h2n b2 hwb
    go_enter Tryz.func50, Tryz.ntmps50
    go_wp2_with fail
    refine (xelen_any HEE.out n hs0 hs1).mono ?_
    rintro e w1 ⟨rfl, rfl⟩
    rw [HB2.out]
    go_wp2
    go_loopw [8, 9, 10] (fun a b q wr => ∃ k : Nat, k ≤ m ∧ q = .int .i64 k ∧ a = .int .u32 (val (bts (y : Int) k).reverse) ∧ b = .int .i64 ((y : Int) / 2 ^ k) ∧ wr = w1) (fun _ _ q _ => m - (intOf q).toNat)
    case atStart => exact ⟨0, Nat.zero_le _, rfl, rfl, by simp, rfl⟩
    case round =>
      obtain ⟨k, hk, rfl, rfl, rfl, rfl⟩ := hrel
      by_cases hkm : k < m
      · have hkm' : (k : Int) < (m : Int) := by omega
        have hb := rev_bound (y : Int) k
        have hp2 : (2 : Int) ^ k ≤ 2 ^ 15 := pow_le (by omega)
        have HSN := hide (rev_snoc (y : Int) k)
        have hpk := pow_pos k
        have hd0 : 0 ≤ (y : Int) / 2 ^ k := Int.ediv_nonneg (by omega) (Int.le_of_lt hpk)
        have hd1 : (y : Int) / 2 ^ k ≤ y := Int.ediv_le_self _ (by omega)
        have HDD : Hid ((y : Int) / 2 ^ (k + 1) = (y : Int) / 2 ^ k / 2) := by
          show _ = _
          rw [pow_add1, Int.mul_comm, Int.ediv_ediv_of_nonneg (Int.le_of_lt hpk)]
        obtain ⟨R, HR⟩ : ∃ R, Hid (R = val (bts (y : Int) k).reverse) := ⟨_, rfl⟩
        obtain ⟨D, HD⟩ : ∃ D, Hid (D = (y : Int) / 2 ^ k) := ⟨_, rfl⟩
        rw [← HR.out] at hb HSN ⊢
        rw [← HD.out] at HSN HDD hd0 hd1 ⊢
        have hR1 : R < 32768 := by omega
        have hR0 : 0 ≤ R := hb.1
        have tm : D.tmod 2 = D % 2 := Int.tmod_eq_emod_of_nonneg hd0
        have tdv : D.tdiv 2 = D / 2 := Int.tdiv_eq_ediv_of_nonneg hd0
        have hw1' : IntKind.u32.wrap (2 * R) = 2 * R := by rw [IntKind.wrap_u32]; omega
        have hw2' : IntKind.u32.wrap (D % 2) = D % 2 := by rw [IntKind.wrap_u32]; omega
        have hw3' : IntKind.u32.wrap (2 * R + D % 2) = 2 * R + D % 2 := by rw [IntKind.wrap_u32]; omega
        clear hb hp2 hpk
        go_wp2
        go_roundw
        case rel => exact ⟨k + 1, by omega, by go_num, by first | (rw [HSN.out, Int.add_comm]; done) | (rw [HSN.out]; congr 1; simp only [*]; omega) , by rw [HDD.out], by trivial⟩
        case measure => simp [intOf]; omega
      · obtain rfl : k = m := by omega
        have hkm' : ¬ (k : Int) < (k : Int) := by omega
        have hb := rev_bound (y : Int) k
        have hp2 : (2 : Int) ^ k ≤ 2 ^ 15 := pow_le (by omega)
        obtain ⟨R, HR⟩ : ∃ R, Hid (R = val (bts (y : Int) k).reverse) := ⟨_, rfl⟩
        rw [← HR.out] at hb ⊢
        have hR1 : R < 4294967296 := by omega
        have hR0 : 0 ≤ R := hb.1
        clear hb hp2
        go_wp2_with fail
        refine (hxput HH.out j HJ.out R k hR0 hR1).mono ?_
        rintro e w3 ⟨rfl, K', h3⟩
        have HX := hide h3
        clear h3
        go_wp2
        go_ret
        rw [← HR.out]
        exact ⟨rfl, K', HX.out⟩
end Go.Proofs.YtiabhmdefaabgacGreatDoor

