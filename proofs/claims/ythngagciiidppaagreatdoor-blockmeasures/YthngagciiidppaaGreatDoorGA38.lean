import Derived.Test.YthngagciiidppaaGreatDoorGA27
import Derived.Test.YthngagciiidppaaGreatDoorGA28
import Derived.Test.YthngagciiidppaaGreatDoorGA37
import Derived.Test.YthngagciiidppaaGreatDoorGA35
namespace Go.Proofs.YthngagciiidppaaGreatDoor
open Go.RowKit Go.Maps
set_option maxRecDepth 20000

theorem xrows_any (n : Nat) (w : World) (hn : n ≤ 15) : Calls Tryz.prog 96 #[.int .i64 n] w fun e w' => e = .returned (.int .i64 ((2 ^ (15 - n) : Nat) : Int)) ∧ w' = w := by
  go_enter Tryz.func96, Tryz.ntmps96
  go_wp2
  go_loopw [3, 4] (fun u i wr => ∃ k : Nat, n ≤ k ∧ k ≤ 15 ∧ i = .int .i64 k ∧ u = .int .i64 ((2 ^ (k - n) : Nat) : Int) ∧ wr = w) (fun _ i _ => 15 - (intOf i).toNat)
  case atStart => exact ⟨n, Nat.le_refl _, hn, rfl, by simp, rfl⟩
  case round =>
    obtain ⟨k, hnk, hk, rfl, rfl, rfl⟩ := hrel
    by_cases hlt : k < 15
    · have hlt' : (k : Int) < 15 := by omega
      have b : 2 ^ (k - n) ≤ 32768 := Nat.pow_le_pow_right (n := 2) (by decide) (show k - n ≤ 15 by omega)
      have HS : Hid (2 ^ (k + 1 - n) = 2 * 2 ^ (k - n)) := by show _ = _; rw [show k + 1 - n = (k - n) + 1 by omega, Nat.pow_succ, Nat.mul_comm]
      obtain ⟨p, HP⟩ : ∃ p : Nat, Hid (p = 2 ^ (k - n)) := ⟨_, rfl⟩
      rw [← HP.out] at b HS ⊢
      go_wp2
      go_roundw
      case rel => exact ⟨k + 1, by omega, by omega, by go_num, by rw [HS.out]; push_cast; rfl, by trivial⟩
      case measure => simp [intOf]; omega
    · obtain rfl : k = 15 := by omega
      have hlt' : ¬ ((15 : Nat) : Int) < 15 := by omega
      go_wp2
      go_ret
      exact ⟨rfl, rfl⟩

theorem usum_succ {l : List Int} {k : Nat} (h : k < l.length) : usum (l.take (k + 1)) = usum (l.take k) + wt (l.getD k 0) ∧ tsum (l.take (k + 1)) = tsum (l.take k) + one (l.getD k 0) := by
  have e : l.getD k 0 = l[k] := by simp [h]
  rw [List.take_succ_eq_append_getElem h, e]
  unfold usum tsum
  rw [List.map_append, List.map_append, List.sum_append, List.sum_append]
  simp

theorem sum_bound {l : List Int} (hl : Lens l) (k : Nat) : usum (l.take k) ≤ 288 * 16384 ∧ tsum (l.take k) ≤ 288 := by
  have h1 : Lens (l.take k) := ⟨by rw [List.length_take]; have := hl.1; omega, fun x hx => hl.2 x (List.mem_of_mem_take hx)⟩
  have h2 := us_bound h1
  rw [us_sum h1.2] at h2
  have h3 := sh_le (l.take k) 16
  rw [sh_sum h1.2] at h3
  exact ⟨h2, Nat.le_trans h3 h1.1⟩

theorem xused_any (v : Value) (l : List Int) (w : World) (h : SI w v l) (hl : Lens l) :
    Calls Tryz.prog 82 #[v] w fun e w' => e = .returned (.tuple #[.int .i64 (usum l), .int .i64 (tsum l)]) ∧ w' = w := by
  have HS := hide h
  have HL := hide hl
  have h288 := hl.1
  obtain ⟨ao, cap, rfl, hlc, hcm⟩ := h.open
  clear h hl
  go_enter Tryz.func82, Tryz.ntmps82
  go_wp2
  go_loopw [4, 5, 6] (fun u t i wr => ∃ k : Nat, k ≤ l.length ∧ i = .int .i64 k ∧ u = .int .i64 (usum (l.take k)) ∧ t = .int .i64 (tsum (l.take k)) ∧ wr = w) (fun _ _ i _ => l.length - (intOf i).toNat)
  case atStart => exact ⟨0, Nat.zero_le _, rfl, rfl, rfl, rfl⟩
  case round =>
    obtain ⟨k, hk, rfl, rfl, rfl, rfl⟩ := hrel
    by_cases hlt : k < l.length
    · have hlt' : (k : Int) < (l.length : Int) := by omega
      obtain ⟨b, o, rfl, hc⟩ := HS.out.get (Below.refl _ _) hlt
      obtain ⟨n, HN⟩ : ∃ n, Hid (ln l k = n) := ⟨_, rfl⟩
      have hn15 : n ≤ 15 := by rw [← HN.out]; exact (HL.out.ln k).2
      have HX := hide (usum_succ hlt)
      rw [(HL.out.ln k).1, HN.out] at hc HX
      have hb := sum_bound HL.out k
      obtain ⟨u, HU⟩ : ∃ u : Nat, Hid (u = usum (l.take k)) := ⟨_, rfl⟩
      obtain ⟨t, HT⟩ : ∃ t : Nat, Hid (t = tsum (l.take k)) := ⟨_, rfl⟩
      rw [← HU.out, ← HT.out] at hb HX ⊢
      obtain ⟨hb1, hb2⟩ := hb
      by_cases h0 : n = 0
      · subst h0
        have HY : Hid (usum (l.take (k + 1)) = u ∧ tsum (l.take (k + 1)) = t) := by
          have := HX.out
          show _ ∧ _
          simpa [wt, one] using this
        clear HX
        go_wp2
        go_roundw
        case rel => exact ⟨k + 1, by omega, by go_num, by rw [HY.out.1], by rw [HY.out.2], by trivial⟩
        case measure => simp [intOf]; omega
      · have h0' : (0 : Int) < n := by omega
        have HY : Hid (usum (l.take (k + 1)) = u + 2 ^ (15 - n) ∧ tsum (l.take (k + 1)) = t + 1) := by
          have := HX.out
          unfold wt one at this
          rw [if_pos h0', if_pos h0'] at this
          exact this
        have b4 : 2 ^ (15 - n) ≤ 32768 := Nat.pow_le_pow_right (n := 2) (by decide) (show 15 - n ≤ 15 by omega)
        clear HX
        go_wp2_with fail
        refine (xrows_any n _ hn15).mono ?_
        rintro e w1 ⟨rfl, rfl⟩
        obtain ⟨p, HP⟩ : ∃ p : Nat, Hid (p = 2 ^ (15 - n)) := ⟨_, rfl⟩
        rw [← HP.out] at b4 HY ⊢
        go_wp2
        go_roundw
        case rel => exact ⟨k + 1, by omega, by go_num, by rw [HY.out.1]; push_cast; rfl, by rw [HY.out.2]; push_cast; rfl, by trivial⟩
        case measure => simp [intOf]; omega
    · obtain rfl : k = l.length := by omega
      have hlt' : ¬ (l.length : Int) < (l.length : Int) := by omega
      rw [List.take_of_length_le (Nat.le_refl _)]
      go_wp2
      go_ret2
      exact ⟨rfl, rfl⟩

theorem xvalid_any (v : Value) (l : List Int) (w : World) (h : SI w v l) :
    Calls Tryz.prog 81 #[v] w fun e w' => e = .returned (.int .i64 (chkE l)) ∧ w' = w := by
  have HS := hide h
  obtain ⟨ao, cap, rfl, hlc, hcm⟩ := h.open
  clear h
  by_cases hlen : 288 < l.length
  · have hlen' : (288 : Int) < l.length := by omega
    have HE : Hid (chkE l = 1) := if_pos hlen
    go_enter Tryz.func81, Tryz.ntmps81
    go_wp2
    go_ret
    rw [HE.out]
    exact ⟨rfl, rfl⟩
  have hlen' : ¬ (288 : Int) < l.length := by omega
  have HNL := hide hlen
  clear hlen
  go_enter Tryz.func81, Tryz.ntmps81
  go_wp2
  go_loopw [3] (fun i wr => ∃ k : Nat, k ≤ l.length ∧ i = .int .i64 k ∧ wr = w ∧ Hid (okTo l k)) (fun i _ => l.length - (intOf i).toNat)
  case atStart => exact ⟨0, Nat.zero_le _, rfl, rfl, fun i hi => by omega⟩
  case round =>
    obtain ⟨k, hk, rfl, rfl, HT⟩ := hrel
    by_cases hlt : k < l.length
    · have hlt' : (k : Int) < (l.length : Int) := by omega
      obtain ⟨b, o, rfl, hc⟩ := HS.out.get (Below.refl _ _) hlt
      obtain ⟨x, HX⟩ : ∃ x, Hid (x = l.getD k 0) := ⟨_, rfl⟩
      rw [← HX.out] at hc
      by_cases hb : 0 ≤ x ∧ x ≤ 15
      · have HN : Hid (okTo l (k + 1)) := okTo_succ HT.out (by rw [← HX.out]; exact hb)
        obtain ⟨b0, b1⟩ := hb
        have b0' : ¬ x < 0 := by omega
        have b1' : ¬ 15 < x := by omega
        clear HT
        go_wp2
        go_roundw
        case rel => exact ⟨k + 1, by omega, by go_num, by trivial, HN⟩
        case measure => simp [intOf]; omega
      · have hn : ¬ Lens l := not_lens (k := k) (by rw [← HX.out]; exact hb)
        have HE : Hid (chkE l = 50) := by show _ = _; unfold chkE; rw [if_neg HNL.out, if_neg hn]
        clear hn
        by_cases b0 : x < 0
        · clear hb
          go_wp2
          go_ret
          rw [HE.out]
          exact ⟨rfl, rfl⟩
        · have b1 : 15 < x := by omega
          clear hb
          go_wp2
          go_ret
          rw [HE.out]
          exact ⟨rfl, rfl⟩
    · obtain rfl : k = l.length := by omega
      have hl : Lens l := okTo_lens HT.out (by have := HNL.out; omega)
      have HE : Hid (chkE l = 0) := by show _ = _; unfold chkE; rw [if_neg HNL.out, if_pos hl]
      have hlt' : ¬ (l.length : Int) < (l.length : Int) := by omega
      clear hl HT
      go_wp2
      go_ret
      rw [HE.out]
      exact ⟨rfl, rfl⟩

theorem xcheck_any (v : Value) (l : List Int) (w : World) (h : SI w v l) :
    Calls Tryz.prog 65 #[v] w fun e w' => e = .returned (.tuple #[.int .i64 (chkS l), .int .i64 (chkE l)]) ∧ w' = w := by
  have HS := hide h
  obtain ⟨ao, cap, rfl, hlc, hcm⟩ := h.open
  clear h
  by_cases h0 : chkE l = 0
  case neg =>
    have h1 : (chkE l == 0) = false := by simpa using h0
    have hn : ¬ Lens l := fun hl => h0 (by unfold chkE; rw [if_neg (by have := hl.1; omega), if_pos hl])
    have HE : Hid (chkS l = 0) := if_neg hn
    obtain ⟨q, HQ⟩ : ∃ q, Hid (q = chkE l) := ⟨_, rfl⟩
    rw [← HQ.out] at h0 h1
    rw [HE.out, ← HQ.out]
    clear hn
    go_enter Tryz.func65, Tryz.ntmps65
    go_wp2_with fail
    refine (xvalid_any _ l _ HS.out).mono ?_
    rintro e w1 ⟨rfl, rfl⟩
    rw [← HQ.out]
    go_wp2
    go_ret2
    exact ⟨rfl, rfl⟩
  obtain ⟨hl, hs⟩ := chkE_zero h0
  have HL := hide hl
  have HQ := hide h0
  have hb := sum_bound hl l.length
  rw [List.take_of_length_le (Nat.le_refl _)] at hb
  obtain ⟨U, HU⟩ : ∃ U : Nat, Hid (U = usum l) := ⟨_, rfl⟩
  obtain ⟨T, HT⟩ : ∃ T : Nat, Hid (T = tsum l) := ⟨_, rfl⟩
  have HSH : Hid (chkS l = if T = 0 then 0 else if T = 1 ∧ U = 16384 then 1 else if 32768 < U then 3 else if U = 32768 then 4 else 2) := by
    show _ = _
    rw [hs, HU.out, HT.out]; rfl
  rw [← HU.out, ← HT.out] at hb
  obtain ⟨hb1, hb2⟩ := hb
  clear hl hs h0
  by_cases c1 : T = 0
  · have HX : Hid (chkS l = 0) := by show _ = _; rw [HSH.out, if_pos c1]
    clear HSH
    subst c1
    go_enter Tryz.func65, Tryz.ntmps65
    go_wp2_with fail
    refine (xvalid_any _ l _ HS.out).mono ?_
    rintro e w1 ⟨rfl, rfl⟩
    rw [HQ.out]
    go_wp2_with fail
    refine (xused_any _ l _ HS.out HL.out).mono ?_
    rintro e w2 ⟨rfl, rfl⟩
    rw [← HU.out, ← HT.out]
    go_wp2
    go_ret2
    rw [HX.out, HQ.out]
    exact ⟨rfl, rfl⟩
  by_cases c2 : T = 1 ∧ U = 16384
  · have HX : Hid (chkS l = 1) := by show _ = _; rw [HSH.out, if_neg c1, if_pos c2]
    clear HSH c1
    obtain ⟨e1, e2⟩ := c2
    subst e1 e2
    go_enter Tryz.func65, Tryz.ntmps65
    go_wp2_with fail
    refine (xvalid_any _ l _ HS.out).mono ?_
    rintro e w1 ⟨rfl, rfl⟩
    rw [HQ.out]
    go_wp2_with fail
    refine (xused_any _ l _ HS.out HL.out).mono ?_
    rintro e w2 ⟨rfl, rfl⟩
    rw [← HU.out, ← HT.out]
    go_wp2
    go_ret2
    rw [HX.out, HQ.out]
    exact ⟨rfl, rfl⟩
  have HX : Hid (chkS l = if 32768 < U then 3 else if U = 32768 then 4 else 2) := by show _ = _; rw [HSH.out, if_neg c1, if_neg c2]
  clear HSH
  have c1' : ((T : Int) == 0) = false := by simp; omega
  by_cases c3 : 32768 < U
  · have HY : Hid (chkS l = 3) := by show _ = _; rw [HX.out, if_pos c3]
    clear HX c2
    by_cases t1 : T = 1
    · subst t1
      have u1 : ((U : Int) == 16384) = false := by simp; omega
      go_enter Tryz.func65, Tryz.ntmps65
      go_wp2_with fail
      refine (xvalid_any _ l _ HS.out).mono ?_
      rintro e w1 ⟨rfl, rfl⟩
      rw [HQ.out]
      go_wp2_with fail
      refine (xused_any _ l _ HS.out HL.out).mono ?_
      rintro e w2 ⟨rfl, rfl⟩
      rw [← HU.out, ← HT.out]
      go_wp2
      go_ret2
      rw [HY.out, HQ.out]
      exact ⟨rfl, rfl⟩
    · have t1' : ((T : Int) == 1) = false := by simp; omega
      go_enter Tryz.func65, Tryz.ntmps65
      go_wp2_with fail
      refine (xvalid_any _ l _ HS.out).mono ?_
      rintro e w1 ⟨rfl, rfl⟩
      rw [HQ.out]
      go_wp2_with fail
      refine (xused_any _ l _ HS.out HL.out).mono ?_
      rintro e w2 ⟨rfl, rfl⟩
      rw [← HU.out, ← HT.out]
      go_wp2
      go_ret2
      rw [HY.out, HQ.out]
      exact ⟨rfl, rfl⟩
  by_cases c4 : U = 32768
  · have HY : Hid (chkS l = 4) := by show _ = _; rw [HX.out, if_neg c3, if_pos c4]
    clear HX c2 c3
    subst c4
    by_cases t1 : T = 1
    · subst t1
      go_enter Tryz.func65, Tryz.ntmps65
      go_wp2_with fail
      refine (xvalid_any _ l _ HS.out).mono ?_
      rintro e w1 ⟨rfl, rfl⟩
      rw [HQ.out]
      go_wp2_with fail
      refine (xused_any _ l _ HS.out HL.out).mono ?_
      rintro e w2 ⟨rfl, rfl⟩
      rw [← HU.out, ← HT.out]
      go_wp2
      go_ret2
      rw [HY.out, HQ.out]
      exact ⟨rfl, rfl⟩
    · have t1' : ((T : Int) == 1) = false := by simp; omega
      go_enter Tryz.func65, Tryz.ntmps65
      go_wp2_with fail
      refine (xvalid_any _ l _ HS.out).mono ?_
      rintro e w1 ⟨rfl, rfl⟩
      rw [HQ.out]
      go_wp2_with fail
      refine (xused_any _ l _ HS.out HL.out).mono ?_
      rintro e w2 ⟨rfl, rfl⟩
      rw [← HU.out, ← HT.out]
      go_wp2
      go_ret2
      rw [HY.out, HQ.out]
      exact ⟨rfl, rfl⟩
  · have HY : Hid (chkS l = 2) := by show _ = _; rw [HX.out, if_neg c3, if_neg c4]
    clear HX
    have u2 : ((U : Int) == 32768) = false := by simp; omega
    by_cases t1 : T = 1
    · subst t1
      have u1 : ((U : Int) == 16384) = false := by simp; omega
      clear c2
      go_enter Tryz.func65, Tryz.ntmps65
      go_wp2_with fail
      refine (xvalid_any _ l _ HS.out).mono ?_
      rintro e w1 ⟨rfl, rfl⟩
      rw [HQ.out]
      go_wp2_with fail
      refine (xused_any _ l _ HS.out HL.out).mono ?_
      rintro e w2 ⟨rfl, rfl⟩
      rw [← HU.out, ← HT.out]
      go_wp2
      go_ret2
      rw [HY.out, HQ.out]
      exact ⟨rfl, rfl⟩
    · have t1' : ((T : Int) == 1) = false := by simp; omega
      clear c2
      go_enter Tryz.func65, Tryz.ntmps65
      go_wp2_with fail
      refine (xvalid_any _ l _ HS.out).mono ?_
      rintro e w1 ⟨rfl, rfl⟩
      rw [HQ.out]
      go_wp2_with fail
      refine (xused_any _ l _ HS.out HL.out).mono ?_
      rintro e w2 ⟨rfl, rfl⟩
      rw [← HU.out, ← HT.out]
      go_wp2
      go_ret2
      rw [HY.out, HQ.out]
      exact ⟨rfl, rfl⟩

/-- The document's words so far: all of the shorter lengths, of this length those ahead. -/
def outN (l : List Int) (n s : Nat) : List Int := (List.range l.length).map fun t => if 0 < ln l t ∧ (ln l t < n ∨ (ln l t = n ∧ t < s)) then (wd l t : Int) else 0

theorem outN_len (l : List Int) (n s : Nat) : (outN l n s).length = l.length := by simp [outN]

theorem outN_start (l : List Int) : outN l 1 0 = List.replicate l.length 0 := by
  apply List.ext_getElem
  · simp [outN]
  · intro i h1 h2
    simp only [outN, List.getElem_map, List.getElem_range, List.getElem_replicate]
    rw [if_neg (by omega)]

theorem outN_skip {l : List Int} {n s : Nat} (h : ln l s ≠ n) : outN l n (s + 1) = outN l n s := by
  unfold outN
  apply List.map_congr_left
  intro t _
  by_cases e : t = s
  · subst e
    by_cases c : 0 < ln l t ∧ (ln l t < n ∨ (ln l t = n ∧ t < t))
    · rw [if_pos c, if_pos (by omega)]
    · rw [if_neg c, if_neg (by omega)]
  · by_cases c : 0 < ln l t ∧ (ln l t < n ∨ (ln l t = n ∧ t < s))
    · rw [if_pos c, if_pos (by omega)]
    · rw [if_neg c, if_neg (by omega)]

theorem outN_step {l : List Int} {n s : Nat} (h : ln l s = n) (h0 : 0 < n) : outN l n (s + 1) = (outN l n s).set s (wd l s : Int) := by
  apply List.ext_getElem
  · simp [outN]
  · intro t h1 h2
    rw [List.getElem_set]
    simp only [outN, List.getElem_map, List.getElem_range]
    by_cases e : s = t
    · subst e
      rw [if_pos (by omega), if_pos rfl]
    · rw [if_neg e]
      by_cases c : 0 < ln l t ∧ (ln l t < n ∨ (ln l t = n ∧ t < s))
      · rw [if_pos c, if_pos (by omega)]
      · rw [if_neg c, if_neg (by omega)]

theorem outN_next {l : List Int} {n : Nat} : outN l (n + 1) 0 = outN l n l.length := by
  unfold outN
  apply List.map_congr_left
  intro t ht
  have ht' : t < l.length := List.mem_range.1 ht
  by_cases c : 0 < ln l t ∧ (ln l t < n ∨ (ln l t = n ∧ t < l.length))
  · rw [if_pos c, if_pos (by omega)]
  · rw [if_neg c, if_neg (by omega)]

theorem outN_end {l : List Int} (hl : Lens l) : outN l 16 0 = wds l := by
  unfold outN wds
  apply List.map_congr_left
  intro t _
  have := (hl.ln t).2
  by_cases c : 0 < ln l t
  · rw [if_pos (by omega)]
  · rw [if_neg (by omega)]
    have : ln l t = 0 := by omega
    simp [wd, this]

def Xst (w : World) (l : List Int) (n s : Nat) (wr : World) : Prop := wr.heap[w.heap.size]? = some (.cells ((outN l n s).map (Value.int .i64)).toArray 3 (0, 0)) ∧ Below w.heap.size w wr

theorem Xst.step {w wr : World} {l : List Int} {n s : Nat} (h : Xst w l n s wr) (hn : ln l s = n) (h0 : 0 < n) (x : Int) (hx : x = (wd l s : Int)) : Xst w l n (s + 1) (wr.setCell ⟨w.heap.size, s, none⟩ (.int .i64 x)) :=
  ⟨by rw [heap_setCell_same _ _ _ _ _ _ h.1, map_set, outN_step hn h0, hx], h.2.setCell (by show _ ≤ w.heap.size; omega) _⟩

theorem wd_at {l : List Int} (hl : Lens l) {s n : Nat} (hn : ln l s = n) (h0 : 0 < n) : wd l s = fi l n + (l.take s).count (n : Int) := by
  unfold wd rk
  rw [if_neg (by omega), (hl.ln s).1, hn]

end Go.Proofs.YthngagciiidppaaGreatDoor

namespace Go.Proofs.YthngagciiidppaaGreatDoor
open Go.RowKit Go.Maps
set_option maxRecDepth 20000
set_option linter.unusedVariables false

def slnv : Value → Nat | .slice _ n _ => n | _ => 0

theorem OI.cut {w : World} {B g n c k : Nat} {l : List Int} (h : OI w B (.slice (some ⟨g, 0, none⟩) n c) l) (hk : k ≤ l.length) : OI w B (.slice (some ⟨g, 0, none⟩) k c) (l.take k) := by
  have hl : (l.take k).length = k := by rw [List.length_take]; omega
  rcases h.2 with ⟨hv, _⟩ | ⟨g', cap, cur, hv, h1, h2, h3, h4, h5, h6⟩
  · cases hv
  · simp only [Value.slice.injEq, Option.some.injEq, Addr.mk.injEq, and_true] at hv
    obtain ⟨rfl, rfl, rfl⟩ := hv
    refine ⟨by simp, .inr ⟨g, c, cur, by rw [hl], h1, h2, by omega, h4, h5, ?_⟩⟩
    rw [hl]
    have := congrArg (List.take (k * 1)) h6
    rw [List.take_take, show min (k * 1) (l.length * 1) = k * 1 by omega] at this
    rw [this, List.map_take, Nat.mul_one]

theorem cut_trm {l : List Int} {f : Nat} : (l ++ List.replicate (f - l.length) 0).take (tlk (l ++ List.replicate (f - l.length) 0) f (l ++ List.replicate (f - l.length) 0).length) = trm l f := by
  by_cases h : l.length ≤ f
  · have hl : (l ++ List.replicate (f - l.length) (0 : Int)).length = f := by rw [List.length_append, List.length_replicate]; omega
    rw [hl, tl_low _ f f (Nat.le_refl _), List.take_of_length_le (by omega)]
    unfold trm tln
    rw [tl_low l f l.length h, List.take_of_length_le (Nat.le_refl _)]
  · rw [show f - l.length = 0 by omega, List.replicate_zero, List.append_nil]
    unfold trm
    have := tl_ge l f l.length (by omega)
    unfold tln
    rw [show f - tlk l f l.length = 0 by omega, List.replicate_zero, List.append_nil]

set_option maxHeartbeats 2000000 in
theorem xcut_any (v : Value) (l : List Int) (f : Nat) (w : World) (h : SI w v l) (hf1 : 1 ≤ f) (hf : f ≤ 257) (hn : l.length ≤ 286) :
    Calls Tryz.prog 36 #[v, .int .i64 f] w fun e w' => ∃ a c, e = .returned (.slice a (trm l f).length c) ∧ OI w' w.heap.size (.slice a (trm l f).length c) (trm l f) ∧ Below w.heap.size w w' := by
  have HS := hide h
  obtain ⟨ao, cap, rfl, hlc, hcm⟩ := h.open
  clear h
  go_enter Tryz.func36, Tryz.ntmps36
  go_wp2
  go_loopw [5, 6] (fun u i wr => ∃ k : Nat, k ≤ l.length ∧ i = .int .i64 k ∧ Hid (OI wr w.heap.size u (l.take k)) ∧ Hid (Below w.heap.size w wr)) (fun _ i _ => l.length - (intOf i).toNat)
  case atStart => exact ⟨0, Nat.zero_le _, rfl, World.ownsRow_nil _ _ _ _, Below.refl _ _⟩
  case round =>
    obtain ⟨k, hk, rfl, HO, HB⟩ := hrel
    by_cases hlt : k < l.length
    · have hlt' : (k : Int) < (l.length : Int) := by omega
      obtain ⟨b, o, rfl, hc⟩ := HS.out.get HB.out hlt
      have HD : Hid (l.take (k + 1) = l.take k ++ [l.getD k 0]) := by show _ = _; rw [List.take_succ_eq_append_getElem hlt]; simp [hlt]
      obtain ⟨y, HY⟩ : ∃ y, Hid (y = l.getD k 0) := ⟨_, rfl⟩
      rw [← HY.out] at hc HD
      obtain ⟨D, HDD⟩ : ∃ D, Hid (D = l.take k) := ⟨_, rfl⟩
      have hDl : D.length ≤ k := by rw [HDD.out, List.length_take]; omega
      rw [← HDD.out] at HO HD
      have hBw := HB.out.size
      obtain ⟨a1, p1, hu⟩ := HO.out.shape
      subst hu
      have HALC := hide (HO.out.alloc (.cells #[.int .i64 y] 3))
      have HSR := hide (built_srcI wr [y])
      go_wp2_with (at_builtin; refine wpList_appI rfl _ _ 36 rfl w.heap.size _ _ D [y] rfl HALC.out rfl HSR.out (by simp; omega) (by simp; omega) ?_)
      intro v3 w3 ho3 hgr3
      have HN : Hid (OI w3 w.heap.size v3 (l.take (k + 1)) ∧ Below w.heap.size w w3) := ⟨by rw [HD.out]; exact ho3, grow_one7 HB.out (Nat.le_refl _) HO.out hgr3⟩
      clear ho3 hgr3
      go_wp2
      go_roundw
      case rel => exact ⟨k + 1, by omega, by go_num, HN.out.1, HN.out.2⟩
      case measure => simp [intOf]; omega
    · obtain rfl : k = l.length := by omega
      have hlt' : ¬ (l.length : Int) < (l.length : Int) := by omega
      have HF : Hid (OI wr w.heap.size u5 (l ++ List.replicate 0 0)) := by have := HO.out; rw [List.take_of_length_le (Nat.le_refl _)] at this; rw [List.replicate_zero, List.append_nil]; exact hide this
      clear HO
      obtain ⟨a0, p0, hu0⟩ := HF.out.shape
      have HF2 : Hid (∃ M : List Int, ∃ j, M = l ++ List.replicate j 0 ∧ (j = 0 ∨ l.length + j ≤ f) ∧ u5 = .slice a0 M.length p0 ∧ OI wr w.heap.size (.slice a0 M.length p0) M) := ⟨_, 0, rfl, .inl rfl, hu0, by have := HF.out; rwa [hu0] at this⟩
      clear HF hu0
      obtain ⟨M0, j0, hM0, hj0, hu0, hO0⟩ := HF2.out
      subst hu0
      have HO0 := hide hO0
      have HM0 := hide hM0
      have HJ0 := hide hj0
      clear hO0 hM0 hj0 HF2
      go_wp2
      go_loopw [5] (fun u wr => ∃ (M : List Int) (a : Option Addr) (p : Nat), u = .slice a M.length p ∧ Hid (∃ j, M = l ++ List.replicate j 0 ∧ (j = 0 ∨ l.length + j ≤ f)) ∧ M.length ≤ 286 ∧ Hid (OI wr w.heap.size (.slice a M.length p) M) ∧ Hid (Below w.heap.size w wr)) (fun u _ => f - slnv u)
      case atStart => exact ⟨M0, a0, p0, rfl, ⟨j0, HM0.out, HJ0.out⟩, by rw [HM0.out, List.length_append, List.length_replicate]; have := HJ0.out; omega, HO0.out, HB.out⟩
      case round =>
        obtain ⟨M, a1, p1, rfl, HMJ, hMl, HO2, HB2⟩ := hrel
        by_cases hlt2 : M.length < f
        · have hlt2' : (M.length : Int) < (f : Int) := by omega
          have HNX : Hid (∃ j, M ++ [0] = l ++ List.replicate j 0 ∧ (j = 0 ∨ l.length + j ≤ f)) := by
            obtain ⟨j, e, _⟩ := HMJ.out
            refine ⟨j + 1, by rw [e, List.replicate_succ', List.append_assoc], .inr ?_⟩
            have := congrArg List.length e
            rw [List.length_append, List.length_replicate] at this
            omega
          have hBw := HB2.out.size
          have HALC := hide (HO2.out.alloc (.cells #[.int .i64 0] 3))
          have HSR := hide (built_srcI wr [0])
          go_wp2_with (at_builtin; refine wpList_appI rfl _ _ 36 rfl w.heap.size _ _ M [0] rfl HALC.out rfl HSR.out (by simp; omega) (by simp; omega) ?_)
          intro v3 w3 ho3 hgr3
          have HN : Hid (Below w.heap.size w w3) := grow_one7 HB2.out (Nat.le_refl _) HO2.out hgr3
          obtain ⟨a3, p3, hv3⟩ := ho3.shape
          obtain ⟨M3, HM3⟩ : ∃ M3 : List Int, Hid (M3 = M ++ [0]) := ⟨_, hide rfl⟩
          rw [← HM3.out] at hv3 ho3 HNX
          have hM3 : M3.length ≤ M.length + 1 ∧ M.length + 1 ≤ M3.length := by rw [HM3.out, List.length_append, List.length_singleton]; omega
          subst hv3
          have HO3 := hide ho3
          clear ho3 hgr3
          go_wp2
          go_roundw
          case rel => exact ⟨M3, a3, p3, rfl, HNX, by omega, HO3, HN⟩
          case measure => simp only [slnv]; omega
        · have hlt2' : ¬ (M.length : Int) < (f : Int) := by omega
          have HMF : Hid (M = l ++ List.replicate (f - l.length) 0) := by
            obtain ⟨j, e, hj⟩ := HMJ.out
            have := congrArg List.length e
            rw [List.length_append, List.length_replicate] at this
            show _ = _
            rw [e]
            congr 2
            omega
          have HTR : Hid (trm l f = M.take (tlk M f M.length)) := by show _ = _; rw [HMF.out]; exact cut_trm.symm
          obtain ⟨g, cg, hv, hg1, hg2, hg3, hg4⟩ := HO2.out.form (by omega)
          simp only [Value.slice.injEq, true_and] at hv
          obtain ⟨rfl, rfl⟩ := hv
          obtain ⟨ml, hml, HML⟩ : ∃ ml, ml ≤ 286 ∧ Hid (M.length = ml) := ⟨M.length, hMl, rfl⟩
          rw [HML.out] at hlt2 hlt2' hg3 HO2 HTR ⊢
          clear hMl HMJ HMF
          go_wp2
          go_loopw [5] (fun u wr2 => ∃ n : Nat, f ≤ n ∧ n ≤ ml ∧ u = .slice (some ⟨g, 0, none⟩) n p1 ∧ wr2 = wr ∧ Hid (tlk M f ml = tlk M f n)) (fun u _ => slnv u)
          case atStart => exact ⟨ml, by omega, Nat.le_refl _, rfl, rfl, rfl⟩
          case round =>
            obtain ⟨n, hn1, hn2, rfl, hw, HK⟩ := hrel
            subst hw
            by_cases hlt3 : f < n
            · have hlt3' : (f : Int) < (n : Int) := by omega
              obtain ⟨j, rfl⟩ : ∃ j, n = j + 1 := ⟨n - 1, by omega⟩
              have hc := HO2.out.get (b := g) rfl (i := j) (by rw [HML.out]; omega)
              have HT : Hid (tlk M f (j + 1) = if M.getD j 0 = 0 then tlk M f j else j + 1) := by
                show _ = _
                simp only [tlk]
                by_cases q : M.getD j 0 = 0
                · rw [if_pos ⟨hlt3, q⟩, if_pos q]
                · rw [if_neg (fun z => q z.2), if_neg q]
              obtain ⟨y, HY⟩ : ∃ y, Hid (y = M.getD j 0) := ⟨_, rfl⟩
              rw [← HY.out] at hc HT
              have ej : ((j : Int) + 1 - 1) = (j : Int) := by omega
              by_cases hy : y = 0
              · subst hy
                have HK2 : Hid (tlk M f ml = tlk M f j) := by show _ = _; rw [HK.out, HT.out, if_pos rfl]
                go_wp2
                go_roundw
                case rel => exact ⟨j, by omega, by omega, rfl, trivial, HK2⟩
                case measure => simp only [slnv]; omega
              · have hy' : (y == 0) = false := by simpa using hy
                have HFN : Hid (OI wr w.heap.size (.slice (some ⟨g, 0, none⟩) (trm l f).length p1) (trm l f) ∧ (trm l f).length = j + 1) := by
                  have e : trm l f = M.take (j + 1) := by rw [HTR.out, HK.out, HT.out, if_neg hy]
                  have hl : (trm l f).length = j + 1 := by rw [e, List.length_take, HML.out]; omega
                  have := HO2.out.cut (k := j + 1) (by rw [HML.out]; omega)
                  rw [← e] at this
                  exact ⟨by rw [hl]; exact this, hl⟩
                go_wp2
                go_ret
                refine ⟨some ⟨g, 0, none⟩, p1, ?_, HFN.out.1, HB2.out⟩
                rw [HFN.out.2]
                rfl
            · obtain rfl : n = f := by omega
              have hlt3' : ¬ (n : Int) < (n : Int) := by omega
              have hd3 : decide ((n : Int) < (n : Int)) = false := decide_eq_false hlt3'
              have HFN : Hid (OI wr w.heap.size (.slice (some ⟨g, 0, none⟩) (trm l n).length p1) (trm l n) ∧ (trm l n).length = n) := by
                have e : trm l n = M.take n := by rw [HTR.out, HK.out, tl_low M n n (Nat.le_refl _)]
                have hl : (trm l n).length = n := by rw [e, List.length_take, HML.out]; omega
                have := HO2.out.cut (k := n) (by rw [HML.out]; omega)
                rw [← e] at this
                exact ⟨by rw [hl]; exact this, hl⟩
              go_wp2
              go_ret
              refine ⟨some ⟨g, 0, none⟩, p1, ?_, HFN.out.1, HB2.out⟩
              rw [HFN.out.2]
              rfl
end Go.Proofs.YthngagciiidppaaGreatDoor

namespace Go.Proofs.YthngagciiidppaaGreatDoor
open Go.RowKit Go.Maps
set_option maxRecDepth 20000
set_option linter.unusedVariables false

set_option maxHeartbeats 1000000 in
theorem zcodes_any (v1 v2 : Value) (l1 l2 : List Int) (w : World) (s1 : SI w v1 l1) (s2 : SI w v2 l2) (hl : 257 ≤ l1.length) :
    Calls Tryz.prog 37 #[v1, v2] w fun e w' => e = .returned (.int .i64 (hck l1 l2)) ∧ w' = w := by
  have H1 := hide s1
  have H2 := hide s2
  obtain ⟨a1, c1, rfl, hc1, hd1⟩ := s1.open
  obtain ⟨a2, c2, rfl, hc2, hd2⟩ := s2.open
  clear s1 s2
  have hl' : (256 : Int) < (l1.length : Int) := by omega
  have hl2 : ¬ (l1.length : Int) < 257 := by omega
  have hl3 : decide ((l1.length : Int) < 257) = false := decide_eq_false hl2
  obtain ⟨b, o, rfl, hc⟩ := H1.out.get (Below.refl _ _) (k := 256) (by omega)
  have HC1 := hide (xcheck_any _ l1 w H1.out)
  have HC2 := hide (xcheck_any _ l2 w H2.out)
  have HK : Hid (hck l1 l2 = if l1.getD 256 0 = 0 ∨ (chkS l1 ≠ 4 ∧ chkS l1 ≠ 1) then 75 else if chkS l2 ≠ 4 ∧ chkS l2 ≠ 1 ∧ chkS l2 ≠ 0 then 76 else 0) := rfl
  obtain ⟨y, HY⟩ : ∃ y, Hid (y = l1.getD 256 0) := ⟨_, rfl⟩
  obtain ⟨S, HSS⟩ : ∃ S, Hid (S = chkS l1) := ⟨_, rfl⟩
  obtain ⟨U, HU⟩ : ∃ U, Hid (U = chkS l2) := ⟨_, rfl⟩
  rw [← HY.out] at hc HK
  rw [← HSS.out] at HK HC1
  rw [← HU.out] at HK HC2
  go_enter Tryz.func37, Tryz.ntmps37
  go_wp2_with fail
  refine HC1.out.mono ?_
  rintro e w1 ⟨rfl, hw1⟩
  rw [hw1]
  clear hw1
  by_cases y0 : y = 0
  · have HR : Hid (hck l1 l2 = 75) := by show _ = _; rw [HK.out, if_pos (.inl y0)]
    subst y0
    go_wp2
    go_ret
    rw [HR.out]
    exact ⟨rfl, rfl⟩
  · have y0' : (y == 0) = false := by simpa using y0
    by_cases sok : S = 4 ∨ S = 1
    · have HK2 : Hid (hck l1 l2 = if U ≠ 4 ∧ U ≠ 1 ∧ U ≠ 0 then 76 else 0) := by show _ = _; rw [HK.out, if_neg (by omega)]
      rcases sok with rfl | rfl
      all_goals
        go_wp2_with fail
        refine HC2.out.mono ?_
        rintro e w2 ⟨rfl, hw2⟩
        rw [hw2]
        clear hw2
        by_cases u4 : U = 4
        · have HR : Hid (hck l1 l2 = 0) := by show _ = _; rw [HK2.out, if_neg (by omega)]
          subst u4
          go_wp2
          go_ret
          rw [HR.out]
          exact ⟨rfl, rfl⟩
        · have u4' : (U != 4) = true := by simpa using u4
          by_cases u1 : U = 1
          · have HR : Hid (hck l1 l2 = 0) := by show _ = _; rw [HK2.out, if_neg (by omega)]
            subst u1
            go_wp2
            go_ret
            rw [HR.out]
            exact ⟨rfl, rfl⟩
          · have u1' : (U != 1) = true := by simpa using u1
            by_cases u0 : U = 0
            · have HR : Hid (hck l1 l2 = 0) := by show _ = _; rw [HK2.out, if_neg (by omega)]
              subst u0
              go_wp2
              go_ret
              rw [HR.out]
              exact ⟨rfl, rfl⟩
            · have u0' : (U != 0) = true := by simpa using u0
              have HR : Hid (hck l1 l2 = 76) := by show _ = _; rw [HK2.out, if_pos ⟨u4, u1, u0⟩]
              go_wp2
              go_ret
              rw [HR.out]
              exact ⟨rfl, rfl⟩
    · have s4 : (S != 4) = true := by simp; omega
      have s1 : (S != 1) = true := by simp; omega
      have HR : Hid (hck l1 l2 = 75) := by show _ = _; rw [HK.out, if_pos (.inr (by omega))]
      go_wp2
      go_ret
      rw [HR.out]
      exact ⟨rfl, rfl⟩

structure Xodr (w : World) : Prop where
  get : ∀ i : Nat, i < 19 → w.cell? ⟨2, i, none⟩ = some (.int .i64 (zor.getD i 0))

theorem Xodr.mono {w w' : World} (h : Xodr w) (hb : Below w.heap.size w w') : Xodr w' := ⟨fun i hi => (hb.cell (World.block_lt_of_cell? w _ (h.get i hi))).trans (h.get i hi)⟩

set_option maxHeartbeats 1000000 in
theorem xwritten_any (v : Value) (c : List Int) (w : World) (h : SI w v c) (O : Xodr w) (hc : c.length = 19) (h0 : ∀ s, 0 ≤ c.getD s 0) :
    Calls Tryz.prog 40 #[v] w fun e w' => e = .returned (.int .i64 (wrt c : Nat)) ∧ w' = w := by
  have HS := hide h
  have HO := hide O
  have H0 := hide h0
  obtain ⟨ao, cap, rfl, hlc, hcm⟩ := h.open
  clear h O h0
  go_enter Tryz.func40, Tryz.ntmps40
  go_wp2
  go_loopw [3, 4] (fun n i wr => ∃ k : Nat, k ≤ 19 ∧ i = .int .i64 k ∧ n = .int .i64 (wfw c k : Nat) ∧ wfw c k ≤ 19 ∧ wr = w) (fun _ i _ => 19 - (intOf i).toNat)
  case atStart => exact ⟨0, Nat.zero_le _, rfl, rfl, by simp [wfw], rfl⟩
  case round =>
    obtain ⟨k, hk, rfl, rfl, hw19, hw⟩ := hrel
    subst hw
    by_cases hlt : k < 19
    · have hlt' : (k : Int) < 19 := by omega
      have o1 := HO.out.get k hlt
      have o2 := zor_at k hlt
      have HT : Hid (wfw c (k + 1) = if 0 < c.getD (zor.getD k 0).toNat 0 ∧ wfw c k < k + 1 then k + 1 else wfw c k) := rfl
      obtain ⟨z', hz⟩ : ∃ z', z' = zor.getD k 0 := ⟨_, rfl⟩
      rw [← hz] at o1 o2 HT
      obtain ⟨z, rfl⟩ := Int.eq_ofNat_of_zero_le o2.1
      rw [Int.toNat_natCast] at HT
      have hzl : (z : Int) < (c.length : Int) := by rw [hc]; exact o2.2
      obtain ⟨b, o, rfl, hcz⟩ := HS.out.get (Below.refl _ _) (k := z) (by omega)
      have hy0 := H0.out z
      obtain ⟨y, HY⟩ : ∃ y, Hid (y = c.getD z 0) := ⟨_, rfl⟩
      rw [← HY.out] at hcz HT hy0
      obtain ⟨W, HW⟩ : ∃ W, Hid (W = wfw c k) := ⟨_, rfl⟩
      rw [← HW.out] at HT hw19 ⊢
      clear hz o2
      by_cases hy : y = 0
      · subst hy
        have HK2 : Hid (wfw c (k + 1) = W) := by show _ = _; rw [HT.out, if_neg (by omega)]
        go_wp2
        go_roundw
        case rel => exact ⟨k + 1, by omega, by go_num, by rw [HK2.out], by rw [HK2.out]; omega, trivial⟩
        case measure => simp [intOf]; omega
      · have hy' : (y != 0) = true := by simpa using hy
        by_cases hwk : W < k + 1
        · have hwk' : (W : Int) < (k : Int) + 1 := by omega
          have HK2 : Hid (wfw c (k + 1) = k + 1) := by show _ = _; rw [HT.out, if_pos ⟨by omega, hwk⟩]
          go_wp2
          go_roundw
          case rel => exact ⟨k + 1, by omega, by go_num, by rw [HK2.out]; go_num, by rw [HK2.out]; omega, trivial⟩
          case measure => simp [intOf]; omega
        · have hwk' : ¬ (W : Int) < (k : Int) + 1 := by omega
          have HK2 : Hid (wfw c (k + 1) = W) := by show _ = _; rw [HT.out, if_neg (by omega)]
          go_wp2
          go_roundw
          case rel => exact ⟨k + 1, by omega, by go_num, by rw [HK2.out], by rw [HK2.out]; omega, trivial⟩
          case measure => simp [intOf]; omega
    · obtain rfl : k = 19 := by omega
      have HF : Hid (wfw c 19 = wrt c) := wfw_wrt H0.out
      rw [HF.out]
      go_wp2
      go_ret
      exact ⟨rfl, rfl⟩

set_option maxHeartbeats 2000000 in
theorem often_any (v : Value) (R : List Rn) (w : World) (h : SR w v R) (hok : ∀ r ∈ R, Okr r) (hn : R.length ≤ 1048576) :
    Calls Tryz.prog 39 #[v] w fun e w' => ∃ g, e = .returned (.slice (some ⟨g, 0, none⟩) 19 19) ∧ OI w' w.heap.size (.slice (some ⟨g, 0, none⟩) 19 19) (usg R) ∧ Below w.heap.size w w' := by
  have HS := hide h
  have HOK := hide hok
  obtain ⟨ao, cap, rfl, hlc, hcm⟩ := h.open
  clear h hok
  go_enter Tryz.func39, Tryz.ntmps39
  go_wp2_with (at_make; refine wpList_mkI rfl _ _ rfl _ _ _ _ 19 19 rfl rfl rfl rfl (Nat.le_refl _) (by omega) ?_)
  intro w1 hg1 hb1
  have HO1 : Hid (OI w1 w.heap.size (.slice (some ⟨w.heap.size, 0, none⟩) 19 19) (usg [])) := by
    rw [usg_nil]
    exact hide (OI.of_full (l := List.replicate 19 0) (by rw [hg1]; rfl) (Nat.le_refl _) (by unfold maxLen; simp))
  have HB1 := hide hb1
  clear hg1 hb1
  go_wp2
  go_loopw [4] (fun i wr => ∃ k : Nat, k ≤ R.length ∧ i = .int .i64 k ∧ Hid (OI wr w.heap.size (.slice (some ⟨w.heap.size, 0, none⟩) 19 19) (usg (R.take k))) ∧ Hid (Below w.heap.size w wr)) (fun i _ => R.length - (intOf i).toNat)
  case atStart => exact ⟨0, Nat.zero_le _, rfl, HO1.out, HB1.out⟩
  case round =>
    obtain ⟨k, hk, rfl, HO, HB⟩ := hrel
    by_cases hlt : k < R.length
    · have hlt' : (k : Int) < (R.length : Int) := by omega
      obtain ⟨b, o, rfl, c1, c2⟩ := HS.out.get HB.out hlt
      have ok : Okr (R.getD k rn0) := HOK.out _ (by rw [show R.getD k rn0 = R[k] by simp [hlt]]; exact List.getElem_mem hlt)
      have h1 := ok.1
      have h2 := ok.2.1
      have HSN : Hid (R.take (k + 1) = R.take k ++ [R.getD k rn0]) := by show _ = _; rw [List.take_succ_eq_append_getElem hlt]; simp [hlt]
      obtain ⟨r, hr⟩ : ∃ r, r = R.getD k rn0 := ⟨_, rfl⟩
      rw [← hr] at c1 c2 h1 h2 HSN
      obtain ⟨s', c⟩ := r
      simp only at c1 c2 h1 h2
      obtain ⟨s, rfl⟩ := Int.eq_ofNat_of_zero_le h1
      have hs : s < 19 := by omega
      have hs' : (s : Int) < 19 := by omega
      clear hr ok h1 h2
      have y0 := HO.out.get (b := w.heap.size) rfl (i := s) (by rw [usg_len]; exact hs)
      have hbd := usg_le (R.take k) s hs
      obtain ⟨g, cc, hv, _, hfz, hput⟩ := HO.out.put (k := s) (by rw [usg_len]; exact hs) ((usg (R.take k)).getD s 0 + 1)
      simp only [Value.slice.injEq, Option.some.injEq, Addr.mk.injEq, and_true] at hv
      obtain ⟨rfl, -, -⟩ := hv
      rw [← usg_snoc (R.take k) s c hs, ← HSN.out] at hput
      have hRl : (R.take k).length ≤ 1048576 := by rw [List.length_take]; omega
      obtain ⟨Y, hY⟩ : ∃ Y, Y = (usg (R.take k)).getD s 0 := ⟨_, rfl⟩
      rw [← hY] at y0 hbd hput
      have hY1 : 0 ≤ Y := hbd.1
      have hY2 : Y ≤ 1048576 := by omega
      have HP : Hid (OI (wr.setCell ⟨w.heap.size, s, none⟩ (.int .i64 (Y + 1))).drew w.heap.size (.slice (some ⟨w.heap.size, 0, none⟩) 19 19) (usg (R.take (k + 1)))) := hput.move fun _ _ => rfl
      have HBN : Hid (Below w.heap.size w (wr.setCell ⟨w.heap.size, s, none⟩ (.int .i64 (Y + 1))).drew) := (HB.out.setCell (p := ⟨w.heap.size, s, none⟩) (Nat.le_refl _) _).drew
      clear hput hY hbd
      go_wp2
      go_region
      go_wp2
      go_roundw
      case rel => exact ⟨k + 1, by omega, by go_num, HP, HBN⟩
      case measure => simp [intOf]; omega
    · obtain rfl : k = R.length := by omega
      have hlt' : ¬ (R.length : Int) < (R.length : Int) := by omega
      have HF : Hid (OI wr w.heap.size (.slice (some ⟨w.heap.size, 0, none⟩) 19 19) (usg R)) := by have := HO.out; rwa [List.take_of_length_le (Nat.le_refl _)] at this
      go_wp2
      go_ret
      exact ⟨_, rfl, HF.out, HB.out⟩
end Go.Proofs.YthngagciiidppaaGreatDoor

