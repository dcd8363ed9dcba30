import Derived.Test.YthlbmpmbbdaboaaRws
import Derived.Test.YthlbmpmbbdaboaaHlp
namespace Go.Proofs.Ythlbmpmbbdaboaa
open Go.RowKit Go.Maps
set_option maxRecDepth 20000

theorem row_mod {k : Int} : k.tmod 32768 = k % 32768 ∨ (k.tmod 32768 < 0 ∧ -32768 < k.tmod 32768) := by
  by_cases h : 0 ≤ k
  · exact .inl (Int.tmod_eq_emod_of_nonneg h)
  · by_cases c : k.tmod 32768 < 0
    · right
      refine ⟨c, ?_⟩
      have h1 := Int.neg_tmod (-k) 32768
      rw [Int.neg_neg] at h1
      have h2 := Int.tmod_eq_emod_of_nonneg (a := -k) (b := 32768) (by omega)
      omega
    · left
      exact (tmod_neg (n := 32768) (by omega) (by omega)).2 c

set_option maxHeartbeats 4000000 in
theorem rows_walk (v : Value) (l : List Int) (row : Int) (w : World) (h : SI w v l) (hr : l.length ≤ 17592186043904) :
    Calls Try.prog 7 #[v, .int .i64 row] w fun e w' => e = .returned (.bool true) ∧ Below w.heap.size w w' := by
  have HS := hide h
  obtain ⟨ao, cap, rfl, hlc, hcm⟩ := h.open
  clear h
  go_enter Try.func7, Try.ntmps7
  go_wp2_with fail
  refine (icopied_any _ l _ HS.out hr).mono ?_
  rintro e w1 ⟨a1, rfl, ho1, hb1⟩
  have HB1 := hide hb1
  have HO1 := hide ho1.sb
  clear hb1 ho1
  go_wp2_with fail
  refine (newDecoder_any _ l _ HO1.out).mono ?_
  rintro e w2 ⟨hb2, hd2⟩
  have HB2 := hide (HB1.out.trans (hb2.mono HB1.out.size))
  have HS2 := hide (HS.out.below HB2.out)
  have hw2 : w.heap.size ≤ w1.heap.size := HB1.out.size
  clear hb2
  by_cases h4 : chkE l = 0 ∧ shp l = 4
  case neg =>
    have key : ∀ (p : Value) (c : Int), e = .returned (.tuple #[p, .int .i64 c]) → True := fun _ _ _ => trivial
    clear key
    have hsh : ∃ p c, e = .returned (.tuple #[.pointer p, .int .i64 c]) := by
      rcases hd2 with ⟨_, rfl⟩ | ⟨_, g, K, rfl, _, _⟩
      · exact ⟨_, _, rfl⟩
      · exact ⟨_, _, rfl⟩
    obtain ⟨p, c, rfl⟩ := hsh
    clear hd2
    have hcase : (chkE l == 0) = false ∨ ((chkE l == 0) = true ∧ (chkS l == 4) = false) := by
      by_cases c0 : chkE l = 0
      · right
        refine ⟨by simpa using c0, ?_⟩
        rw [(chkE_zero c0).2]
        simp only [beq_eq_false_iff_ne]
        exact fun hh => h4 ⟨c0, hh⟩
      · left; simpa using c0
    obtain ⟨cE, HCE⟩ : ∃ c, Hid (c = chkE l) := ⟨_, rfl⟩
    obtain ⟨cS, HCS⟩ : ∃ c, Hid (c = chkS l) := ⟨_, rfl⟩
    rw [← HCE.out, ← HCS.out] at hcase
    go_wp2_with fail
    refine (icopied_any _ l _ HS2.out hr).mono ?_
    rintro e w3 ⟨a3, rfl, ho3, hb3⟩
    have HB3 := hide (HB2.out.trans (hb3.mono HB2.out.size))
    have HO3 := hide ho3.sb
    clear hb3 ho3
    go_wp2_with fail
    refine (check_any _ l _ HO3.out).mono ?_
    rintro e w4 ⟨rfl, hb4⟩
    have HB4 := hide (HB3.out.trans (hb4.mono HB3.out.size))
    clear hb4
    rw [← HCE.out, ← HCS.out]
    go_wp2_with fail
    refine (num_any _ _).mono ?_
    rintro e w5 ⟨rfl, rfl⟩
    have HS7 : Hid (SI (w5.alloc (.cells #[.int .i64 1, .int .i64 1] 3)) (.slice (some ⟨w5.heap.size, 0, none⟩) 2 2) [1, 1]) := built_si w5 [1, 1] (by simp)
    have HB7 : Hid (Below w.heap.size w (w5.alloc (.cells #[.int .i64 1, .int .i64 1] 3))) := HB4.out.alloc HB4.out.size _
    rcases hcase with hc | ⟨hc, hc2⟩
    · have hc' : ¬ cE = 0 := by simpa using hc
      go_wp2_with fail
      refine (newDecoder_any _ [1, 1] _ HS7.out).mono ?_
      rintro e w9 ⟨hb9, ⟨hne, _⟩ | ⟨_, g9, K9, rfl, _, _⟩⟩
      · exact absurd dc11 hne
      have HB9 := hide (HB7.out.trans (hb9.mono HB7.out.size))
      clear hb9
      go_wp2_with fail
      refine (num_any _ _).mono ?_
      rintro e w10 ⟨rfl, rfl⟩
      go_wp2
      go_ret
      exact ⟨rfl, HB9.out⟩
    · have hc' : cE = 0 := by simpa using hc
      have hc2' : ¬ cS = 4 := by simpa using hc2
      subst hc'
      go_wp2_with fail
      refine (newDecoder_any _ [1, 1] _ HS7.out).mono ?_
      rintro e w9 ⟨hb9, ⟨hne, _⟩ | ⟨_, g9, K9, rfl, _, _⟩⟩
      · exact absurd dc11 hne
      have HB9 := hide (HB7.out.trans (hb9.mono HB7.out.size))
      clear hb9
      go_wp2_with fail
      refine (num_any _ _).mono ?_
      rintro e w10 ⟨rfl, rfl⟩
      go_wp2
      go_ret
      exact ⟨rfl, HB9.out⟩
  obtain ⟨c0, c4⟩ := h4
  obtain ⟨hl, hcs⟩ := chkE_zero c0
  have hdc : dcE l = 0 := by
    have : bkE l = 0 := by unfold bkE; rw [if_neg (by simp [c0]), if_neg (by omega), if_neg (by omega)]
    unfold dcE; rw [if_neg (by simp [this]), if_neg (by omega)]
  rcases hd2 with ⟨hne, _⟩ | ⟨_, g, K, rfl, hdp, hK⟩
  · exact absurd hdc hne
  have HHD : Hid (Herd w w2 [(K, td g l)]) := (Herd.nil w).push (xs := []) HB2.out hdp (fun k hk => by have := hK k hk; omega)
  have HL := hide hl
  have H4 := hide c4
  have HC0 := hide c0
  have HCS : Hid (chkS l = 4) := by show _ = _; rw [hcs, c4]
  have h288 := hl.1
  clear hl hcs hdc hdp hK c0 c4
  go_wp2_with fail
  refine (icopied_any _ l _ HS2.out hr).mono ?_
  rintro e w3 ⟨a3, rfl, ho3, hb3⟩
  have HH3 := hide (HHD.out.below hb3)
  have HO3 := hide ho3.sb
  clear hb3 ho3
  go_wp2_with fail
  refine (check_any _ l _ HO3.out).mono ?_
  rintro e w4 ⟨rfl, hb4⟩
  have HH4 := hide (HH3.out.below hb4)
  clear hb4
  rw [HC0.out, HCS.out]
  go_wp2_with fail
  refine (num_any _ _).mono ?_
  rintro e w5 ⟨rfl, rfl⟩
  go_wp2_with fail
  refine (num_any _ _).mono ?_
  rintro e w6 ⟨rfl, rfl⟩
  obtain ⟨n, hnn, hn⟩ : ∃ n : Nat, n < 32768 ∧ ((row.tmod 32768 = (n : Int)) ∨ (row.tmod 32768 = -(n : Int) ∧ 0 < n)) := by
    rcases row_mod (k := row) with e | ⟨e1, e2⟩
    · exact ⟨(row % 32768).toNat, by omega, .inl (by rw [e]; omega)⟩
    · exact ⟨(-(row.tmod 32768)).toNat, by omega, .inr ⟨by omega, by omega⟩⟩
  have HH6 := hide HH4.out
  clear HH4 HH3 HHD HO3 HS2
  rcases hn with hn | ⟨hn, hn0⟩
  · have hnl : ¬ (n : Int) < 0 := by omega
    go_wp2_with fail
    refine (first_any HH6.out 0 rfl H4.out n hnn).mono ?_
    rintro e w7 ⟨rfl, h7⟩
    have H7 := hide h7
    clear h7
    obtain ⟨s, HSS⟩ : ∃ s, Hid (s = fdS l (rowN n)) := ⟨_, rfl⟩
    rw [← HSS.out]
    have hit : Hit l (rowN n) s := by
      obtain ⟨s', hs'⟩ := complete_hit HL.out H4.out (rowN n) (row_lt n)
      rw [HSS.out, (fd_hit HL.out hs').1]; exact hs'
    have HIT := hide hit
    have hs : s < l.length := hit.1.1
    have hs' : ¬ (l.length : Int) ≤ s := by omega
    have hd2 : decide ((l.length : Int) ≤ (s : Int)) = false := decide_eq_false (by omega)
    have hd3 : decide (l.length ≤ s) = false := decide_eq_false (by omega)
    have hm0 : 0 < ln l s := hit.1.2
    have hm15 := (HL.out.ln s).2
    obtain ⟨bo, oo, rfl, hc⟩ := HS.out.get H7.out.bel hs
    rw [(HL.out.ln s).1] at hc
    obtain ⟨m, HM⟩ : ∃ m, Hid (m = ln l s) := ⟨_, rfl⟩
    rw [← HM.out] at hc hm0 hm15 ⊢
    have hm0' : ((m : Int) == 0) = false := by simp; omega
    obtain ⟨b, hb⟩ : ∃ b, m = b + 1 := ⟨m - 1, by omega⟩
    have HBM := hide hb
    have hmb : (m : Int) - 1 = b := by omega
    have hbl : b < 15 := by omega
    clear hit hb
    go_wp2
    clear hc
    go_loopw [14] (fun i wr => ∃ k : Nat, m ≤ k ∧ k ≤ 15 ∧ i = .int .i64 k ∧ Hid (Herd w wr [(K, td g l)])) (fun i _ => 15 - (intOf i).toNat)
    case atStart => exact ⟨m, Nat.le_refl _, hm15, rfl, H7⟩
    case round =>
      clear H7
      obtain ⟨k, hmk, hk, rfl, HR⟩ := hrel
      by_cases hlt : k < 15
      · have hlt' : (k : Int) < 15 := by omega
        have hp : (2 : Int) ^ k ≤ 2 ^ 15 := pow_le (by omega)
        have hp0 := pow_pos k
        have hpw : IntKind.i64.wrap ((2 : Int) ^ k) = 2 ^ k := by rw [IntKind.wrap_i64]; omega
        have hpn : 2 ^ k < 32768 := Nat.pow_lt_pow_right (a := 2) (m := k) (n := 15) (by decide) hlt
        have hx : bits .xor .i64 (n : Int) ((2 : Int) ^ k) = ((n ^^^ 2 ^ k : Nat) : Int) := by
          have := i64_xor n (2 ^ k) hnn hpn
          rw [← this]; push_cast; rfl
        have hn' := flip_lt hnn hlt
        have HT : Hid (fdS l (rowN (n ^^^ 2 ^ k : Nat)) = s) := (fd_hit HL.out (hit_behind HL.out HIT.out (by rw [← HM.out]; exact hmk))).1
        obtain ⟨z, HZ⟩ : ∃ z : Nat, Hid (z = n ^^^ 2 ^ k) := ⟨_, rfl⟩
        rw [← HZ.out] at hx hn' HT
        clear hp hp0 hpn
        go_wp2_with fail
        (try rw [hx])
        refine (first_any HR.out 0 rfl H4.out z hn').mono ?_
        rintro e w8 ⟨rfl, h8⟩
        have H8 := hide h8
        clear h8
        rw [HT.out, ← HM.out]
        go_wp2
        go_roundw
        case rel => exact ⟨k + 1, by omega, by omega, by go_num, H8⟩
        case measure => simp [intOf]; omega
      · obtain rfl : k = 15 := by omega
        have hlt' : ¬ ((15 : Nat) : Int) < 15 := by omega
        have hp : (2 : Int) ^ b ≤ 2 ^ 15 := pow_le (by omega)
        have hp0 := pow_pos b
        have hpw : IntKind.i64.wrap ((2 : Int) ^ b) = 2 ^ b := by rw [IntKind.wrap_i64]; omega
        have hpn : 2 ^ b < 32768 := Nat.pow_lt_pow_right (a := 2) (m := b) (n := 15) (by decide) hbl
        have hx : bits .xor .i64 (n : Int) ((2 : Int) ^ b) = ((n ^^^ 2 ^ b : Nat) : Int) := by
          have := i64_xor n (2 ^ b) hnn hpn
          rw [← this]; push_cast; rfl
        have hn' := flip_lt hnn hbl
        have hne : fdS l (rowN (n ^^^ 2 ^ b : Nat)) ≠ s := fun e => by
          obtain ⟨s2, hs2⟩ := complete_hit HL.out H4.out (rowN (n ^^^ 2 ^ b : Nat)) (row_lt _)
          rw [(fd_hit HL.out hs2).1] at e
          subst e
          exact hit_turned HL.out HIT.out (by rw [← HM.out]; exact HBM.out) hs2
        obtain ⟨z, HZ⟩ : ∃ z : Nat, Hid (z = n ^^^ 2 ^ b) := ⟨_, rfl⟩
        rw [← HZ.out] at hx hn' hne
        clear hp hp0 hpn
        go_wp2_with fail
        (try rw [hx])
        refine (first_any HR.out 0 rfl H4.out z hn').mono ?_
        rintro e w8 ⟨rfl, h8⟩
        have H8 := hide h8
        clear h8
        obtain ⟨q, HQ⟩ : ∃ q, Hid (q = fdS l (rowN z)) := ⟨_, rfl⟩
        rw [← HQ.out] at hne ⊢
        have hne' : ((q : Int) != (s : Int)) = true := by simp; omega
        go_wp2
        go_ret
        exact ⟨by (try rw [hne']); rfl, H8.out.bel⟩
  · have hnl : -(n : Int) < 0 := by omega
    have hnn2 : - -(n : Int) = n := by omega
    go_wp2_with fail
    refine (first_any HH6.out 0 rfl H4.out n hnn).mono ?_
    rintro e w7 ⟨rfl, h7⟩
    have H7 := hide h7
    clear h7
    obtain ⟨s, HSS⟩ : ∃ s, Hid (s = fdS l (rowN n)) := ⟨_, rfl⟩
    rw [← HSS.out]
    have hit : Hit l (rowN n) s := by
      obtain ⟨s', hs'⟩ := complete_hit HL.out H4.out (rowN n) (row_lt n)
      rw [HSS.out, (fd_hit HL.out hs').1]; exact hs'
    have HIT := hide hit
    have hs : s < l.length := hit.1.1
    have hs' : ¬ (l.length : Int) ≤ s := by omega
    have hd2 : decide ((l.length : Int) ≤ (s : Int)) = false := decide_eq_false (by omega)
    have hd3 : decide (l.length ≤ s) = false := decide_eq_false (by omega)
    have hm0 : 0 < ln l s := hit.1.2
    have hm15 := (HL.out.ln s).2
    obtain ⟨bo, oo, rfl, hc⟩ := HS.out.get H7.out.bel hs
    rw [(HL.out.ln s).1] at hc
    obtain ⟨m, HM⟩ : ∃ m, Hid (m = ln l s) := ⟨_, rfl⟩
    rw [← HM.out] at hc hm0 hm15 ⊢
    have hm0' : ((m : Int) == 0) = false := by simp; omega
    obtain ⟨b, hb⟩ : ∃ b, m = b + 1 := ⟨m - 1, by omega⟩
    have HBM := hide hb
    have hmb : (m : Int) - 1 = b := by omega
    have hbl : b < 15 := by omega
    clear hit hb
    go_wp2
    clear hc
    go_loopw [14] (fun i wr => ∃ k : Nat, m ≤ k ∧ k ≤ 15 ∧ i = .int .i64 k ∧ Hid (Herd w wr [(K, td g l)])) (fun i _ => 15 - (intOf i).toNat)
    case atStart => exact ⟨m, Nat.le_refl _, hm15, rfl, H7⟩
    case round =>
      clear H7
      obtain ⟨k, hmk, hk, rfl, HR⟩ := hrel
      by_cases hlt : k < 15
      · have hlt' : (k : Int) < 15 := by omega
        have hp : (2 : Int) ^ k ≤ 2 ^ 15 := pow_le (by omega)
        have hp0 := pow_pos k
        have hpw : IntKind.i64.wrap ((2 : Int) ^ k) = 2 ^ k := by rw [IntKind.wrap_i64]; omega
        have hpn : 2 ^ k < 32768 := Nat.pow_lt_pow_right (a := 2) (m := k) (n := 15) (by decide) hlt
        have hx : bits .xor .i64 (n : Int) ((2 : Int) ^ k) = ((n ^^^ 2 ^ k : Nat) : Int) := by
          have := i64_xor n (2 ^ k) hnn hpn
          rw [← this]; push_cast; rfl
        have hn' := flip_lt hnn hlt
        have HT : Hid (fdS l (rowN (n ^^^ 2 ^ k : Nat)) = s) := (fd_hit HL.out (hit_behind HL.out HIT.out (by rw [← HM.out]; exact hmk))).1
        obtain ⟨z, HZ⟩ : ∃ z : Nat, Hid (z = n ^^^ 2 ^ k) := ⟨_, rfl⟩
        rw [← HZ.out] at hx hn' HT
        clear hp hp0 hpn
        go_wp2_with fail
        (try rw [hx])
        refine (first_any HR.out 0 rfl H4.out z hn').mono ?_
        rintro e w8 ⟨rfl, h8⟩
        have H8 := hide h8
        clear h8
        rw [HT.out, ← HM.out]
        go_wp2
        go_roundw
        case rel => exact ⟨k + 1, by omega, by omega, by go_num, H8⟩
        case measure => simp [intOf]; omega
      · obtain rfl : k = 15 := by omega
        have hlt' : ¬ ((15 : Nat) : Int) < 15 := by omega
        have hp : (2 : Int) ^ b ≤ 2 ^ 15 := pow_le (by omega)
        have hp0 := pow_pos b
        have hpw : IntKind.i64.wrap ((2 : Int) ^ b) = 2 ^ b := by rw [IntKind.wrap_i64]; omega
        have hpn : 2 ^ b < 32768 := Nat.pow_lt_pow_right (a := 2) (m := b) (n := 15) (by decide) hbl
        have hx : bits .xor .i64 (n : Int) ((2 : Int) ^ b) = ((n ^^^ 2 ^ b : Nat) : Int) := by
          have := i64_xor n (2 ^ b) hnn hpn
          rw [← this]; push_cast; rfl
        have hn' := flip_lt hnn hbl
        have hne : fdS l (rowN (n ^^^ 2 ^ b : Nat)) ≠ s := fun e => by
          obtain ⟨s2, hs2⟩ := complete_hit HL.out H4.out (rowN (n ^^^ 2 ^ b : Nat)) (row_lt _)
          rw [(fd_hit HL.out hs2).1] at e
          subst e
          exact hit_turned HL.out HIT.out (by rw [← HM.out]; exact HBM.out) hs2
        obtain ⟨z, HZ⟩ : ∃ z : Nat, Hid (z = n ^^^ 2 ^ b) := ⟨_, rfl⟩
        rw [← HZ.out] at hx hn' hne
        clear hp hp0 hpn
        go_wp2_with fail
        (try rw [hx])
        refine (first_any HR.out 0 rfl H4.out z hn').mono ?_
        rintro e w8 ⟨rfl, h8⟩
        have H8 := hide h8
        clear h8
        obtain ⟨q, HQ⟩ : ∃ q, Hid (q = fdS l (rowN z)) := ⟨_, rfl⟩
        rw [← HQ.out] at hne ⊢
        have hne' : ((q : Int) != (s : Int)) = true := by simp; omega
        go_wp2
        go_ret
        exact ⟨by (try rw [hne']); rfl, H8.out.bel⟩
end Go.Proofs.Ythlbmpmbbdaboaa
