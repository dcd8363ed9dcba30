import Derived.Test.YtklffkbcigehfaaHerdJ
import Derived.Test.YtklffkbcigehfaaFact
namespace Go.Proofs.Ytklffkbcigehfaa
open Go.RowKit Go.Maps
set_option maxRecDepth 20000

theorem put_no {row : List Int} {v n : Int} (h : ¬ putOk row v n) : putE row v n = 1 ∧ putRow row v n = row := ⟨if_neg h, if_neg h⟩

theorem put_full {row : List Int} {v n : Int} (h : 268435456 < (row.length : Int) + n) : putE row v n = 1 ∧ putRow row v n = row := put_no fun k => by have := k.2; omega

theorem raw_full {row l : List Int} (h : 268435456 < row.length + 8 * l.length) : rawE row l = 1 ∧ rawRow row l = row := ⟨if_pos h, if_pos h⟩

theorem join_full {row x : List Int} (h : 268435456 < row.length + x.length) : joinE row x = 1 ∧ joinRow row x = row := ⟨if_pos h, if_pos h⟩

theorem join_ok' {row x : List Int} (h : row.length + x.length ≤ 268435456) : joinE row x = 0 ∧ joinRow row x = row ++ x := ⟨if_neg (by omega), if_neg (by omega)⟩

theorem sb_nil' (w : World) : SB w (.slice none 0 0) [] := ⟨none, 0, rfl, Nat.le_refl _, Nat.zero_le _, fun _ => rfl, fun x hx => by cases hx⟩

theorem byt_rep {b : Int} (h0 : 0 ≤ b) (h1 : b < 256) (n : Nat) : Byt (List.replicate n b) := by
  induction n with
  | zero => exact byt_nil
  | succ n ih => rw [List.replicate_succ]; exact byt_cons_mk h0 h1 ih

/-- A list that make made. -/
theorem made_ob {w w' : World} {m : Nat} (hm : m ≤ 140737488355328) (h : w'.heap[w.heap.size]? = some (.cells (List.replicate m (Value.int .u8 0)).toArray 5 (0, 0))) : OB w' w.heap.size (.slice (some ⟨w.heap.size, 0, none⟩) m m) (List.replicate m 0) := by
  have := OB.of_full (w := w') (base := w.heap.size) (g := w.heap.size) (l := List.replicate m 0) (by simpa using h) (Nat.le_refl _) (by simp; unfold maxLen; omega)
  simpa using this

set_option maxHeartbeats 4000000 in
theorem brim_any {W w : World} {K : Nat → Nat} {g : Nat} {R : List Int} (L : Nat) (hL : L = 0 ∨ L = 8) (hR : R.length + L = 268435456) (joins : Bool) (H0 : Herd W w [(K, tw g R)]) :
    Calls Try.prog 28 #[.pointer (some ⟨g, 0, none⟩), .int .i64 L, .bool joins] w fun e w' => e = .returned (.bool true) ∧ Below W.heap.size W w' := by
  have HH := hide H0
  clear H0
  have hR8 : R.length ≤ 268435456 := by omega
  have P1 := hide (putE_ok (putOk_of (row := []) (v := 0) (n := L + 1) (pow_pos _) (by omega) (by simp; omega)))
  have P2 := hide (putE_ok (putOk_of (row := []) (v := 0) (n := L) (pow_pos _) (by omega) (by simp; omega)))
  rw [List.nil_append] at P1 P2
  have P3 : Hid (putE R 0 ((L : Int) + 1) = 1 ∧ putRow R 0 ((L : Int) + 1) = R) := put_full (by omega)
  have J1 : Hid (joinE R (bts 0 (L + 1)) = 1 ∧ joinRow R (bts 0 (L + 1)) = R) := join_full (by rw [length_bts]; omega)
  have J2 : Hid (joinE R R = 1 ∧ joinRow R R = R) := join_full (by omega)
  have HRL := hide hR
  go_enter Try.func28, Try.ntmps28
  go_wp2_with fail
  refine (hnewW HH.out).mono ?_
  rintro e w1 ⟨gx, K1, rfl, hH⟩
  have H1 := hide hH
  clear hH
  go_wp2_with fail
  refine (hnewW H1.out).mono ?_
  rintro e w2 ⟨gy, K2, rfl, hH⟩
  have H2 := hide hH
  clear hH
  go_wp2_with fail
  refine (hnewW H2.out).mono ?_
  rintro e w3 ⟨gz, K3, rfl, hH⟩
  have H3 : Hid (Herd W w3 [(K, tw g R), (K1, tw gx []), (K2, tw gy []), (K3, tw gz [])]) := hH
  clear hH H1 H2 HH
  go_wp2_with fail
  refine (hput H3.out 1 rfl 0 ((L : Int) + 1) (by omega) (by omega)).mono ?_
  rintro e w4 ⟨rfl, K4, hH⟩
  have P1' : Hid (putE [] 0 ((L : Int) + 1) = 0 ∧ putRow [] 0 ((L : Int) + 1) = bts 0 (L + 1)) := P1.out
  rw [P1'.out.1]
  rw [P1'.out.2] at hH
  have H4 := hide hH
  clear hH
  go_wp2_with fail
  refine (hput H4.out 2 rfl 0 (L : Int) (by omega) (by omega)).mono ?_
  rintro e w5 ⟨rfl, K5, hH⟩
  rw [P2.out.1]
  rw [P2.out.2] at hH
  have H5 : Hid (Herd W w5 [(K, tw g R), (K4, tw gx (bts 0 (L + 1))), (K5, tw gy (bts 0 L)), (K3, tw gz [])]) := hH
  clear hH
  obtain ⟨X, HX⟩ : ∃ X, Hid (X = bts 0 (L + 1)) := ⟨_, rfl⟩
  obtain ⟨Y, HY⟩ : ∃ Y, Hid (Y = bts 0 L) := ⟨_, rfl⟩
  have HYl : Hid (Y.length = L) := by show _ = _; rw [HY.out, length_bts]
  rw [← HX.out, ← HY.out] at H5
  rw [← HX.out] at J1
  obtain ⟨m, hm⟩ : ∃ m : Nat, (L : Int) / 8 + 1 = m := ⟨L / 8 + 1, by omega⟩
  have hm2 : m ≤ 2 := by omega
  have hmL : 8 * m = L + 8 := by omega
  have HML := hide hmL
  clear hmL
  go_wp2_with fail
  refine (hlen H5.out 0 rfl).mono ?_
  rintro e w6 ⟨rfl, hH⟩
  have H6 := hide hH
  clear hH
  go_wp2_with (at_make; refine wpList_mk rfl _ _ rfl _ _ _ _ m m rfl rfl (by first | rfl | exact hm) (by first | rfl | exact hm) (Nat.le_refl _) (by omega) ?_)
  intro w7 hmk hb7
  have ho7 := made_ob (w := w6) (w' := w7) (m := m) (by omega) (by simpa using hmk)
  obtain ⟨K7, hH⟩ := H6.out.list hb7 ho7
  have H7 : Hid (Herd W w7 [(K, tw g R), (K4, tw gx X), (K5, tw gy Y), (K3, tw gz []), (K7, tl (.slice (some ⟨w6.heap.size, 0, none⟩) m m) (List.replicate m 0))]) := hH
  clear hH hmk hb7 ho7
  have HZB : Hid (Byt (List.replicate m 0)) := byt_rep (by omega) (by omega) m
  have R1 : Hid (rawE R (List.replicate m 0) = 1 ∧ rawRow R (List.replicate m 0) = R) := raw_full (by rw [List.length_replicate]; have := HML.out; omega)
  go_wp2_with fail
  refine (hput H7.out 0 rfl 0 ((L : Int) + 1) (by omega) (by omega)).mono ?_
  rintro e w8 ⟨rfl, K8, hH⟩
  rw [P3.out.1]
  rw [P3.out.2] at hH
  have H8 := hide hH
  clear hH
  go_wp2_with fail
  refine (hraw H8.out 0 rfl _ (List.replicate m 0) HZB.out (H8.out.sb 4 rfl) (fun x hx _ => H8.out.sep 4 0 _ _ rfl rfl (by decide) x ((H8.out.rep 4 _ rfl).2.1 x hx))).mono ?_
  rintro e w9 ⟨rfl, K9, hH⟩
  rw [R1.out.1]
  rw [R1.out.2] at hH
  have H9 := hide hH
  clear hH
  go_wp2_with fail
  refine (hjoin H9.out 0 1 rfl rfl (by decide)).mono ?_
  rintro e w10 ⟨rfl, K10, hH⟩
  rw [J1.out.1]
  rw [J1.out.2] at hH
  have H10 := hide hH
  clear hH
  go_wp2_with fail
  refine (hjoinself H10.out 0 rfl).mono ?_
  rintro e w11 ⟨rfl, K11, hH⟩
  rw [J2.out.1]
  rw [J2.out.2] at hH
  have H11 := hide hH
  clear hH
  go_wp2_with fail
  refine (hlen H11.out 0 rfl).mono ?_
  rintro e w12 ⟨rfl, hH⟩
  have H12 := hide hH
  clear hH
  have HBR := hide (H12.out.bit 0 rfl).1
  by_cases hbr : L = 8 ∧ joins = false
  · obtain ⟨rfl, rfl⟩ := hbr
    have A1 := hide (putE_ok (putOk_of (row := R) (v := 1) (n := 3) (by decide) (by omega) (by omega)))
    have A1' : Hid (putE R 1 3 = 0 ∧ putRow R 1 3 = R ++ bts 1 3) := A1.out
    obtain ⟨R3, HR3⟩ : ∃ R3, Hid (R3 = R ++ bts 1 3) := ⟨_, rfl⟩
    rw [← HR3.out] at A1'
    have HR3l : Hid (R3.length = R.length + 3) := by show _ = _; rw [HR3.out, List.length_append, length_bts]
    have A2 : Hid (rawE R3 (List.replicate m 0) = 1 ∧ rawRow R3 (List.replicate m 0) = R3) := raw_full (by rw [List.length_replicate, HR3l.out]; have := HML.out; omega)
    have A3 : Hid (rawE R3 [] = 31 ∧ rawRow R3 [] = R3) := by
      have hRL := HRL.out
      have q1 : ¬ (268435456 < R3.length + 8 * ([] : List Int).length) := by rw [HR3l.out]; simp; omega
      have q2 : R3.length % 8 ≠ 0 := by rw [HR3l.out]; omega
      unfold rawE rawRow
      rw [if_neg q1, if_neg q1, if_pos q2, if_pos q2]
      exact ⟨rfl, rfl⟩
    have A4 : Hid (putE R3 0 6 = 1 ∧ putRow R3 0 6 = R3) := put_full (by rw [HR3l.out]; have := HRL.out; omega)
    have A5 := hide (putE_ok (putOk_of (row := R3) (v := 5) (n := 5) (by decide) (by omega) (by rw [HR3l.out]; omega)))
    have A5' : Hid (putE R3 5 5 = 0 ∧ putRow R3 5 5 = R3 ++ bts 5 5) := A5.out
    clear hm
    go_wp2_with fail
    refine (hput H12.out 0 rfl 1 3 (by omega) (by omega)).mono ?_
    rintro e w20 ⟨rfl, K20, hH⟩
    rw [A1'.out.1]
    rw [A1'.out.2] at hH
    have H20 := hide hH
    clear hH
    go_wp2_with fail
    refine (hraw H20.out 0 rfl _ (List.replicate m 0) HZB.out (H20.out.sb 4 rfl) (fun x hx _ => H20.out.sep 4 0 _ _ rfl rfl (by decide) x ((H20.out.rep 4 _ rfl).2.1 x hx))).mono ?_
    rintro e w21 ⟨rfl, K21, hH⟩
    rw [A2.out.1]
    rw [A2.out.2] at hH
    have H21 := hide hH
    clear hH
    go_wp2_with fail
    refine (hraw H21.out 0 rfl _ [] byt_nil (sb_nil' _) (fun x hx _ => by simp [Value.ownBlock] at hx)).mono ?_
    rintro e w22 ⟨rfl, K22, hH⟩
    rw [A3.out.1]
    rw [A3.out.2] at hH
    have H22 := hide hH
    clear hH
    go_wp2_with fail
    refine (hput H22.out 0 rfl 0 6 (by omega) (by omega)).mono ?_
    rintro e w23 ⟨rfl, K23, hH⟩
    rw [A4.out.1]
    rw [A4.out.2] at hH
    have H23 := hide hH
    clear hH
    go_wp2_with fail
    refine (hput H23.out 0 rfl 5 5 (by omega) (by omega)).mono ?_
    rintro e w24 ⟨rfl, K24, hH⟩
    rw [A5'.out.1]
    rw [A5'.out.2] at hH
    have H24 := hide hH
    clear hH
    obtain ⟨F, HF⟩ : ∃ F, Hid (F = R3 ++ bts 5 5) := ⟨_, rfl⟩
    have HFl : Hid (F.length = 268435456) := by show _ = _; rw [HF.out]; rw [List.length_append, length_bts, HR3l.out]; have := HRL.out; omega
    have HFb : Hid (Bit F) := by rw [HF.out]; exact (H24.out.bit 0 rfl).1
    rw [← HF.out] at H24
    have HFI : Hid ((F.length : Int) = 268435456) := by show _ = _; rw [HFl.out]; rfl
    have HPD : Hid (pad F = F) := by show _ = _; unfold pad; rw [HFl.out]; simp
    have HFP : Hid ((pack F).length = 33554432) := by show _ = _; rw [length_pack HFb.out, HFl.out]
    have Q1 : Hid (putE F 0 0 = 0 ∧ putRow F 0 0 = F) := by
      have hk : putOk F 0 0 := ⟨⟨⟨by omega, by omega⟩, by decide⟩, by rw [HFI.out]; omega⟩
      exact ⟨if_pos hk, by unfold putRow; rw [if_pos hk]; simp [bts]⟩
    have Q2 : Hid (putE F 0 1 = 1 ∧ putRow F 0 1 = F) := put_full (by rw [HFI.out]; omega)
    have Q3 : Hid (rawE F [] = 0 ∧ rawRow F [] = F) := by
      have q1 : ¬ (268435456 < F.length + 8 * ([] : List Int).length) := by rw [HFl.out]; simp
      have q2 : ¬ (F.length % 8 ≠ 0) := by rw [HFl.out]; simp
      unfold rawE rawRow
      rw [if_neg q1, if_neg q1, if_neg q2, if_neg q2]
      exact ⟨rfl, by simp [unpack]⟩
    have Q4 : Hid (rawE F [1] = 1 ∧ rawRow F [1] = F) := raw_full (by rw [HFl.out]; simp)
    have Q5 : Hid (joinE F [] = 0 ∧ joinRow F [] = F) := by
      have := join_ok' (row := F) (x := []) (by rw [HFl.out]; simp)
      exact ⟨this.1, by rw [this.2]; simp⟩
    go_wp2_with fail
    refine (halign H24.out 0 rfl).mono ?_
    rintro e w50 ⟨rfl, K50, hH⟩
    rw [HPD.out] at hH
    have H50 := hide hH
    clear hH
    go_wp2_with fail
    refine (hlen H50.out 0 rfl).mono ?_
    rintro e w51 ⟨rfl, hH⟩
    have H51 := hide hH
    clear hH
    rw [HFI.out]
    go_wp2_with fail
    refine (hput H51.out 0 rfl 0 0 (by omega) (by omega)).mono ?_
    rintro e w52 ⟨rfl, K52, hH⟩
    rw [Q1.out.1]
    rw [Q1.out.2] at hH
    have H52 := hide hH
    clear hH
    go_wp2_with fail
    refine (hput H52.out 0 rfl 0 1 (by omega) (by omega)).mono ?_
    rintro e w53 ⟨rfl, K53, hH⟩
    rw [Q2.out.1]
    rw [Q2.out.2] at hH
    have H53 := hide hH
    clear hH
    go_wp2_with fail
    refine (hraw H53.out 0 rfl _ [] byt_nil (sb_nil' _) (fun x hx _ => by simp [Value.ownBlock] at hx)).mono ?_
    rintro e w54 ⟨rfl, K54, hH⟩
    rw [Q3.out.1]
    rw [Q3.out.2] at hH
    have H54 := hide hH
    clear hH
    have HSB1 := hide (built_sb w54 [1] (by unfold maxLen; simp))
    obtain ⟨V, HV⟩ : ∃ V, Hid (V = w54.alloc (.cells #[.int .u8 1] 5)) := ⟨_, rfl⟩
    have H55 := hide (H54.out.below ((Below.refl w54.heap.size w54).alloc (Nat.le_refl _) (.cells #[.int .u8 1] 5)))
    rw [← HV.out] at H55
    have HK54 : Hid (K54 w54.heap.size = 0) := Thing.zero (x := tw g F) (H54.out.rep 0 _ rfl) (Nat.le_refl _)
    go_wp2_with fail
    rw [← HV.out]
    refine (hraw H55.out 0 rfl _ [1] (byt_one (by omega) (by omega)) (by rw [HV.out]; exact HSB1.out) (fun x hx _ => by simp [Value.ownBlock] at hx; rw [← hx]; exact HK54.out)).mono ?_
    rintro e w56 ⟨rfl, K56, hH⟩
    rw [Q4.out.1]
    rw [Q4.out.2] at hH
    have H56 := hide hH
    clear hH
    go_wp2_with fail
    refine (hjoin H56.out 0 3 rfl rfl (by decide)).mono ?_
    rintro e w57 ⟨rfl, K57, hH⟩
    rw [Q5.out.1]
    rw [Q5.out.2] at hH
    have H57 := hide hH
    clear hH
    go_wp2_with fail
    refine (hbytes H57.out 0 rfl).mono ?_
    rintro e w58 ⟨a58, c58, K58, rfl, hH⟩
    have HB := hide hH.bel
    rw [HFP.out]
    clear hH
    go_wp2
    go_ret
    exact ⟨rfl, HB.out⟩
  · have J3 : Hid (joinE R Y = 0 ∧ joinRow R Y = R ++ Y) := join_ok' (by rw [HYl.out]; have := HRL.out; omega)
    clear hm
    rcases hL with rfl | rfl
    · clear hbr
      go_wp2_with fail
      refine (hjoin H12.out 0 2 rfl rfl (by decide)).mono ?_
      rintro e w30 ⟨rfl, K30, hH⟩
      rw [J3.out.1]
      rw [J3.out.2] at hH
      have H30 := hide hH
      clear hH
      obtain ⟨F, HF⟩ : ∃ F, Hid (F = R ++ Y) := ⟨_, rfl⟩
      have HFl : Hid (F.length = 268435456) := by show _ = _; rw [HF.out]; rw [List.length_append, HYl.out]; exact HRL.out
      have HFb : Hid (Bit F) := by rw [HF.out]; exact (H30.out.bit 0 rfl).1
      rw [← HF.out] at H30
      have HFI : Hid ((F.length : Int) = 268435456) := by show _ = _; rw [HFl.out]; rfl
      have HPD : Hid (pad F = F) := by show _ = _; unfold pad; rw [HFl.out]; simp
      have HFP : Hid ((pack F).length = 33554432) := by show _ = _; rw [length_pack HFb.out, HFl.out]
      have Q1 : Hid (putE F 0 0 = 0 ∧ putRow F 0 0 = F) := by
        have hk : putOk F 0 0 := ⟨⟨⟨by omega, by omega⟩, by decide⟩, by rw [HFI.out]; omega⟩
        exact ⟨if_pos hk, by unfold putRow; rw [if_pos hk]; simp [bts]⟩
      have Q2 : Hid (putE F 0 1 = 1 ∧ putRow F 0 1 = F) := put_full (by rw [HFI.out]; omega)
      have Q3 : Hid (rawE F [] = 0 ∧ rawRow F [] = F) := by
        have q1 : ¬ (268435456 < F.length + 8 * ([] : List Int).length) := by rw [HFl.out]; simp
        have q2 : ¬ (F.length % 8 ≠ 0) := by rw [HFl.out]; simp
        unfold rawE rawRow
        rw [if_neg q1, if_neg q1, if_neg q2, if_neg q2]
        exact ⟨rfl, by simp [unpack]⟩
      have Q4 : Hid (rawE F [1] = 1 ∧ rawRow F [1] = F) := raw_full (by rw [HFl.out]; simp)
      have Q5 : Hid (joinE F [] = 0 ∧ joinRow F [] = F) := by
        have := join_ok' (row := F) (x := []) (by rw [HFl.out]; simp)
        exact ⟨this.1, by rw [this.2]; simp⟩
      go_wp2_with fail
      refine (halign H30.out 0 rfl).mono ?_
      rintro e w50 ⟨rfl, K50, hH⟩
      rw [HPD.out] at hH
      have H50 := hide hH
      clear hH
      go_wp2_with fail
      refine (hlen H50.out 0 rfl).mono ?_
      rintro e w51 ⟨rfl, hH⟩
      have H51 := hide hH
      clear hH
      rw [HFI.out]
      go_wp2_with fail
      refine (hput H51.out 0 rfl 0 0 (by omega) (by omega)).mono ?_
      rintro e w52 ⟨rfl, K52, hH⟩
      rw [Q1.out.1]
      rw [Q1.out.2] at hH
      have H52 := hide hH
      clear hH
      go_wp2_with fail
      refine (hput H52.out 0 rfl 0 1 (by omega) (by omega)).mono ?_
      rintro e w53 ⟨rfl, K53, hH⟩
      rw [Q2.out.1]
      rw [Q2.out.2] at hH
      have H53 := hide hH
      clear hH
      go_wp2_with fail
      refine (hraw H53.out 0 rfl _ [] byt_nil (sb_nil' _) (fun x hx _ => by simp [Value.ownBlock] at hx)).mono ?_
      rintro e w54 ⟨rfl, K54, hH⟩
      rw [Q3.out.1]
      rw [Q3.out.2] at hH
      have H54 := hide hH
      clear hH
      have HSB1 := hide (built_sb w54 [1] (by unfold maxLen; simp))
      obtain ⟨V, HV⟩ : ∃ V, Hid (V = w54.alloc (.cells #[.int .u8 1] 5)) := ⟨_, rfl⟩
      have H55 := hide (H54.out.below ((Below.refl w54.heap.size w54).alloc (Nat.le_refl _) (.cells #[.int .u8 1] 5)))
      rw [← HV.out] at H55
      have HK54 : Hid (K54 w54.heap.size = 0) := Thing.zero (x := tw g F) (H54.out.rep 0 _ rfl) (Nat.le_refl _)
      go_wp2_with fail
      rw [← HV.out]
      refine (hraw H55.out 0 rfl _ [1] (byt_one (by omega) (by omega)) (by rw [HV.out]; exact HSB1.out) (fun x hx _ => by simp [Value.ownBlock] at hx; rw [← hx]; exact HK54.out)).mono ?_
      rintro e w56 ⟨rfl, K56, hH⟩
      rw [Q4.out.1]
      rw [Q4.out.2] at hH
      have H56 := hide hH
      clear hH
      go_wp2_with fail
      refine (hjoin H56.out 0 3 rfl rfl (by decide)).mono ?_
      rintro e w57 ⟨rfl, K57, hH⟩
      rw [Q5.out.1]
      rw [Q5.out.2] at hH
      have H57 := hide hH
      clear hH
      go_wp2_with fail
      refine (hbytes H57.out 0 rfl).mono ?_
      rintro e w58 ⟨a58, c58, K58, rfl, hH⟩
      have HB := hide hH.bel
      rw [HFP.out]
      clear hH
      go_wp2
      go_ret
      exact ⟨rfl, HB.out⟩
    · have hj : joins = true := by cases joins <;> simp_all
      subst hj
      clear hbr
      go_wp2_with fail
      refine (hjoin H12.out 0 2 rfl rfl (by decide)).mono ?_
      rintro e w30 ⟨rfl, K30, hH⟩
      rw [J3.out.1]
      rw [J3.out.2] at hH
      have H30 := hide hH
      clear hH
      obtain ⟨F, HF⟩ : ∃ F, Hid (F = R ++ Y) := ⟨_, rfl⟩
      have HFl : Hid (F.length = 268435456) := by show _ = _; rw [HF.out]; rw [List.length_append, HYl.out]; exact HRL.out
      have HFb : Hid (Bit F) := by rw [HF.out]; exact (H30.out.bit 0 rfl).1
      rw [← HF.out] at H30
      have HFI : Hid ((F.length : Int) = 268435456) := by show _ = _; rw [HFl.out]; rfl
      have HPD : Hid (pad F = F) := by show _ = _; unfold pad; rw [HFl.out]; simp
      have HFP : Hid ((pack F).length = 33554432) := by show _ = _; rw [length_pack HFb.out, HFl.out]
      have Q1 : Hid (putE F 0 0 = 0 ∧ putRow F 0 0 = F) := by
        have hk : putOk F 0 0 := ⟨⟨⟨by omega, by omega⟩, by decide⟩, by rw [HFI.out]; omega⟩
        exact ⟨if_pos hk, by unfold putRow; rw [if_pos hk]; simp [bts]⟩
      have Q2 : Hid (putE F 0 1 = 1 ∧ putRow F 0 1 = F) := put_full (by rw [HFI.out]; omega)
      have Q3 : Hid (rawE F [] = 0 ∧ rawRow F [] = F) := by
        have q1 : ¬ (268435456 < F.length + 8 * ([] : List Int).length) := by rw [HFl.out]; simp
        have q2 : ¬ (F.length % 8 ≠ 0) := by rw [HFl.out]; simp
        unfold rawE rawRow
        rw [if_neg q1, if_neg q1, if_neg q2, if_neg q2]
        exact ⟨rfl, by simp [unpack]⟩
      have Q4 : Hid (rawE F [1] = 1 ∧ rawRow F [1] = F) := raw_full (by rw [HFl.out]; simp)
      have Q5 : Hid (joinE F [] = 0 ∧ joinRow F [] = F) := by
        have := join_ok' (row := F) (x := []) (by rw [HFl.out]; simp)
        exact ⟨this.1, by rw [this.2]; simp⟩
      go_wp2_with fail
      refine (halign H30.out 0 rfl).mono ?_
      rintro e w50 ⟨rfl, K50, hH⟩
      rw [HPD.out] at hH
      have H50 := hide hH
      clear hH
      go_wp2_with fail
      refine (hlen H50.out 0 rfl).mono ?_
      rintro e w51 ⟨rfl, hH⟩
      have H51 := hide hH
      clear hH
      rw [HFI.out]
      go_wp2_with fail
      refine (hput H51.out 0 rfl 0 0 (by omega) (by omega)).mono ?_
      rintro e w52 ⟨rfl, K52, hH⟩
      rw [Q1.out.1]
      rw [Q1.out.2] at hH
      have H52 := hide hH
      clear hH
      go_wp2_with fail
      refine (hput H52.out 0 rfl 0 1 (by omega) (by omega)).mono ?_
      rintro e w53 ⟨rfl, K53, hH⟩
      rw [Q2.out.1]
      rw [Q2.out.2] at hH
      have H53 := hide hH
      clear hH
      go_wp2_with fail
      refine (hraw H53.out 0 rfl _ [] byt_nil (sb_nil' _) (fun x hx _ => by simp [Value.ownBlock] at hx)).mono ?_
      rintro e w54 ⟨rfl, K54, hH⟩
      rw [Q3.out.1]
      rw [Q3.out.2] at hH
      have H54 := hide hH
      clear hH
      have HSB1 := hide (built_sb w54 [1] (by unfold maxLen; simp))
      obtain ⟨V, HV⟩ : ∃ V, Hid (V = w54.alloc (.cells #[.int .u8 1] 5)) := ⟨_, rfl⟩
      have H55 := hide (H54.out.below ((Below.refl w54.heap.size w54).alloc (Nat.le_refl _) (.cells #[.int .u8 1] 5)))
      rw [← HV.out] at H55
      have HK54 : Hid (K54 w54.heap.size = 0) := Thing.zero (x := tw g F) (H54.out.rep 0 _ rfl) (Nat.le_refl _)
      go_wp2_with fail
      rw [← HV.out]
      refine (hraw H55.out 0 rfl _ [1] (byt_one (by omega) (by omega)) (by rw [HV.out]; exact HSB1.out) (fun x hx _ => by simp [Value.ownBlock] at hx; rw [← hx]; exact HK54.out)).mono ?_
      rintro e w56 ⟨rfl, K56, hH⟩
      rw [Q4.out.1]
      rw [Q4.out.2] at hH
      have H56 := hide hH
      clear hH
      go_wp2_with fail
      refine (hjoin H56.out 0 3 rfl rfl (by decide)).mono ?_
      rintro e w57 ⟨rfl, K57, hH⟩
      rw [Q5.out.1]
      rw [Q5.out.2] at hH
      have H57 := hide hH
      clear hH
      go_wp2_with fail
      refine (hbytes H57.out 0 rfl).mono ?_
      rintro e w58 ⟨a58, c58, K58, rfl, hH⟩
      have HB := hide hH.bel
      rw [HFP.out]
      clear hH
      go_wp2
      go_ret
      exact ⟨rfl, HB.out⟩
end Go.Proofs.Ytklffkbcigehfaa
