import Derived.Test.YtjhgjohnfkgleabOpenO
namespace Go.Proofs.Ytjhgjohnfkgleab
open Go.RowKit Go.Maps
set_option maxRecDepth 20000

theorem rest_le (R : List (It Int)) : (rest R).length ≤ R.length - 1 := by
  by_cases h : R = []
  · subst h; exact Nat.le_refl _
  · have := rest_len h; omega

theorem stR_len (o : Op4) (R : List (It Int)) (n : Nat) : (stR o R n).length ≤ R.length + 1 := by
  unfold stR
  split
  · simp
  · split
    · have := rest_le R; omega
    · omega

theorem stN_le (o : Op4) (n : Nat) : stN o n ≤ n + 1 := by
  unfold stN
  split <;> omega

set_option maxHeartbeats 4000000 in
theorem heapPlays_walk (v : Value) (ops : List Op4) (w : World) (hs : Sc w v ops) (hn : ops.length ≤ 4398046511104) :
    Calls Try.prog 4 #[v] w fun e w' => e = .returned (.bool true) ∧ Below w.heap.size w w' := by
  obtain ⟨a, cap, rfl, h1, h2, h3⟩ := hs
  unfold maxLen at h2
  have HC := hide h3
  clear h3
  go_enter Try.func4, Try.ntmps4
  go_wp2_with fail
  refine (hnew (Herd.nil w)).mono ?_
  rintro e w1 ⟨ga, Ka, rfl, H1⟩
  go_wp2_with fail
  refine (hnew H1).mono ?_
  rintro e w2 ⟨gb, Kb, rfl, H2⟩
  go_wp2_with fail
  refine (hrnew H2).mono ?_
  rintro e w3 ⟨gr, Kr, rfl, H3⟩
  go_wp2_with fail
  refine (hrnew H3).mono ?_
  rintro e w4 ⟨gs, Ks, rfl, H4⟩
  have HF : Hid (∃ Ka Kb Kr Ks Ra Rb na nb, Herd w w4 [(Ka, tq ga Ra na), (Kb, tq gb Rb nb), (Kr, tr gr Ra), (Ks, tr gs Rb)] ∧ Ra.length ≤ 0 ∧ Rb.length ≤ 0 ∧ na ≤ 0 ∧ nb ≤ 0) := ⟨Ka, Kb, Kr, Ks, [], [], 0, 0, H4, Nat.le_refl _, Nat.le_refl _, Nat.le_refl _, Nat.le_refl _⟩
  clear H1 H2 H3 H4
  go_wp2
  go_loopw [7] (fun i wr => ∃ k : Nat, i = .int .i64 k ∧ k ≤ ops.length ∧ Hid (∃ Ka Kb Kr Ks Ra Rb na nb, Herd w wr [(Ka, tq ga Ra na), (Kb, tq gb Rb nb), (Kr, tr gr Ra), (Ks, tr gs Rb)] ∧ Ra.length ≤ k ∧ Rb.length ≤ k ∧ na ≤ k ∧ nb ≤ k)) (fun i _ => ops.length - (intOf i).toNat)
  case atStart => exact ⟨0, rfl, Nat.zero_le _, HF.out⟩
  case round =>
    obtain ⟨k, rfl, hk, HR⟩ := hrel
    obtain ⟨Ka, Kb, Kr, Ks, Ra, Rb, na, nb, H, q1, q2, q3, q4⟩ := HR.out
    by_cases hlt : k < ops.length
    · have hlt' : (k : Int) < (ops.length : Int) := by omega
      obtain ⟨o, ho⟩ : ∃ o, ops[k]? = some o := ⟨_, List.getElem?_eq_getElem hlt⟩
      obtain ⟨b, f, rfl, c0, c1, c2, c3⟩ := HC.out k o ho
      have kp : ∀ {x : Addr} {u : Value}, w.cell? x = some u → wr.cell? x = some u := fun hc => (H.bel.cell (World.block_lt_of_cell? _ _ hc)).trans hc
      have c0 := kp c0
      have c1 := kp c1
      have c2 := kp c2
      have c3 := kp c3
      have HB := hide (H.below ((Below.refl wr.heap.size wr).alloc (Nat.le_refl _) (.cells #[.int .i64 o.kind, .int .i64 o.key, .int .i64 o.val, .bool o.two] 37)))
      have HL := hide (And.intro (stR_len o Ra na) (And.intro (stR_len o Rb nb) (And.intro (stN_le o na) (stN_le o nb))))
      have HQ := hide (And.intro q1 (And.intro q2 (And.intro q3 q4)))
      clear kp H q1 q2 q3 q4 HR
      cases htw : o.two with
      | true =>
        rw [htw] at c3 HB
        go_wp2_with fail
        refine (step_any HB.out 1 3 (by decide) rfl rfl ⟨o.kind, o.key, o.val, true⟩ (by have := HQ.out; omega) (by have := HQ.out; omega)).mono ?_
        rintro e w5 ⟨rfl, K', L', H5⟩
        have e5 : (⟨o.kind, o.key, o.val, true⟩ : Op4) = o := by rw [← htw]
        rw [e5] at H5
        have HH5 := hide H5
        clear H5 e5 htw
        go_wp2
        go_roundw
        case rel =>
          obtain ⟨l1, l2, l3, l4⟩ := HL.out
          obtain ⟨q1, q2, q3, q4⟩ := HQ.out
          exact ⟨k + 1, by go_num, by omega, Ka, K', Kr, L', Ra, stR o Rb nb, na, stN o nb, HH5.out, by omega, by omega, by omega, by omega⟩
        case measure => simp [intOf]; omega
      | false =>
        rw [htw] at c3 HB
        go_wp2_with fail
        refine (step_any HB.out 0 2 (by decide) rfl rfl ⟨o.kind, o.key, o.val, false⟩ (by have := HQ.out; omega) (by have := HQ.out; omega)).mono ?_
        rintro e w5 ⟨rfl, K', L', H5⟩
        have e5 : (⟨o.kind, o.key, o.val, false⟩ : Op4) = o := by rw [← htw]
        rw [e5] at H5
        have HH5 := hide H5
        clear H5 e5 htw
        go_wp2
        go_roundw
        case rel =>
          obtain ⟨l1, l2, l3, l4⟩ := HL.out
          obtain ⟨q1, q2, q3, q4⟩ := HQ.out
          exact ⟨k + 1, by go_num, by omega, K', Kb, L', Ks, stR o Ra na, Rb, stN o na, nb, HH5.out, by omega, by omega, by omega, by omega⟩
        case measure => simp [intOf]; omega
    · obtain rfl : k = ops.length := by omega
      obtain ⟨B, HX⟩ := H.box (.cells #[.int .i64 2, .int .i64 0, .int .i64 0, .bool false] 37)
      obtain ⟨bx, hbx⟩ : ∃ bx, wr.heap.size = bx := ⟨_, rfl⟩
      rw [hbx] at HX
      have HF2 : Hid (∃ Ka Kb Kr Ks Ra Rb, Herd w (wr.alloc (.cells #[.int .i64 2, .int .i64 0, .int .i64 0, .bool false] 37)) [(Ka, tq ga Ra na), (Kb, tq gb Rb nb), (Kr, tr gr Ra), (Ks, tr gs Rb), (B, tb bx (.cells #[.int .i64 2, .int .i64 0, .int .i64 0, .bool false] 37))] ∧ Ra.length ≤ ops.length - 0 ∧ Rb.length ≤ ops.length - 0) := ⟨Ka, Kb, Kr, Ks, Ra, Rb, HX, q1, q2⟩
      have HN := hide (And.intro q3 q4)
      clear H HX q1 q2 q3 q4 HR HF
      go_wp2
      go_loopw [11] (fun i w' => ∃ k : Nat, i = .int .i64 k ∧ k ≤ ops.length + 1 ∧ Hid (∃ Ka Kb Kr Ks Ra Rb, Herd w w' [(Ka, tq ga Ra na), (Kb, tq gb Rb nb), (Kr, tr gr Ra), (Ks, tr gs Rb), (B, tb bx (.cells #[.int .i64 2, .int .i64 0, .int .i64 0, .bool false] 37))] ∧ Ra.length ≤ ops.length - k ∧ Rb.length ≤ ops.length - k)) (fun i _ => ops.length + 1 - (intOf i).toNat)
      case atStart => exact ⟨0, rfl, Nat.zero_le _, HF2.out⟩
      case round =>
        obtain ⟨k, rfl, hk, HR⟩ := hrel
        obtain ⟨Ka, Kb, Kr, Ks, Ra, Rb, H, q1, q2⟩ := HR.out
        by_cases hlt : k ≤ ops.length
        · have hlt' : (k : Int) ≤ (ops.length : Int) := by omega
          have h5 := H.at_tb 4 rfl
          have c0 : wr.cell? ⟨bx, 0, none⟩ = some (.int .i64 2) := cellOf h5 rfl
          have c1 : wr.cell? ⟨bx, 1, none⟩ = some (.int .i64 0) := cellOf h5 rfl
          have c2 : wr.cell? ⟨bx, 2, none⟩ = some (.int .i64 0) := cellOf h5 rfl
          have c3 : wr.cell? ⟨bx, 3, none⟩ = some (.bool false) := cellOf h5 rfl
          have HQ := hide (And.intro q1 q2)
          have HH := hide H
          clear H q1 q2 h5 HR
          go_wp2_with fail
          refine (step_any HH.out 0 2 (by decide) rfl rfl ⟨2, 0, 0, false⟩ (by have := HQ.out; omega) (by have := HN.out; omega)).mono ?_
          rintro e w5 ⟨rfl, K', L', H5⟩
          have h6 := H5.at_tb 4 rfl
          have d0 : w5.cell? ⟨bx, 0, none⟩ = some (.int .i64 2) := cellOf h6 rfl
          have d1 : w5.cell? ⟨bx, 1, none⟩ = some (.int .i64 0) := cellOf h6 rfl
          have d2 : w5.cell? ⟨bx, 2, none⟩ = some (.int .i64 0) := cellOf h6 rfl
          have d3 : w5.cell? ⟨bx, 3, none⟩ = some (.bool false) := cellOf h6 rfl
          have HH5 := hide H5
          clear H5 h6 c0 c1 c2 c3
          go_wp2_with fail
          refine (step_any HH5.out 1 3 (by decide) rfl rfl ⟨2, 0, 0, false⟩ (by have := HQ.out; omega) (by have := HN.out; omega)).mono ?_
          rintro e w6 ⟨rfl, K2, L2, H6⟩
          have HH6 := hide H6
          clear H6 d0 d1 d2 d3
          go_wp2
          go_roundw
          case rel =>
            obtain ⟨q1, q2⟩ := HQ.out
            have r1 := rest_le Ra
            have r2 := rest_le Rb
            exact ⟨k + 1, by go_num, by omega, K', K2, L', L2, rest Ra, rest Rb, HH6.out, by omega, by omega⟩
          case measure => simp [intOf]; omega
        · have hlt' : ¬ (k : Int) ≤ (ops.length : Int) := by omega
          obtain rfl : Ra = [] := List.eq_nil_of_length_eq_zero (by omega)
          obtain rfl : Rb = [] := List.eq_nil_of_length_eq_zero (by omega)
          go_wp2_with fail
          refine (hlen H 0 rfl).mono ?_
          rintro e w5 ⟨rfl, hw⟩
          subst hw
          go_wp2_with fail
          refine (hlen H 1 rfl).mono ?_
          rintro e w6 ⟨rfl, hw⟩
          subst hw
          go_wp2
          go_ret
          exact ⟨rfl, H.bel⟩

end Go.Proofs.Ytjhgjohnfkgleab
