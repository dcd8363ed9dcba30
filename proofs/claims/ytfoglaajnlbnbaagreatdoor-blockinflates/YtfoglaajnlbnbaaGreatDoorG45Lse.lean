import Derived.Test.YtfoglaajnlbnbaaGreatDoorG44Inp
namespace Go.Proofs.YtfoglaajnlbnbaaGreatDoor
open Go.RowKit Go.Maps
set_option maxRecDepth 20000
set_option linter.unusedVariables false
set_option linter.unusedSimpArgs false

def Lsb (R : List Tk) (a : Int) (e : Ending) : Prop := e = .returned (.tuple #[.int .i64 (if asnd R then lsay R else 0), .bool (asnd R), .bool (asnd R && nrA a R)])

set_option maxHeartbeats 1000000 in
theorem lsound2_any (v : Value) (R : List Tk) (a : Int) (w : World) (h : SK w v R) (hn : R.length ≤ 5864062014800) (ha0 : 0 ≤ a) (ha1 : a ≤ 2097152) :
    Calls Tryz.prog 5 #[v, .int .i64 a] w fun e w' => Lsb R a e ∧ Below w.heap.size w w' := by
  have HS := hide h
  obtain ⟨ao, cap, rfl, hlc, hcm⟩ := h.open
  clear h
  have hmx : R.length ≤ 9223372036854775807 := by omega
  go_enter Tryz.func5, Tryz.ntmps5
  go_wp2
  go_loopw [7, 8, 9] (fun s b t wr => ∃ (k : Nat) (nr : Bool), k ≤ R.length ∧ t = .int .i64 (k : Int) ∧ s = .int .i64 (lsay (R.take k)) ∧ b = .bool nr ∧ Hid (nr = nrA a (R.take k)) ∧ Hid (asnd (R.take k) = true) ∧ Hid (Below w.heap.size w wr)) (fun _ _ t _ => R.length - (intOf t).toNat)
  case atStart => exact ⟨0, true, Nat.zero_le _, rfl, rfl, rfl, rfl, rfl, Below.refl _ _⟩
  case round =>
    obtain ⟨k, nr, hk, rfl, rfl, rfl, HNR, HA, HB⟩ := hrel
    by_cases hlt : k < R.length
    · have hlt' : (k : Int) < (R.length : Int) := by omega
      obtain ⟨b, o, rfl, c0, c1, c2⟩ := HS.out.get HB.out hlt
      have HSN := hide (asnd_snoc hlt)
      have HBD := hide (asnd_bad hlt)
      have hsy := lsay_in _ HA.out
      rw [List.length_take, Nat.min_eq_left (Nat.le_of_lt hlt)] at hsy
      have HNX : Hid (lsay (R.take (k + 1)) = lsay (R.take k) + lsayT (R.getD k tk0)) := by show _ = _; rw [tk_snoc hlt, lsay_snoc]
      have HNN : Hid (nrA a (R.take (k + 1)) = (nrA a (R.take k) && decide ((R.getD k tk0).1 = 0 ∨ (R.getD k tk0).2.1 ≤ a + lsay (R.take k)))) := by show _ = _; rw [tk_snoc hlt, nrA_snoc]
      obtain ⟨⟨t1, t2, t3⟩, ht⟩ : ∃ t, R.getD k tk0 = t := ⟨_, rfl⟩
      rw [ht] at c0 c1 c2 HSN HBD HNX HNN
      simp only at c0 c1 c2
      obtain ⟨N, hN⟩ : ∃ N, lsay (R.take k) = N := ⟨_, rfl⟩
      rw [hN] at hsy HNX HNN ⊢
      rw [← HNR.out] at HNN
      simp only at HNN
      obtain ⟨w6, hw6⟩ : ∃ w6, wr.alloc (.cells #[.int .i64 t1, .int .i64 t2, .int .u8 t3] 54) = w6 := ⟨_, rfl⟩
      have HN6 : Hid (w6.heap[wr.heap.size]? = some (.cells #[.int .i64 t1, .int .i64 t2, .int .u8 t3] 54 (0, 0))) := by rw [← hw6]; exact heap_alloc_new wr _
      have HB6 : Hid (Below w.heap.size w w6) := by rw [← hw6]; exact HB.out.alloc HB.out.size _
      obtain ⟨q, hq⟩ : ∃ q, wr.heap.size = q := ⟨_, rfl⟩
      rw [hq] at HN6
      have y0 : w6.cell? ⟨q, 0, none⟩ = some (.int .i64 t1) := by unfold World.cell?; rw [HN6.out]; rfl
      have y1 : w6.cell? ⟨q, 1, none⟩ = some (.int .i64 t2) := by unfold World.cell?; rw [HN6.out]; rfl
      have y2 : w6.cell? ⟨q, 2, none⟩ = some (.int .u8 t3) := by unfold World.cell?; rw [HN6.out]; rfl
      have HSC := hide (snd_cpy t1 t2 t3)
      clear ht hN HB HN6
      by_cases hs : sndb (t1, t2, t3) = true
      · have HN : Hid (asnd (R.take (k + 1)) = true) := by show _ = _; rw [HSN.out, HA.out, hs]; rfl
        by_cases h0 : t1 = 0
        · have h2 : t2 = 0 := by
            have := of_decide_eq_true (show decide (Snd (t1, t2, t3)) = true from hs)
            unfold Snd at this
            rw [if_pos h0] at this
            exact this
          have hv : lsayT (t1, t2, t3) = 1 := by unfold lsayT; rw [if_pos h0]
          have HN2 : Hid (nr = nrA a (R.take (k + 1))) := by show _ = _; rw [HNN.out, decide_eq_true (Or.inl h0), Bool.and_true]
          rw [hv] at HNX
          have hw1 : wrap64 (N + 1) = N + 1 := by unfold wrap64; omega
          rw [h0] at y0
          rw [h2] at y1
          clear h0 h2 hs hv HSC HSN HBD
          go_wp2
          go_roundw
          case rel => exact ⟨k + 1, nr, by omega, by go_num, by rw [HNX.out], rfl, HN2, HN, HB6⟩
          case measure => simp [intOf]; omega
        · have hc : 3 ≤ t1 ∧ t1 ≤ 258 ∧ 1 ≤ t2 ∧ t2 ≤ 32768 ∧ t3 = 0 := by
            have := of_decide_eq_true (show decide (Snd (t1, t2, t3)) = true from hs)
            unfold Snd at this
            rw [if_neg h0] at this
            exact this
          obtain ⟨d1, d2, d3, d4, d5⟩ := hc
          have hv : lsayT (t1, t2, t3) = t1 := by unfold lsayT; rw [if_neg h0]
          rw [hv] at HNX
          have hw1 : wrap64 (N + t1) = N + t1 := by unfold wrap64; omega
          have g0 : (t1 == 0) = false := by simpa using h0
          have g1 : ¬ t1 < 3 := by omega
          have g2 : ¬ (258 : Int) < t1 := by omega
          have g3 : ¬ t2 < 1 := by omega
          have g4 : ¬ (32768 : Int) < t2 := by omega
          have hw0 : wrap64 N = N := by unfold wrap64; omega
          rw [d5] at y2
          have hwa : wrap64 (a + N) = a + N := by unfold wrap64; omega
          have HD1 : Hid (t2 ≤ a + N → nrA a (R.take (k + 1)) = nr) := fun q => by rw [HNN.out, decide_eq_true (Or.inr q), Bool.and_true]
          have HD2 : Hid (¬ t2 ≤ a + N → nrA a (R.take (k + 1)) = false) := fun q => by rw [HNN.out, decide_eq_false (by rintro (z | z); exact h0 z; exact q z), Bool.and_false]
          have HD3 : Hid (nr = false → nrA a (R.take (k + 1)) = false) := fun q => by rw [HNN.out, q, Bool.false_and]
          clear h0 hs hv HSC HSN HBD d1 d2 d3 d4 d5 HNN HNR
          cases nr with
          | true =>
            by_cases hd : t2 ≤ a + N
            · go_wp2
              go_roundw
              case rel => exact ⟨k + 1, true, by omega, by go_num, by rw [HNX.out], rfl, (HD1.out hd).symm, HN, HB6⟩
              case measure => simp [intOf]; omega
            · go_wp2
              go_roundw
              case rel => exact ⟨k + 1, false, by omega, by go_num, by rw [HNX.out], rfl, (HD2.out hd).symm, HN, HB6⟩
              case measure => simp [intOf]; omega
          | false =>
            go_wp2
            go_roundw
            case rel => exact ⟨k + 1, false, by omega, by go_num, by rw [HNX.out], rfl, (HD3.out rfl).symm, HN, HB6⟩
            case measure => simp [intOf]; omega
      · have hs' : sndb (t1, t2, t3) = false := by simpa using hs
        have HR := hide (HBD.out hs')
        have hno : ¬ Cpy (t1, t2, t3) ∧ ¬ (t1 = 0 ∧ t2 = 0) := by
          rw [HSC.out] at hs'
          simp at hs'
          exact ⟨hs'.1, fun q => hs'.2 q.1 q.2⟩
        obtain ⟨n1, n2⟩ := hno
        unfold Cpy at n1
        simp only at n1
        clear hs hs' HSC HSN HBD hsy HNX
        by_cases h0 : t1 = 0
        · have h2 : ¬ t2 = 0 := fun e => n2 ⟨h0, e⟩
          have z2 : (t2 == 0) = false := by simpa using h2
          rw [h0] at y0
          clear n1 n2 h2 h0
          go_wp2
          refine bodyPost_ret (results_tmp3 rfl _ _ _) rfl ?_
          exact ⟨by unfold Lsb; rw [HR.out]; rfl, HB6.out⟩
        · have z1 : (t1 == 0) = false := by simpa using h0
          clear n2 h0
          by_cases h1 : t1 < 3
          · go_wp2
            refine bodyPost_ret (results_tmp3 rfl _ _ _) rfl ?_
            exact ⟨by unfold Lsb; rw [HR.out]; rfl, HB6.out⟩
          · by_cases h2 : (258 : Int) < t1
            · go_wp2
              refine bodyPost_ret (results_tmp3 rfl _ _ _) rfl ?_
              exact ⟨by unfold Lsb; rw [HR.out]; rfl, HB6.out⟩
            · by_cases h3 : t2 < 1
              · go_wp2
                refine bodyPost_ret (results_tmp3 rfl _ _ _) rfl ?_
                exact ⟨by unfold Lsb; rw [HR.out]; rfl, HB6.out⟩
              · by_cases h4 : (32768 : Int) < t2
                · go_wp2
                  refine bodyPost_ret (results_tmp3 rfl _ _ _) rfl ?_
                  exact ⟨by unfold Lsb; rw [HR.out]; rfl, HB6.out⟩
                · have h5 : ¬ t3 = 0 := fun e => n1 ⟨by omega, by omega, by omega, by omega, e⟩
                  have z3 : (t3 != 0) = true := by simpa using h5
                  clear n1 h5
                  go_wp2
                  refine bodyPost_ret (results_tmp3 rfl _ _ _) rfl ?_
                  exact ⟨by unfold Lsb; rw [HR.out]; rfl, HB6.out⟩
    · obtain rfl : k = R.length := by omega
      have hlt' : ¬ (R.length : Int) < (R.length : Int) := by omega
      have HN : Hid (asnd R = true) := by have := HA.out; rw [List.take_of_length_le (Nat.le_refl _)] at this; exact this
      rw [List.take_of_length_le (Nat.le_refl _)]
      go_wp2
      refine bodyPost_ret (results_tmp3 rfl _ _ _) rfl ?_
      refine ⟨?_, HB.out⟩
      have hnr := HNR.out
      rw [List.take_of_length_le (Nat.le_refl _)] at hnr
      unfold Lsb
      rw [HN.out, ← hnr]
      rfl
end Go.Proofs.YtfoglaajnlbnbaaGreatDoor

