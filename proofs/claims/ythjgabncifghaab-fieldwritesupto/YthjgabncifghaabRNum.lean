import Derived.Test.YthjgabncifghaabRCur
namespace Go.Proofs.Ythjgabncifghaab
open Go.RowKit
set_option maxRecDepth 20000
variable {X : Nat → Prop}

theorem rnumber_any {w : World} {g B : Nat} {st : CSt} (h : Cu X 76 w g st) (n : Nat) (hn0 : 1 ≤ n) (hn : n ≤ 4) (hB : B ≤ g) :
    Calls Try.prog 69 #[.pointer (some ⟨g, 0, none⟩), .int .i64 (n : Int)] w fun e w' => e = .returned (.int .i64 (le (nextL st n))) ∧ Cu X 76 w' g (nextSt st n) ∧ Tch B g w w' := by
  have HC := hide h
  obtain ⟨v, h1, h2, h3, h4, h5, h6⟩ := h
  have hfz := h1.free
  obtain ⟨c0, c1, c2⟩ := h1.at
  have H2 := hide h2
  obtain ⟨a, c, rfl⟩ := h2.shape
  clear h1 h2 h5
  by_cases he : st.e = 0
  case neg =>
    have HL : Hid (nextL st n = []) := nextL_no (fun h => he h.1)
    have HS : Hid (nextSt st n = st) := by show _ = _; unfold nextSt; rw [if_pos he]
    have he' : (st.e != 0) = true := by simpa using he
    clear c0 c1
    go_enter Try.func69, Try.ntmps69
    go_wp2
    go_ret
    rw [HS.out, HL.out]
    exact ⟨rfl, HC.out, Tch.refl _ _ _⟩
  case pos =>
  rw [he] at c2
  by_cases hl : (st.d.length : Int) - st.p < n
  case pos =>
    have HL : Hid (nextL st n = []) := nextL_no (fun h => by have := h.2.2; omega)
    have HS : Hid (nextSt st n = { st with e := 20 }) := by show _ = _; unfold nextSt; rw [if_neg (by simp [he]), if_neg (by omega), if_pos hl]
    have HF : Hid (∀ k, Cu X 76 ((w.drewN k).setCell ⟨g, 2, none⟩ (.int .i64 20)) g { st with e := 20 }) := fun k => HC.out.upd st.p 20 h3 (fun v hv => hv.set.2.2 _) (setCell_others w g 2 _)
    clear he
    go_enter Try.func69, Try.ntmps69
    go_wp2
    go_quiet (fail)
    go_wp2
    go_ret
    rw [HS.out, HL.out]
    exact ⟨rfl, HF.out _, ((Tch.refl _ _ _).drewN _).trans (tch_set hB _)⟩
  case neg =>
    have hok : okN st n := ⟨he, by omega, by omega⟩
    have HK := hide hok
    have HS : Hid (nextSt st n = { st with p := st.p + n }) := nextSt_ok hok
    have hsum : st.p + n ≤ st.d.length := by omega
    have HF : Hid (∀ (k : Nat) (x : Int), x = (st.p : Int) + n → Cu X 76 ((w.drewN k).setCell ⟨g, 1, none⟩ (.int .i64 x)) g (nextSt st n) ∧ Tch B g w ((w.drewN k).setCell ⟨g, 1, none⟩ (.int .i64 x))) := by
      intro k x hx
      obtain rfl : x = ((st.p + n : Nat) : Int) := by omega
      rw [HS.out]
      exact ⟨HC.out.upd (w' := (w.drewN k).setCell ⟨g, 1, none⟩ (.int .i64 ((st.p + n : Nat) : Int))) (st.p + n) st.e hsum (fun v hv => hv.set.2.1 _) (setCell_others w g 1 _), ((Tch.refl _ _ _).drewN k).trans (tch_set hB _)⟩
    have HB := hide (byt_nextL HC.out.byt n)
    obtain ⟨b, rfl, HCE⟩ : ∃ b, a = some ⟨b, 0, none⟩ ∧ Hid (∀ i, i < n → w.cell? ⟨b, st.p + i, none⟩ = some (.int .u8 ((nextL st n).getD i 0))) := by
      rcases H2.out with ⟨hv, hd⟩ | ⟨b, cap, hv, hc1, hc2, hc3⟩
      · rw [hd] at hsum; simp at hsum; omega
      · simp only [Value.slice.injEq] at hv
        exact ⟨b, hv.1, fun i hi => by rw [hc3 (st.p + i) (by omega), nextL_get HK.out hi]⟩
    have HLn : Hid ((nextL st n).length = n) := (nextL_ok HK.out).2
    obtain ⟨l, HN⟩ : ∃ l, Hid (nextL st n = l) := ⟨_, rfl⟩
    rw [HN.out] at HB HLn HCE
    clear hok he hl H2
    go_enter Try.func69, Try.ntmps69
    go_wp2
    go_quiet (fail)
    go_wp2
    go_loopw [5, 6, 7] (fun x y i wr => ∃ (k q : Nat) (W V : Int), k ≤ n ∧ i = .int .i64 k ∧ x = .int .i64 V ∧ y = .int .i64 W ∧ wr = w.drewN q ∧ 1 ≤ W ∧ W ≤ 4294967296 ∧ 0 ≤ V ∧ V < W ∧ Hid (V = le (l.take k) ∧ W = 256 ^ k)) (fun _ _ i _ => n - (intOf i).toNat)
    case atStart => exact ⟨0, _, 1, 0, Nat.zero_le _, rfl, rfl, rfl, rfl, by omega, by omega, by omega, by omega, rfl, rfl⟩
    case round =>
      obtain ⟨k, q, W, V, hk, rfl, rfl, rfl, rfl, hW1, hW2, hV0, hV1, HE⟩ := hrel
      by_cases hlt : k < n
      · obtain ⟨c', hc, HD⟩ : ∃ c, w.cell? ⟨b, st.p + k, none⟩ = some (.int .u8 c) ∧ Hid (c = l.getD k 0) := ⟨_, HCE.out k hlt, rfl⟩
        have hc01 : 0 ≤ c' ∧ c' < 256 := by rw [HD.out]; exact HB.out k
        obtain ⟨hc0, hc1⟩ := hc01
        have HW3 : W ≤ 16777216 := by
          rw [HE.out.2]
          obtain rfl | rfl | rfl | rfl : k = 0 ∨ k = 1 ∨ k = 2 ∨ k = 3 := by omega
          all_goals decide
        have hp0 : 0 ≤ W * c' := Int.mul_nonneg (by omega) hc0
        have hp1 : W * c' ≤ W * 255 := Int.mul_le_mul_of_nonneg_left (by omega) (by omega)
        have hbd : st.p + k < st.d.length := by omega
        have hwr1 : IntKind.i64.wrap (W * c') = W * c' := by rw [IntKind.wrap_i64]; omega
        have hwr2 : IntKind.i64.wrap (V + W * c') = V + W * c' := by rw [IntKind.wrap_i64]; omega
        have HT : Hid (V + W * c' = le (l.take (k + 1)) ∧ W * 256 = 256 ^ (k + 1)) := by
          have hkl : k < l.length := by rw [HLn.out]; exact hlt
          refine ⟨?_, ?_⟩
          · rw [le_take hkl, ← HE.out.1, ← HE.out.2, HD.out]
          · rw [Int.pow_succ, ← HE.out.2]
        go_wp2
        go_quiet (fail)
        go_wp2
        go_roundw
        case measure => simp [intOf]; omega
        case rel => exact ⟨k + 1, _, W * 256, V + W * c', by omega, by go_num, rfl, rfl, rfl, by omega, by omega, by omega, by omega, HT.out⟩
      · go_wp2
        go_ret
        have e : l.take k = l := List.take_of_length_le (by rw [HLn.out]; omega)
        have hV : V = le (nextL st n) := by rw [HE.out.1, e, HN.out]
        rw [← hV]
        exact ⟨rfl, HF.out _ _ rfl⟩
end Go.Proofs.Ythjgabncifghaab
