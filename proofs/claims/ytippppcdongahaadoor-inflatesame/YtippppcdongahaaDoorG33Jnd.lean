import Derived.Test.YtippppcdongahaaDoorG18Ibn
import Derived.Test.YtippppcdongahaaDoorG32Wkp
namespace Go.Proofs.YtippppcdongahaaDoor
open Go.RowKit Go.Maps
set_option maxRecDepth 20000
set_option linter.unusedVariables false
set_option linter.unusedSimpArgs false

theorem Chn.le {d : Bool} {a n b z : Nat} {ps : List Pc} (h : Chn d a n ps b z) : a ≤ b ∧ n ≤ z := by
  induction h with
  | nil => omega
  | last _ _ _ h1 h2 => omega
  | go _ _ h1 h2 _ ih => omega

theorem Chn.some {d : Bool} {a n b z : Nat} {ps : List Pc} (h : Chn d a n ps b z) (hd : d = true) : ps ≠ [] := by
  cases h with
  | nil h1 => rw [hd] at h1; cases h1
  | last => simp
  | go => simp

theorem Chn.head {d : Bool} {a n b z : Nat} {x : Pc} {rest : List Pc} (h : Chn d a n (x :: rest) b z) : x.at0 = a ∧ x.to0 = n ∧ a + 3 ≤ x.at1 ∧ n ≤ x.to1 ∧ x.at1 ≤ b ∧ x.to1 ≤ z ∧ 0 ≤ x.kind ∧ x.kind ≤ 2 ∧
    ((x.fin = true ∧ d = true ∧ rest = [] ∧ x.at1 = b ∧ x.to1 = z) ∨ (x.fin = false ∧ (d = true → rest ≠ []) ∧ Chn d x.at1 x.to1 rest b z)) := by
  cases h with
  | last h0 h1 h2 h3 h4 => exact ⟨rfl, rfl, h3, h4, Nat.le_refl _, Nat.le_refl _, h1, h2, .inl ⟨rfl, h0, rfl, rfl, rfl⟩⟩
  | go h1 h2 h3 h4 h5 =>
    have := h5.le
    exact ⟨rfl, rfl, h3, h4, this.1, this.2, h1, h2, .inr ⟨rfl, h5.some, h5⟩⟩

def Jat (d : Bool) (R : List Pc) (k a m b z : Nat) : Prop := (k ≤ R.length ∧ Chn d a m (R.drop k) b z) ∨ (k = R.length ∧ a = b ∧ m = z)

set_option maxHeartbeats 4000000 in
theorem joined_any (a0 : Option Addr) (c0 : Nat) (R : List Pc) (b z : Nat) (d : Bool) (w : World) (B : Nat) (h : ORp 36 6 w B (.slice a0 R.length c0) (R.map pcq)) (hl : R.length ≤ 268435456) (hc : Chn d 0 0 R b z) (hb : b ≤ 268435456) (hz : z ≤ 16777216) (bits bytes : Int) (he : d = true → bits = (b : Int) ∧ bytes = (z : Int)) :
    Calls Tryd.prog 10 #[.slice a0 R.length c0, .int .i64 bits, .int .i64 bytes, .bool d] w fun e w' => e = .returned (.bool true) ∧ Below w.heap.size w w' := by
  have HH := hide h
  have HC := hide hc
  have HE := hide he
  have HDR : Hid (d = true → 0 < R.length) := fun e => by
    have := hc.some e
    rcases R with _ | ⟨x, R⟩
    · exact absurd rfl this
    · simp
  obtain ⟨M, HM⟩ : ∃ M : Nat, Hid (M = R.length) := ⟨_, rfl⟩
  rw [← HM.out]
  rw [← HM.out] at hl HDR
  clear h hc he
  go_enter Tryd.func10, Tryd.ntmps10
  go_wp2
  go_loopw [9, 10, 11, 12] (fun s9 s10 s11 s12 wr => ∃ (a m k : Nat), s9 = .int .i64 (a : Int) ∧ s10 = .int .i64 (m : Int) ∧ s11 = .int .i64 (k : Int) ∧ k ≤ M ∧ a ≤ 268435456 ∧ m ≤ 16777216 ∧ Hid (Jat d R k a m b z) ∧ Hid (Below w.heap.size w wr)) (fun _ _ s11 _ _ => M - (intOf s11).toNat)
  case atStart => exact ⟨0, 0, 0, rfl, rfl, rfl, Nat.zero_le _, by omega, by omega, .inl ⟨Nat.zero_le _, HC.out⟩, Below.refl _ _⟩
  case round =>
    obtain ⟨a, m, k, rfl, rfl, rfl, hkM, ha, hm, HJ, HB⟩ := hrel
    by_cases hk : k < M
    · have hkc : (k : Int) < (M : Int) := by omega
      have hkR : k < R.length := by rw [← HM.out]; exact hk
      obtain ⟨x, HX⟩ : ∃ x, Hid (x = R.getD k pc0) := ⟨_, rfl⟩
      have hdrop : R.drop k = x :: R.drop (k + 1) := by
        rw [List.drop_eq_getElem_cons hkR, HX.out]
        simp [List.getD_eq_getElem?_getD, hkR]
      have hch : Chn d a m (x :: R.drop (k + 1)) b z := by
        rcases HJ.out with ⟨_, h2⟩ | ⟨h2, _⟩
        · rw [← hdrop]; exact h2
        · rw [← HM.out] at h2; omega
      obtain ⟨q0, q1, q2, q3, q4, q5, q6, q7, q8⟩ := hch.head
      obtain ⟨gg, cc, hv, hc1, hc2, e0, e1, e2, e3, e4, e5⟩ := (HH.out.below HB.out (Nat.le_refl _)).cells8 hkR
      simp only [Value.slice.injEq] at hv
      obtain ⟨rfl, -, rfl⟩ := hv
      rw [← HX.out] at e0 e1 e2 e3 e4 e5
      obtain ⟨kk, ff, A0, A1, N0, N1⟩ := x
      simp only at q0 q1 q2 q3 q4 q5 q6 q7 q8 e0 e1 e2 e3 e4 e5
      subst q0; subst q1
      have d1 : ¬ ((A1 : Int) < (A0 : Int) + 3) := by omega
      have d2 : ¬ ((N1 : Int) < (N0 : Int)) := by omega
      have d3 : ¬ (kk < 0) := by omega
      have d4 : ¬ (2 < kk) := by omega
      have hA1 : A1 ≤ 268435456 := by omega
      have hN1 : N1 ≤ 16777216 := by omega
      have HBN : Hid (∀ o : Obj, Below w.heap.size w (wr.alloc o)) := fun o => HB.out.alloc HB.out.size o
      have HNX : Hid (Jat d R (k + 1) A1 N1 b z) := by
        rcases q8 with ⟨h1, h2, h3, h4, h5⟩ | ⟨h1, h2, h3⟩
        · exact .inr ⟨by have := congrArg List.length h3; rw [List.length_drop] at this; simp at this; omega, h4, h5⟩
        · exact .inl ⟨by omega, h3⟩
      have hfin : ff = (d && decide ((k : Int) = (M : Int) - 1)) := by
        rcases q8 with ⟨h1, h2, h3, h4, h5⟩ | ⟨h1, h2, h3⟩
        · have h6 := congrArg List.length h3
          rw [List.length_drop, ← HM.out] at h6
          simp at h6
          rw [h1, h2, decide_eq_true (by omega)]; rfl
        · cases d with
          | false => rw [h1]; rfl
          | true =>
            have h6 := h2 rfl
            have h7 : ¬ ((k : Int) = (M : Int) - 1) := fun e => h6 (List.drop_eq_nil_of_le (by rw [← HM.out]; omega))
            rw [h1, decide_eq_false h7]; rfl
      clear q2 q3 q4 q5 q6 q7 q8 hdrop hch hkR HJ HC
      by_cases hlast : (k : Int) = (M : Int) - 1
      · cases d with
        | true =>
          obtain rfl : ff = true := by rw [hfin, decide_eq_true hlast]; rfl
          have hl1 : ((k : Int) == (M : Int) - 1) = true := by simpa using hlast
          have hl2 : decide ((k : Int) = (M : Int) - 1) = true := decide_eq_true hlast
          clear hfin hlast
          go_wp2
          go_roundw
          case rel => exact ⟨A1, N1, k + 1, rfl, rfl, by go_num, by omega, hA1, hN1, HNX, HBN.out _⟩
          case measure => simp [intOf]; omega
        | false =>
          obtain rfl : ff = false := by rw [hfin]; rfl
          clear hfin hlast
          go_wp2
          go_roundw
          case rel => exact ⟨A1, N1, k + 1, rfl, rfl, by go_num, by omega, hA1, hN1, HNX, HBN.out _⟩
          case measure => simp [intOf]; omega
      · cases d with
        | true =>
          obtain rfl : ff = false := by rw [hfin, decide_eq_false hlast]; rfl
          have hl1 : ((k : Int) == (M : Int) - 1) = false := by simpa using hlast
          have hl2 : decide ((k : Int) = (M : Int) - 1) = false := decide_eq_false hlast
          clear hfin
          go_wp2
          go_roundw
          case rel => exact ⟨A1, N1, k + 1, rfl, rfl, by go_num, by omega, hA1, hN1, HNX, HBN.out _⟩
          case measure => simp [intOf]; omega
        | false =>
          obtain rfl : ff = false := by rw [hfin]; rfl
          clear hfin hlast
          go_wp2
          go_roundw
          case rel => exact ⟨A1, N1, k + 1, rfl, rfl, by go_num, by omega, hA1, hN1, HNX, HBN.out _⟩
          case measure => simp [intOf]; omega
    · have hkn : ¬ ((k : Int) < (M : Int)) := by omega
      obtain ⟨rfl, rfl⟩ : a = b ∧ m = z := by
        rcases HJ.out with ⟨_, h2⟩ | ⟨_, h2⟩
        · rw [List.drop_eq_nil_of_le (by rw [← HM.out]; omega)] at h2
          cases h2; exact ⟨rfl, rfl⟩
        · exact h2
      cases d with
      | true =>
        obtain ⟨rfl, rfl⟩ := HE.out rfl
        have hp := HDR.out rfl
        have hp' : (0 : Int) < (M : Int) := by omega
        clear HJ HC
        go_wp2
        (try simp only [Exit.inBlock, Exit.then])
        go_ret
        exact ⟨rfl, HB.out⟩
      | false =>
        clear HJ HC
        go_wp2
        (try simp only [Exit.inBlock, Exit.then])
        go_ret
        exact ⟨rfl, HB.out⟩
end Go.Proofs.YtippppcdongahaaDoor

