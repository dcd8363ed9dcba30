import Derived.Test.YtiabhmdefaabgaaDoorGQr
namespace Go.Proofs.YtiabhmdefaabgaaDoor
open Go.RowKit Go.Maps
set_option maxRecDepth 20000

theorem ahead_snoc {row : List Int} {p i : Nat} (h : p + i < row.length) : ahead row p (i + 1) = ahead row p i + row.getD (p + i) 0 * 2 ^ i := by
  unfold ahead
  have hl : i < (row.drop p).length := by rw [List.length_drop]; omega
  rw [List.take_succ_eq_append_getElem hl, val_append, List.length_take, Nat.min_eq_left (by omega)]
  have e : (row.drop p)[i] = row.getD (p + i) 0 := by
    rw [List.getElem_drop]
    simp [List.getD, h]
  rw [e]
  simp only [val]
  rw [Int.mul_comm]
  simp

set_option maxHeartbeats 1000000 in
theorem qpeek_any {w : World} {K : Nat → Nat} {g : Nat} {row : List Int} {p : Nat} (h : Rq w K g row p) (n : Int) :
    Calls Tryd.prog 75 #[.pointer (some ⟨g, 0, none⟩), .int .i64 n] w fun e w' => e = .returned (.tuple #[.int .u32 (peekV row p n), .int .i64 (peekK row p n)]) ∧ ∃ q, w' = w.drewN q := by
  obtain ⟨v, h1, h2, h3, h4, h5⟩ := h
  have c0 : ∀ q, (w.drewN q).cell? ⟨g, 0, none⟩ = some v := fun q => h1.cell 0
  have c1 : ∀ q, (w.drewN q).cell? ⟨g, 1, none⟩ = some (.int .i64 p) := fun q => h1.cell 1
  have HOB := hide h1.o
  have HBT := hide h2
  obtain ⟨a, c, rfl⟩ := h1.o.shape
  obtain ⟨hcc, hcm⟩ := h1.o.sb.cap
  clear h1 h2 h5
  by_cases hc : Cnt n
  case neg =>
    have HE : Hid (peekV row p n = 0 ∧ peekK row p n = 0) := ⟨if_neg hc, if_neg hc⟩
    by_cases h0 : n < 0
    · clear hc
      go_enter Tryd.func75, Tryd.ntmps75
      go_wp2
      go_ret2
      rw [HE.out.1, HE.out.2]
      exact ⟨rfl, 0, rfl⟩
    · have h32 : 32 < n := by unfold Cnt at hc; omega
      clear hc
      go_enter Tryd.func75, Tryd.ntmps75
      go_wp2
      go_ret2
      rw [HE.out.1, HE.out.2]
      exact ⟨rfl, 0, rfl⟩
  case pos =>
    have HE : Hid (peekV row p n = ahead row p n.toNat ∧ peekK row p n = min n ((row.length : Int) - p)) := ⟨if_pos hc, if_pos hc⟩
    obtain ⟨n0, n1⟩ := hc
    obtain ⟨m, rfl⟩ : ∃ m : Nat, n = m := ⟨n.toNat, by omega⟩
    go_enter Tryd.func75, Tryd.ntmps75
    go_wp2
    go_loopw [6, 7, 8] (fun x kk i wr => ∃ j q : Nat, j ≤ m ∧ p + j ≤ row.length ∧ i = .int .i64 j ∧ kk = .int .i64 j ∧ x = .int .u32 (ahead row p j) ∧ wr = w.drewN q) (fun _ _ i _ => m - (intOf i).toNat)
    case atStart => exact ⟨0, 0, Nat.zero_le _, by omega, rfl, rfl, by simp [ahead, val], rfl⟩
    case round =>
      obtain ⟨j, q, hj, hpj, rfl, rfl, rfl, rfl⟩ := hrel
      have k0 := c0 q
      have k1 := c1 q
      have hab := ahead_bound HBT.out p j
      obtain ⟨A, HA⟩ : ∃ A, Hid (A = ahead row p j) := ⟨_, rfl⟩
      rw [← HA.out] at hab ⊢
      have h232 : (2 : Int) ^ j ≤ 2 ^ 32 := pow_le (by omega)
      by_cases hjm : j < m
      · have hjm' : (j : Int) < (m : Int) := by omega
        have hdg : decide ((j : Int) < (m : Int)) = true := decide_eq_true hjm'
        by_cases hpl : p + j < row.length
        · have hpl' : (p : Int) + j < (row.length : Int) := by omega
          obtain ⟨b, hb⟩ : ∃ b, a = some ⟨b, 0, none⟩ := by
            rcases HOB.out.2 with ⟨e, h0⟩ | ⟨gb, c', cur, e, _⟩
            · omega
            · simp only [Value.slice.injEq] at e
              exact ⟨gb, e.1⟩
          subst hb
          obtain ⟨y, HY⟩ : ∃ y, Hid (y = row.getD (p + j) 0) := ⟨_, rfl⟩
          have hy : (w.drewN q).cell? ⟨b, p + j, none⟩ = some (.int .u8 y) := by rw [HY.out]; exact HOB.out.get rfl hpl
          have hyb : y = 0 ∨ y = 1 := by
            rw [HY.out]
            have : row.getD (p + j) 0 = row[p + j] := by simp [List.getD, hpl]
            rw [this]
            exact HBT.out _ (List.getElem_mem _)
          have HS := hide (ahead_snoc hpl)
          rw [← HA.out, ← HY.out] at HS
          have h231 : (2 : Int) ^ j ≤ 2 ^ 31 := pow_le (by omega)
          have hpp := pow_pos j
          have hz : 0 ≤ y * 2 ^ j ∧ y * 2 ^ j ≤ 2 ^ j := by rcases hyb with e | e <;> rw [e] <;> omega
          have hw1 : IntKind.u32.wrap (y * 2 ^ j) = y * 2 ^ j := by rw [IntKind.wrap_u32]; omega
          have hw2 : IntKind.u32.wrap (A + y * 2 ^ j) = A + y * 2 ^ j := by rw [IntKind.wrap_u32]; omega
          have hy0 : 0 ≤ y := by omega
          have hy1 : y ≤ 1 := by omega
          have hp0 : (0 : Int) ≤ (p : Int) + j := by omega
          have htn : ((p : Int) + j).toNat = p + j := by omega
          have hwp : IntKind.i64.wrap ((p : Int) + j) = (p : Int) + j := by rw [IntKind.wrap_i64]; omega
          clear hab h232 h231 hpp hz hyb
          go_wp2
          go_quiet (fail)
          go_wp2
          rw [World.drewN_drewN]
          generalize q + _ = q' at *
          have k0 := c0 q'
          have k1 := c1 q'
          have hy1 : (w.drewN q').cell? ⟨b, p + j, none⟩ = some (.int .u8 y) := hy
          have hy2 : w.cell? ⟨b, p + j, none⟩ = some (.int .u8 y) := hy
          have hy3 : ∀ n, ((w.drewN q').drewN n).cell? ⟨b, p + j, none⟩ = some (.int .u8 y) := fun n => hy
          go_quiet (fail)
          go_wp2
          go_roundw
          case rel => exact ⟨j + 1, _, by omega, by omega, by go_num, by go_num, by rw [HS.out], by (try simp only [World.drewN_drewN]); rfl⟩
          case measure => simp [intOf]; omega
        · have hpl' : ¬ (p : Int) + j < (row.length : Int) := by omega
          have hpd : decide ((p : Int) + j < (row.length : Int)) = false := decide_eq_false hpl'
          have hjL : (j : Int) = (row.length : Int) - p := by omega
          have HJ : Hid (ahead row p m = A) := by
            show _ = _
            rw [HA.out]
            unfold ahead
            rw [List.take_of_length_le (by rw [List.length_drop]; omega), List.take_of_length_le (by rw [List.length_drop]; omega)]
          have HMn : Hid (min (m : Int) ((row.length : Int) - p) = (j : Int)) := by show _ = _; omega
          clear hjL hab h232
          go_wp2
          go_quiet (fail)
          go_wp2
          go_ret2
          refine ⟨?_, _, by (try simp only [World.drewN_drewN]); rfl⟩
          rw [HE.out.1, HE.out.2, HMn.out, Int.toNat_natCast, HJ.out]
          rfl
      · obtain rfl : j = m := by omega
        have hjm' : ¬ (j : Int) < (j : Int) := by omega
        have hdg : decide ((j : Int) < (j : Int)) = false := decide_eq_false hjm'
        have HMn : Hid (min (j : Int) ((row.length : Int) - p) = (j : Int)) := by show _ = _; omega
        clear hab h232
        go_wp2
        go_quiet (fail)
        go_wp2
        go_ret2
        refine ⟨?_, _, by (try simp only [World.drewN_drewN]); rfl⟩
        rw [HE.out.1, HE.out.2, HMn.out, Int.toNat_natCast, ← HA.out]
        rfl

theorem qtake_any {w : World} {K : Nat → Nat} {g : Nat} {row : List Int} {p : Nat} (h : Rq w K g row p) (n : Int) :
    Calls Tryd.prog 55 #[.pointer (some ⟨g, 0, none⟩), .int .i64 n] w fun e w' => e = .returned (.tuple #[.int .u32 (takeV row p n), .int .i64 (takeE row p n)]) ∧ Rq w' K g row (takeP row p n) ∧ Fr K K w w' := by
  have H := hide h
  obtain ⟨v, h1, h2, h3, h4, h5⟩ := h
  have c0 : ∀ q, (w.drewN q).cell? ⟨g, 0, none⟩ = some v := fun q => h1.cell 0
  have c1 : ∀ q, (w.drewN q).cell? ⟨g, 1, none⟩ = some (.int .i64 p) := fun q => h1.cell 1
  have c0' : w.cell? ⟨g, 0, none⟩ = some v := h1.cell 0
  have c1' : w.cell? ⟨g, 1, none⟩ = some (.int .i64 p) := h1.cell 1
  have cf : ∀ q, (w.drewN q).frozen? ⟨g, 1, none⟩ = false := fun q => h1.free 1
  obtain ⟨a, c, rfl⟩ := h1.o.shape
  clear h1 h2 h5
  by_cases hc : Cnt n
  case neg =>
    have HE : Hid (takeE row p n = 1 ∧ takeV row p n = 0 ∧ takeP row p n = p) := ⟨if_neg hc, if_neg fun h => hc h.1, if_neg fun h => hc h.1⟩
    by_cases h0 : n < 0
    · clear hc c0 c1 cf
      go_enter Tryd.func55, Tryd.ntmps55
      go_wp2
      go_ret2
      rw [HE.out.1, HE.out.2.1, HE.out.2.2]
      exact ⟨rfl, H.out, Fr.refl _ _⟩
    · have h32 : 32 < n := by unfold Cnt at hc; omega
      clear hc c0 c1 cf
      go_enter Tryd.func55, Tryd.ntmps55
      go_wp2
      go_ret2
      rw [HE.out.1, HE.out.2.1, HE.out.2.2]
      exact ⟨rfl, H.out, Fr.refl _ _⟩
  case pos =>
  have HC := hide hc
  obtain ⟨n0, n1⟩ := id hc
  by_cases hl : n ≤ (row.length : Int) - p
  case neg =>
    have HE : Hid (takeE row p n = 30 ∧ takeV row p n = 0 ∧ takeP row p n = p) := ⟨by show (if _ then _ else _) = _; rw [if_pos hc, if_neg hl], if_neg fun h => hl h.2, if_neg fun h => hl h.2⟩
    clear hc c0 c1 cf
    go_enter Tryd.func55, Tryd.ntmps55
    go_wp2
    go_quiet (fail)
    go_wp2
    go_ret2
    rw [HE.out.1, HE.out.2.1, HE.out.2.2]
    exact ⟨rfl, H.out.drewN _, (Fr.refl _ _).drewN _⟩
  case pos =>
    have HE : Hid (takeE row p n = 0 ∧ takeV row p n = peekV row p n ∧ takeP row p n = p + n.toNat) := ⟨by show (if _ then _ else _) = _; rw [if_pos hc, if_pos hl], (if_pos (show takeOk row p n from ⟨hc, hl⟩)).trans (if_pos hc).symm, if_pos ⟨hc, hl⟩⟩
    obtain ⟨m, rfl⟩ : ∃ m : Nat, n = m := ⟨n.toNat, by omega⟩
    have HM : Hid (∀ q, Rq ((w.drewN q).setCell ⟨g, 1, none⟩ (.int .i64 ((p : Int) + m))) K g row (p + m) ∧ Fr K K w ((w.drewN q).setCell ⟨g, 1, none⟩ (.int .i64 ((p : Int) + m)))) := fun q => by
      obtain ⟨a1, a2⟩ := (H.out.drewN q).move (p + m) ((p : Int) + m) (by omega) (by omega)
      exact ⟨a1, ((Fr.refl _ _).drewN q).trans a2⟩
    clear hc
    go_enter Tryd.func55, Tryd.ntmps55
    go_wp2
    go_quiet (fail)
    rename_i nq _
    go_wp2_with fail
    refine (qpeek_any (H.out.drewN nq) m).mono ?_
    rintro e w1 ⟨rfl, q2, rfl⟩
    (try rw [World.drewN_drewN])
    have k1 := c1 (nq + q2)
    have kf := cf (nq + q2)
    clear c0 c1 cf
    go_wp2
    go_ret2
    rw [HE.out.1, HE.out.2.1, HE.out.2.2]
    exact ⟨rfl, HM.out _⟩
end Go.Proofs.YtiabhmdefaabgaaDoor

