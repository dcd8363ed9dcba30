import Derived.Test.YtjhgjohnfkgleaaPherd
namespace Go.Proofs.Ytjhgjohnfkgleaa
open Go.RowKit Go.Maps
set_option maxRecDepth 20000

set_option maxHeartbeats 4000000 in
theorem heapPops_walk (v : Value) (keys : List Int) (w : World) (hs : SI w v keys) (hn : keys.length ≤ 1048576) :
    Calls Try.prog 3 #[v] w fun e w' => e = .returned (.bool true) ∧ Below w.heap.size w w' := by
  have HS := hide hs
  obtain ⟨ao, ac, rfl⟩ := hs.len
  go_enter Try.func3, Try.ntmps3
  go_wp2_with fail
  refine (Pp.hnew (Herd.nil w)).mono ?_
  rintro e w1 ⟨g, K, rfl, H1⟩
  have HF : Hid (∃ K, Herd w w1 [(K, Pp.tq g ((its keys).take 0) 0)]) := ⟨K, H1⟩
  clear H1 hs
  go_wp2
  go_loopw [4] (fun i wr => ∃ k : Nat, i = .int .i64 k ∧ k ≤ keys.length ∧ Hid (∃ K, Herd w wr [(K, Pp.tq g ((its keys).take k) k)])) (fun i _ => keys.length - (intOf i).toNat)
  case atStart => exact ⟨0, rfl, Nat.zero_le _, HF.out⟩
  case round =>
    obtain ⟨k, rfl, hk, HR⟩ := hrel
    obtain ⟨K, H⟩ := HR.out
    by_cases hlt : k < keys.length
    · have hlt' : (k : Int) < (keys.length : Int) := by omega
      obtain ⟨b, o, hab, hc⟩ := HS.out.cellAt H.bel hlt
      have HT := hide (its_take hlt)
      obtain ⟨ky, hky⟩ : ∃ ky, keys.getD k 0 = ky := ⟨_, rfl⟩
      rw [hky] at hc HT
      have hP := Pp.hpush H 0 rfl ky k (by rw [take_len keys hk]; omega) (by omega)
      subst hab
      clear hky H HR
      go_wp2_with fail
      refine hP.mono ?_
      rintro e w2 ⟨rfl, K', H2⟩
      have HN : Hid (Herd w w2 [(K', Pp.tq g ((its keys).take (k + 1)) (k + 1))]) := by show Herd _ _ _; rw [HT.out]; exact H2
      have hL := Pp.hlen HN.out 0 rfl
      rw [take_len keys (by omega)] at hL
      clear H2 hP hc
      go_wp2_with fail
      refine hL.mono ?_
      rintro e w3 ⟨rfl, rfl⟩
      go_wp2
      go_roundw
      case rel => exact ⟨k + 1, by go_num, by omega, K', HN.out⟩
      case measure => simp [intOf]; omega
    · obtain rfl : k = keys.length := by omega
      have HH : Hid (Herd w wr [(K, Pp.tq g (its keys) keys.length)]) := by have := H; rw [its_all] at this; exact this
      obtain ⟨S, hS⟩ : ∃ S, wr.heap.size = S := ⟨_, rfl⟩
      have HSZ := hide hS
      clear H HR HF hk hlt
      go_wp2_with (at_make; refine wpList_mkb rfl _ _ rfl _ _ keys.length rfl rfl (by omega) ?_)
      intro w3 hg3 hb3
      have HST : Hid (∃ K B R, drainAll R = (drainAll (its keys)).drop 0 ∧ Herd w w3 [(K, Pp.tq g R keys.length), (B, tb S (.cells (seenA (orderOf keys) keys.length 0) 4))]) := by
        obtain ⟨B, q⟩ := HH.out.fresh (o := .cells (seenA (orderOf keys) keys.length 0) 4) (by first | exact hb3 | (rw [HSZ.out]; exact hb3)) (by rw [seenA_zero]; first | exact hg3 | (rw [HSZ.out]; exact hg3))
        rw [HSZ.out] at q
        exact ⟨K, B, _, rfl, q⟩
      (try rw [hS])
      clear hg3 hb3 hS HH HSZ
      go_wp2
      go_loopw [6, 7, 8] (fun lk lp i wr => ∃ (k : Nat) (p y : Int), lk = .int .i64 p ∧ lp = .int .i64 y ∧ i = .int .i64 k ∧ k ≤ keys.length ∧ Hid (0 < k → (orderOf keys).getD (k - 1) 0 = y ∧ keys.getD y.toNat 0 = p) ∧ Hid (∃ K B R, drainAll R = (drainAll (its keys)).drop k ∧ Herd w wr [(K, Pp.tq g R keys.length), (B, tb S (.cells (seenA (orderOf keys) keys.length k) 4))])) (fun _ _ i _ => keys.length - (intOf i).toNat)
      case atStart => exact ⟨0, 0, 0, rfl, rfl, rfl, Nat.zero_le _, fun h => absurd h (Nat.lt_irrefl _), HST.out⟩
      case round =>
        obtain ⟨k, p, y, rfl, rfl, rfl, hk, HLA, HR⟩ := hrel
        obtain ⟨K, B, R, hD, H⟩ := HR.out
        by_cases hlt : k < keys.length
        · have hlt' : (k : Int) < (keys.length : Int) := by omega
          have hlo : k < (orderOf keys).length := by rw [orderOf_len]; exact hlt
          obtain ⟨x, hx, ex, e1, e2, e3, e4, hD'⟩ := Pp.next_out hD hlt
          have hlr := Pp.len_out hD
          have hlr' := Pp.len_out hD'
          have hns := not_seen hlo
          have HSET := hide (seenA_set (n := keys.length) hlo ex)
          rw [ex] at hns
          have HPY : Hid (0 < k → p < keys.getD x 0 ∨ p = keys.getD x 0 ∧ y < x) := fun h0 => by
            have hA := order_adj h0 hlo
            obtain ⟨q1, q2⟩ := HLA.out h0
            rw [ex, q1] at hA
            unfold Ah at hA
            rw [q2] at hA
            simpa using hA
          have HLA' : Hid (0 < k + 1 → (orderOf keys).getD (k + 1 - 1) 0 = (x : Int) ∧ keys.getD (x : Int).toNat 0 = keys.getD x 0) := fun _ => ⟨by simpa using ex, by simp⟩
          have hx1 : (x : Int) < (keys.length : Int) := by omega
          have hP := Pp.hpeek H 0 rfl
          rw [e1, e2, e3, e4] at hP
          obtain ⟨c, hc⟩ : ∃ c, keys.getD x 0 = c := ⟨_, rfl⟩
          rw [hc] at hP HPY HLA'
          have HE := hide (And.intro e1 (And.intro (e2.trans hc) (And.intro e3 e4)))
          have HD' := hide hD'
          have HC := hide hc
          have HLR := hide hlr
          have HLR' := hide hlr'
          clear e1 e2 e3 e4 hD' hD HR HLA H ex hc hlr hlr'
          go_wp2_with fail
          refine hP.mono ?_
          rintro e w5 ⟨rfl, H5⟩
          obtain ⟨P1, hP1⟩ : ∃ P1, w5.heap.size = P1 := ⟨_, rfl⟩
          obtain ⟨B1, H6⟩ := H5.box (.cells #[.string ⟨#[118]⟩, .int .i64 (x : Int)] 26)
          rw [hP1] at H6
          have hQ := Pp.hpop H6 0 rfl (by rw [HLR.out]; omega)
          obtain ⟨e1, e2, e3, e4⟩ := HE.out
          rw [e1, e2, e3, e4] at hQ
          clear hP H5 H6 e1 e2 e3 e4 HE
          go_wp2_with fail
          refine hQ.mono ?_
          rintro e w7 ⟨rfl, H7⟩
          obtain ⟨P2, hP2⟩ : ∃ P2, w7.heap.size = P2 := ⟨_, rfl⟩
          obtain ⟨B2, H8⟩ := H7.box (.cells #[.string ⟨#[118]⟩, .int .i64 (x : Int)] 26)
          rw [hP2] at H8
          have t1 := H8.at_tb 1 rfl
          have t2 := H8.at_tb 2 rfl
          obtain ⟨b, o, hab, c1⟩ := HS.out.cellAt H8.bel hx
          rw [HC.out] at c1
          have H9 := H8.setB 1 rfl x (.bool true)
          rw [HSET.out] at H9
          have HH9 := hide H9
          have k1 : (w7.alloc (.cells #[.string ⟨#[118]⟩, .int .i64 (x : Int)] 26)).cell? ⟨S, x, none⟩ = some (.bool false) := cellOf t1 (by rw [seenA_get hx, decide_eq_false hns])
          have k2 : (w7.alloc (.cells #[.string ⟨#[118]⟩, .int .i64 (x : Int)] 26)).frozen? ⟨S, x, none⟩ = false := frozenOf t1
          have k3 : (w7.alloc (.cells #[.string ⟨#[118]⟩, .int .i64 (x : Int)] 26)).cell? ⟨P1, 0, none⟩ = some (.string ⟨#[118]⟩) := cellOf t2 rfl
          have k4 : (w7.alloc (.cells #[.string ⟨#[118]⟩, .int .i64 (x : Int)] 26)).cell? ⟨P1, 1, none⟩ = some (.int .i64 (x : Int)) := cellOf t2 rfl
          have he1 := fun W => Pp.eqPair W ⟨#[118]⟩ x
          have he2 := Pp.guardPair
          have hSl := heap_lt (H7.at_tb 1 rfl)
          rw [hP2] at hSl
          have hne1 : ¬ P2 = S := by omega
          have hne2 : ¬ S = P2 := by omega
          subst hab
          clear hQ H7 H8 H9 t1 t2 hSl hP1 hns HSET HC
          have hL := Pp.hlen HH9.out 0 rfl
          rw [HLR'.out, show ((keys.length - (k + 1) : Nat) : Int) = (keys.length : Int) - 1 - (k : Int) by omega] at hL
          have HLL := hide hL
          clear hL
          by_cases h0 : 0 < k
          · have hpy := HPY.out h0
            have g1 : ¬ c < p := by omega
            have g1' : decide (c < p) = false := by simpa using g1
            have h0' : (0 : Int) < (k : Int) := by omega
            by_cases g2 : p = c
            · have g3 : ¬ (x : Int) < y := by omega
              have g3' : decide ((x : Int) < y) = false := by simpa using g3
              subst g2
              clear hpy
              go_wp2_with fail
              refine HLL.out.mono ?_
              rintro e w10 ⟨rfl, rfl⟩
              go_wp2
              go_roundw
              case rel => exact ⟨k + 1, p, x, rfl, rfl, by go_num, by omega, HLA'.out, K, B, _, HD'.out, Herd.cut (ys := [_, _]) HH9.out⟩
              case measure => simp [intOf]; omega
            · have g2' : (c == p) = false := by simpa using fun e : c = p => g2 e.symm
              clear hpy
              go_wp2_with fail
              refine HLL.out.mono ?_
              rintro e w10 ⟨rfl, rfl⟩
              go_wp2
              go_roundw
              case rel => exact ⟨k + 1, c, x, rfl, rfl, by go_num, by omega, HLA'.out, K, B, _, HD'.out, Herd.cut (ys := [_, _]) HH9.out⟩
              case measure => simp [intOf]; omega
          · obtain rfl : k = 0 := by omega
            go_wp2_with fail
            refine HLL.out.mono ?_
            rintro e w10 ⟨rfl, rfl⟩
            go_wp2
            go_roundw
            case rel => exact ⟨1, c, x, rfl, rfl, rfl, by omega, HLA'.out, K, B, _, HD'.out, Herd.cut (ys := [_, _]) HH9.out⟩
            case measure => simp [intOf]; omega
        · obtain rfl : k = keys.length := by omega
          have hR0 : R = [] := List.eq_nil_of_length_eq_zero (by rw [Pp.len_out hD]; omega)
          subst hR0
          have hQ := Pp.hpop H 0 rfl (Nat.zero_le _)
          clear HLA HR hD hk hlt HST
          have e1 : pkK [] = 0 := rfl
          have e2 : pkV [] = 0 := rfl
          have e3 : pkB [] = false := rfl
          have e4 : Pp.pkS [] = ⟨#[]⟩ := rfl
          rw [e1, e2, e3, e4] at hQ
          clear e1 e2 e3 e4 H
          go_wp2_with fail
          refine hQ.mono ?_
          rintro e w7 ⟨rfl, H7⟩
          obtain ⟨B2, H8⟩ := H7.box (.cells #[.string ⟨#[]⟩, .int .i64 0] 26)
          have hL := Pp.hlen H8 0 rfl
          have HB := hide H8.bel
          have he1 := fun W => Pp.eqPair W ⟨#[]⟩ 0
          have he2 := Pp.guardPair
          clear hQ H7 H8
          go_wp2_with fail
          refine hL.mono ?_
          rintro e w10 ⟨rfl, rfl⟩
          go_wp2
          go_ret
          exact ⟨rfl, HB.out⟩

end Go.Proofs.Ytjhgjohnfkgleaa
