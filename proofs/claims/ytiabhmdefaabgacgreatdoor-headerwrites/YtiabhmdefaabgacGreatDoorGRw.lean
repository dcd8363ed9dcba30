import Derived.Test.YtiabhmdefaabgacGreatDoorGRn0
import Derived.WalkMore
namespace Go.Proofs.YtiabhmdefaabgacGreatDoor
open Go.RowKit Go.Maps
set_option maxRecDepth 20000
set_option linter.unusedVariables false

/-- For how many lengths one run of the Sym could stand. -/
def rch (s : Nat) (l : List Int) (k : Nat) : Nat := if s = 16 ∧ k = 0 then 0 else min (eqn (mnt s (l.take k)) (l.drop k)) (mst s).toNat

theorem rch_18 (l : List Int) (k : Nat) : rch 18 l k = n18 l k := by unfold rch n18; rw [if_neg (by omega)]; rfl
theorem rch_17 (l : List Int) (k : Nat) : rch 17 l k = n17 l k := by unfold rch n17; rw [if_neg (by omega)]; rfl
theorem rch_16 {l : List Int} {k : Nat} (hk : k < l.length) : rch 16 l k = n16 l k := by
  unfold rch n16
  by_cases h : k = 0
  · rw [if_pos ⟨rfl, h⟩, if_pos h]
  · rw [if_neg (by omega), if_neg h]
    have e : mnt (16 : Nat) (l.take k) = l.getD (k - 1) 0 := by
      show mnt 16 (l.take k) = _
      unfold mnt
      rw [if_neg (by decide), if_pos rfl, List.length_take, show min k l.length - 1 = k - 1 by omega]
      simp only [List.getD_eq_getElem?_getD, List.getElem?_take]
      rw [if_pos (by omega)]
    rw [e]; rfl

theorem SI.sub {w : World} {b o cap : Nat} {l : List Int} (h : SI w (.slice (some ⟨b, o, none⟩) l.length cap) l) {i j : Nat} (hij : i ≤ j) (hj : j ≤ l.length) : SI w (.slice (some ⟨b, o + i, none⟩) (j - i) (cap - i)) ((l.drop i).take (j - i)) := by
  obtain ⟨ao', cap', he, h1, h2, h3, h4⟩ := h
  simp only [Value.slice.injEq] at he
  obtain ⟨rfl, -, rfl⟩ := he
  have hl : ((l.drop i).take (j - i)).length = j - i := by rw [List.length_take, List.length_drop]; omega
  refine ⟨_, _, by rw [hl], by rw [hl]; omega, by omega, (fun e => by cases e), fun x hx n hn => ?_⟩
  cases hx
  rw [hl] at hn
  have := h4 _ rfl (i + n) (by omega)
  rw [Addr.add_lit] at this ⊢
  rw [Nat.add_assoc, this]
  simp only [List.getD_eq_getElem?_getD, List.getElem?_take, List.getElem?_drop]
  rw [if_pos hn]

set_option maxHeartbeats 1000000 in
theorem reach_any (s k : Nat) (v : Value) (l : List Int) (w : World) (h : SI w v l) (T : Tab w) (hs1 : 16 ≤ s) (hs2 : s < 19) (hk : k < l.length) (hn : l.length ≤ 1048576) :
    Calls Tryz.prog 53 #[.int .i64 s, v, .int .i64 k] w fun e w' => e = .returned (.int .i64 (rch s l k : Nat)) ∧ ∃ q, w' = w.drewN q := by
  have HS := hide h
  have HT := hide T
  obtain ⟨ao, cap, rfl, hlc, hcm⟩ := h.open
  clear h T
  by_cases hz : s = 16 ∧ k = 0
  · have HR : Hid (rch s l k = 0) := by show _ = _; unfold rch; rw [if_pos hz]
    obtain ⟨rfl, rfl⟩ := hz
    go_enter Tryz.func53, Tryz.ntmps53
    go_wp2
    go_ret
    rw [HR.out]
    exact ⟨rfl, 0, rfl⟩
  · have HR : Hid (rch s l k = min (eqn (mnt s (l.take k)) (l.drop k)) (mst s).toNat) := by show _ = _; unfold rch; rw [if_neg hz]
    obtain ⟨b, o, rfl, _⟩ := HS.out.get (Below.refl _ _) hk
    have HT0 : Hid (SI w (.slice (some ⟨b, o, none⟩) k cap) (l.take k)) := by
      have := HS.out.sub (i := 0) (j := k) (Nat.zero_le _) (by omega)
      exact hide (by simpa using this)
    have hlk : (l.take k).length = k := by rw [List.length_take]; omega
    have HMM : Hid ((s : Int) = 16 → 0 < (l.take k).length) := fun e => by rw [hlk]; omega
    obtain ⟨V, HV⟩ : ∃ V, Hid (V = mnt s (l.take k)) := ⟨_, rfl⟩
    obtain ⟨M, hM, HM⟩ : ∃ M : Nat, M ≤ 138 ∧ Hid (mst s = (M : Int)) := by
      rcases tab_cases s hs2 with ⟨_, _, c⟩ | ⟨_, _, c⟩ | ⟨_, _, c⟩ | ⟨_, _, c⟩ <;> rw [c]
      · exact ⟨1, by omega, rfl⟩
      · exact ⟨6, by omega, rfl⟩
      · exact ⟨10, by omega, rfl⟩
      · exact ⟨138, by omega, rfl⟩
    rw [← HV.out, HM.out, Int.toNat_natCast] at HR
    obtain ⟨hi, hhi⟩ : ∃ hi, hi = min (k + M) l.length := ⟨_, rfl⟩
    have hi1 : k ≤ hi := by omega
    have hi2 : hi ≤ l.length := by omega
    have HW : Hid (SI w (.slice (some ⟨b, o + k, none⟩) (hi - k) (cap - k)) ((l.drop k).take (hi - k))) := HS.out.sub hi1 hi2
    have HRW : Hid (rch s l k = eqn V ((l.drop k).take (hi - k))) := by
      show _ = _
      rw [HR.out, eqn_min]
      have := eqn_le V (l.drop k)
      rw [List.length_drop] at this
      omega
    have hz1 : ((s : Int) == 16) = true → ((k : Int) == 0) = false := fun e => by simp at e ⊢; omega
    go_enter Tryz.func53, Tryz.ntmps53
    by_cases e16 : s = 16
    · have g1 : ((s : Int) == 16) = true := by simp; omega
      have g2 : ((k : Int) == 0) = false := hz1 g1
      clear e16 hz1 hz
      go_wp2_with fail
      refine (meant_any s _ (l.take k) w HT0.out HMM.out).mono ?_
      rintro e w1 ⟨rfl, hw1⟩
      subst hw1
      rw [← HV.out]
      go_wp2_with fail
      refine (most_any s w1 hs2 HT.out).mono ?_
      rintro e w2 ⟨rfl, q, hw2⟩
      rw [HM.out]
      go_wp2
      all_goals
        first
        | rw [show ((k : Int) + (M : Int)).toNat - k = hi - k by omega]
        | rw [show l.length - k = hi - k by omega]
        have HRL : Hid (((l.drop k).take (hi - k)).length = hi - k) := by show _ = _; rw [List.length_take, List.length_drop]; omega
        obtain ⟨N, hN⟩ : ∃ N, N = hi - k := ⟨_, rfl⟩
        obtain ⟨R, HRR⟩ : ∃ R, Hid (R = (l.drop k).take (hi - k)) := ⟨_, rfl⟩
        have hNb : N ≤ 1048576 := by omega
        rw [← HRR.out] at HW HRW HRL
        rw [← hN] at HW HRL ⊢
        have HSR : Hid (SI w1 (.slice (some ⟨b, o + k, none⟩) R.length (cap - k)) R) := by rw [HRL.out]; exact HW.out
        have HLR : Hid (R.length = N) := HRL.out
        clear HT0 HMM HV HR HM HW HS HRL hN hhi hi1 hi2 hM hlk HRR
        go_loopw [34] (fun i wr => ∃ j : Nat, j ≤ N ∧ i = .int .i64 j ∧ wr = w1.drewN q ∧ Hid (j ≤ eqn V R)) (fun i _ => N - (intOf i).toNat)
        case atStart => exact ⟨0, Nat.zero_le _, rfl, rfl, Nat.zero_le _⟩
        case round =>
          obtain ⟨j, hj, rfl, hw, HJ⟩ := hrel
          subst hw
          by_cases hlt : j < N
          · have hlt' : (j : Int) < (N : Int) := by omega
            obtain ⟨b2, o2, hbo, hc⟩ := HSR.out.get (w := w1.drewN q) (below_drewN (Below.refl _ _) q) (k := j) (by rw [HLR.out]; exact hlt)
            simp only [Option.some.injEq, Addr.mk.injEq, and_true] at hbo
            obtain ⟨rfl, rfl⟩ := hbo
            have HG := hide (eqn_go HJ.out (by rw [HLR.out]; exact hlt))
            obtain ⟨y, HY⟩ : ∃ y, Hid (y = R.getD j 0) := ⟨_, rfl⟩
            rw [← HY.out] at hc HG
            by_cases hy : y = V
            · subst hy
              have HJ2 := hide (HG.out.1 rfl)
              go_wp2
              go_roundw
              case rel => exact ⟨j + 1, by omega, by go_num, trivial, HJ2⟩
              case measure => simp [intOf]; omega
            · have hy' : (y != V) = true := by simpa using hy
              have HE : Hid (rch s l k = j) := by show _ = _; rw [HRW.out]; exact HG.out.2 hy
              go_wp2
              go_ret
              rw [HE.out]
              exact ⟨rfl, q, rfl⟩
          · obtain rfl : j = N := by omega
            have hlt' : ¬ (j : Int) < (j : Int) := by omega
            have HE : Hid (rch s l k = j) := by show _ = _; rw [HRW.out, eqn_end (by rw [HLR.out]; exact HJ.out)]; exact HLR.out
            go_wp2
            go_ret
            rw [HE.out]
            exact ⟨rfl, q, rfl⟩
    · have g1 : ((s : Int) == 16) = false := by simp; omega
      clear e16 hz1 hz
      go_wp2_with fail
      refine (meant_any s _ (l.take k) w HT0.out HMM.out).mono ?_
      rintro e w1 ⟨rfl, hw1⟩
      subst hw1
      rw [← HV.out]
      go_wp2_with fail
      refine (most_any s w1 hs2 HT.out).mono ?_
      rintro e w2 ⟨rfl, q, hw2⟩
      rw [HM.out]
      go_wp2
      all_goals
        first
        | rw [show ((k : Int) + (M : Int)).toNat - k = hi - k by omega]
        | rw [show l.length - k = hi - k by omega]
        have HRL : Hid (((l.drop k).take (hi - k)).length = hi - k) := by show _ = _; rw [List.length_take, List.length_drop]; omega
        obtain ⟨N, hN⟩ : ∃ N, N = hi - k := ⟨_, rfl⟩
        obtain ⟨R, HRR⟩ : ∃ R, Hid (R = (l.drop k).take (hi - k)) := ⟨_, rfl⟩
        have hNb : N ≤ 1048576 := by omega
        rw [← HRR.out] at HW HRW HRL
        rw [← hN] at HW HRL ⊢
        have HSR : Hid (SI w1 (.slice (some ⟨b, o + k, none⟩) R.length (cap - k)) R) := by rw [HRL.out]; exact HW.out
        have HLR : Hid (R.length = N) := HRL.out
        clear HT0 HMM HV HR HM HW HS HRL hN hhi hi1 hi2 hM hlk HRR
        go_loopw [34] (fun i wr => ∃ j : Nat, j ≤ N ∧ i = .int .i64 j ∧ wr = w1.drewN q ∧ Hid (j ≤ eqn V R)) (fun i _ => N - (intOf i).toNat)
        case atStart => exact ⟨0, Nat.zero_le _, rfl, rfl, Nat.zero_le _⟩
        case round =>
          obtain ⟨j, hj, rfl, hw, HJ⟩ := hrel
          subst hw
          by_cases hlt : j < N
          · have hlt' : (j : Int) < (N : Int) := by omega
            obtain ⟨b2, o2, hbo, hc⟩ := HSR.out.get (w := w1.drewN q) (below_drewN (Below.refl _ _) q) (k := j) (by rw [HLR.out]; exact hlt)
            simp only [Option.some.injEq, Addr.mk.injEq, and_true] at hbo
            obtain ⟨rfl, rfl⟩ := hbo
            have HG := hide (eqn_go HJ.out (by rw [HLR.out]; exact hlt))
            obtain ⟨y, HY⟩ : ∃ y, Hid (y = R.getD j 0) := ⟨_, rfl⟩
            rw [← HY.out] at hc HG
            by_cases hy : y = V
            · subst hy
              have HJ2 := hide (HG.out.1 rfl)
              go_wp2
              go_roundw
              case rel => exact ⟨j + 1, by omega, by go_num, trivial, HJ2⟩
              case measure => simp [intOf]; omega
            · have hy' : (y != V) = true := by simpa using hy
              have HE : Hid (rch s l k = j) := by show _ = _; rw [HRW.out]; exact HG.out.2 hy
              go_wp2
              go_ret
              rw [HE.out]
              exact ⟨rfl, q, rfl⟩
          · obtain rfl : j = N := by omega
            have hlt' : ¬ (j : Int) < (j : Int) := by omega
            have HE : Hid (rch s l k = j) := by show _ = _; rw [HRW.out, eqn_end (by rw [HLR.out]; exact HJ.out)]; exact HLR.out
            go_wp2
            go_ret
            rw [HE.out]
            exact ⟨rfl, q, rfl⟩
end Go.Proofs.YtiabhmdefaabgacGreatDoor

namespace Go.Proofs.YtiabhmdefaabgacGreatDoor
open Go.RowKit Go.Maps
set_option maxRecDepth 20000
set_option linter.unusedVariables false

/-- What a round of Runs stands on. -/
structure Rsr (w wr : World) (l : List Int) (ao : Option Addr) (cap : Nat) (u : Value) (R : List Rn) : Prop where
  si : SI wr (.slice ao l.length cap) l
  tab : Tab wr
  row : OR wr w.heap.size u R
  bel : Below w.heap.size w wr

theorem Rsr.draw {w wr : World} {l : List Int} {ao : Option Addr} {cap : Nat} {u : Value} {R : List Rn} (h : Rsr w wr l ao cap u R) (q : Nat) : Rsr w (wr.drewN q) l ao cap u R :=
  ⟨h.si, h.tab.drewN q, h.row.drewN q, below_drewN h.bel q⟩

theorem Rsr.cells {w wr : World} {l : List Int} {ao : Option Addr} {cap : Nat} {u : Value} {R : List Rn} (h : Rsr w wr l ao cap u R) : wr.cell? ⟨1, 18, none⟩ = some (.int .i64 11) ∧ wr.cell? ⟨1, 17, none⟩ = some (.int .i64 3) ∧ wr.cell? ⟨1, 16, none⟩ = some (.int .i64 3) :=
  ⟨h.tab.least 18 (by omega), h.tab.least 17 (by omega), h.tab.least 16 (by omega)⟩

theorem reach18 (k : Nat) (l : List Int) (w wr : World) (ao : Option Addr) (cap : Nat) (u : Value) (R : List Rn) (h : Rsr w wr l ao cap u R) (hk : k < l.length) (hn : l.length ≤ 1048576) :
    Calls Tryz.prog 53 #[.int .i64 18, .slice ao l.length cap, .int .i64 k] wr fun e w' => e = .returned (.int .i64 (n18 l k : Nat)) ∧ Rsr w w' l ao cap u R := by
  have := reach_any 18 k _ l wr h.si h.tab (by omega) (by omega) hk hn
  rw [rch_18] at this
  exact this.mono fun e w' ⟨he, q, hw⟩ => ⟨he, by rw [hw]; exact h.draw q⟩

theorem reach17 (k : Nat) (l : List Int) (w wr : World) (ao : Option Addr) (cap : Nat) (u : Value) (R : List Rn) (h : Rsr w wr l ao cap u R) (hk : k < l.length) (hn : l.length ≤ 1048576) :
    Calls Tryz.prog 53 #[.int .i64 17, .slice ao l.length cap, .int .i64 k] wr fun e w' => e = .returned (.int .i64 (n17 l k : Nat)) ∧ Rsr w w' l ao cap u R := by
  have := reach_any 17 k _ l wr h.si h.tab (by omega) (by omega) hk hn
  rw [rch_17] at this
  exact this.mono fun e w' ⟨he, q, hw⟩ => ⟨he, by rw [hw]; exact h.draw q⟩

theorem reach16 (k : Nat) (l : List Int) (w wr : World) (ao : Option Addr) (cap : Nat) (u : Value) (R : List Rn) (h : Rsr w wr l ao cap u R) (hk : k < l.length) (hn : l.length ≤ 1048576) :
    Calls Tryz.prog 53 #[.int .i64 16, .slice ao l.length cap, .int .i64 k] wr fun e w' => e = .returned (.int .i64 (n16 l k : Nat)) ∧ Rsr w w' l ao cap u R := by
  have := reach_any 16 k _ l wr h.si h.tab (by omega) (by omega) hk hn
  rw [rch_16 hk] at this
  exact this.mono fun e w' ⟨he, q, hw⟩ => ⟨he, by rw [hw]; exact h.draw q⟩

theorem Rsr.more {w wr w3 : World} {l : List Int} {ao : Option Addr} {cap : Nat} {u u3 : Value} {R : List Rn} {p : Rn} {o : Obj} (h : Rsr w wr l ao cap u R) (h0 : SI w (.slice ao l.length cap) l) (t0 : Tab w) (ho : OR w3 w.heap.size u3 (R ++ [p])) (hg : (wr.alloc o).grownBy w3 u.ownBlock) : Rsr w w3 l ao cap u3 (R ++ [p]) := by
  have hb := grow_run h.bel (Nat.le_refl _) h.row hg
  exact ⟨h0.below hb, t0.mono hb, ho, hb⟩

theorem n18_le {l : List Int} {k : Nat} : n18 l k ≤ 138 := by unfold n18; omega
theorem n17_le {l : List Int} {k : Nat} : n17 l k ≤ 10 := by unfold n17; omega
theorem n16_le {l : List Int} {k : Nat} : n16 l k ≤ 6 := by unfold n16; split <;> omega

/-- What one run more means. -/
theorem rns_more {l : List Int} {k c : Nat} {R : List Rn} {p1 : Int} (hk : k < l.length) (hR : rns l = R ++ rnK l k) (hl : R.length ≤ k) (hp : run1 l k = (p1, (c : Int))) : k + c ≤ l.length ∧ 1 ≤ c ∧ c ≤ 138 ∧ rns l = (R ++ [(p1, (c : Int))]) ++ rnK l (k + c) ∧ (R ++ [(p1, (c : Int))]).length ≤ k + c := by
  obtain ⟨c', e, c1, c2, c3⟩ := run1_cnt hk
  rw [hp] at e
  have : c = c' := by simp only at e; omega
  subst this
  refine ⟨c2, c1, c3, ?_, by rw [List.length_append]; simp; omega⟩
  rw [hR, rnK_step hk (by rw [hp]), hp, List.append_assoc]
  rfl

theorem ix0 : ∀ w : World, (Instr.index 95 (.agg #[.int .i64 18, .int .i64 17, .int .i64 16]) (.int .i64 0)).run Tryz.prog w = .ok (.int .i64 18) w := fun _ => by kernel_rfl
theorem ix1 : ∀ w : World, (Instr.index 95 (.agg #[.int .i64 18, .int .i64 17, .int .i64 16]) (.int .i64 1)).run Tryz.prog w = .ok (.int .i64 17) w := fun _ => by kernel_rfl
theorem ix2 : ∀ w : World, (Instr.index 95 (.agg #[.int .i64 18, .int .i64 17, .int .i64 16]) (.int .i64 2)).run Tryz.prog w = .ok (.int .i64 16) w := fun _ => by kernel_rfl

set_option maxHeartbeats 4000000 in
theorem runs_any (v : Value) (l : List Int) (w : World) (h : SI w v l) (T : Tab w) (hn : l.length ≤ 1048576) :
    Calls Tryz.prog 33 #[v] w fun e w' => ∃ u, e = .returned (.tuple #[u, .int .i64 (rnE l)]) ∧ OR w' w.heap.size u (rnL l) ∧ Below w.heap.size w w' := by
  have HS := hide h
  have HT := hide T
  have i0 := ix0
  have i1 := ix1
  have i2 := ix2
  obtain ⟨ao, cap, rfl, hlc, hcm⟩ := h.open
  clear h T
  go_enter Tryz.func33, Tryz.ntmps33
  go_wp2_with fail
  go_step3
  go_wp2_with fail
  refine (codeLengths_any _ l w HS.out).mono ?_
  rintro e w1 ⟨rfl, hw1⟩
  subst hw1
  by_cases hw : wthb l = true
  · have HE : Hid (rnE l = 0 ∧ rnL l = rns l) := ⟨by unfold rnE; rw [if_pos hw], by unfold rnL; rw [if_pos hw]⟩
    rw [hw]
    go_wp2
    go_step3
    go_wp2
    go_loopw [4, 5] (fun u i wr => ∃ (k : Nat) (R : List Rn), k ≤ l.length ∧ i = .int .i64 k ∧ R.length ≤ k ∧ Hid (rns l = R ++ rnK l k) ∧ Hid (Rsr w1 wr l ao cap u R)) (fun _ i _ => l.length - (intOf i).toNat)
    case atStart => exact ⟨0, [], Nat.zero_le _, rfl, Nat.le_refl _, rfl, HS.out, HT.out, OR.nil _ _, Below.refl _ _⟩
    case round =>
      obtain ⟨k, R, hk, rfl, hR, HR, HST⟩ := hrel
      by_cases hlt : k < l.length
      · have hlt' : (k : Int) < (l.length : Int) := by omega
        obtain ⟨pA, pB, pC, pD⟩ := run_pick hlt
        obtain ⟨a1, p1, hu, _⟩ := HST.out.row.shape
        subst hu
        have H18 := hide (fun wr h => reach18 k l w1 wr ao cap (.slice a1 R.length p1) R h hlt hn)
        have H17 := hide (fun wr h => reach17 k l w1 wr ao cap (.slice a1 R.length p1) R h hlt hn)
        have H16 := hide (fun wr h => reach16 k l w1 wr ao cap (.slice a1 R.length p1) R h hlt hn)
        have b18 := n18_le (l := l) (k := k)
        have b17 := n17_le (l := l) (k := k)
        have b16 := n16_le (l := l) (k := k)
        obtain ⟨N18, hN18⟩ : ∃ N, N = n18 l k := ⟨_, rfl⟩
        obtain ⟨N17, hN17⟩ : ∃ N, N = n17 l k := ⟨_, rfl⟩
        obtain ⟨N16, hN16⟩ : ∃ N, N = n16 l k := ⟨_, rfl⟩
        rw [← hN18] at H18 pA pB pC pD b18
        rw [← hN17] at H17 pB pC pD b17
        rw [← hN16] at H16 pC pD b16
        clear hN18 hN17 hN16
        by_cases hA : 11 ≤ N18
        · obtain ⟨hm1, hm2, hm3, hm4, hm5⟩ := rns_more hlt HR.out hR (pA hA)
          have HM4 := hide hm4
          clear pA pB pC pD hm4 HR
          go_wp2
          refine wp_loop_rounds 4 ?_
          rw [rounds_succ]
          go_wp2_with fail
          refine (H18.out _ HST.out).mono ?_
          rintro e w18 ⟨rfl, hs18⟩
          replace HST := hide hs18
          obtain ⟨c18, c17, c16⟩ := hs18.cells
          clear hs18
          have HOR := hide HST.out.row
          have hbw := HST.out.bel.size
          go_wp2_with (at_builtin; refine wpRun rfl _ _ rfl w1.heap.size (.slice a1 R.length p1) R 18 (N18 : Int) rfl HOR.out _ rfl (by omega) hbw ?_)
          intro v3 w3 ho3 hg3
          have HN3 := hide (HST.out.more HS.out HT.out ho3 hg3)
          clear ho3 hg3
          go_wp2
          go_roundw
          case rel => exact ⟨k + N18, _, hm1, by go_num, hm5, HM4, HN3⟩
          case measure => simp [intOf]; omega
        · by_cases hB : 3 ≤ N17
          · obtain ⟨hm1, hm2, hm3, hm4, hm5⟩ := rns_more hlt HR.out hR (pB (by omega) hB)
            have HM4 := hide hm4
            clear pA pB pC pD hm4 HR
            go_wp2
            refine wp_loop_rounds 4 ?_
            rw [rounds_succ]
            go_wp2_with fail
            refine (H18.out _ HST.out).mono ?_
            rintro e w18 ⟨rfl, hs18⟩
            replace HST := hide hs18
            obtain ⟨c18, c17, c16⟩ := hs18.cells
            clear hs18
            go_wp2
            rw [rounds_succ]
            go_wp2_with fail
            refine (H17.out _ HST.out).mono ?_
            rintro e w17 ⟨rfl, hs17⟩
            replace HST := hide hs17
            obtain ⟨c18, c17, c16⟩ := hs17.cells
            clear hs17
            have HOR := hide HST.out.row
            have hbw := HST.out.bel.size
            go_wp2_with (at_builtin; refine wpRun rfl _ _ rfl w1.heap.size (.slice a1 R.length p1) R 17 (N17 : Int) rfl HOR.out _ rfl (by omega) hbw ?_)
            intro v3 w3 ho3 hg3
            have HN3 := hide (HST.out.more HS.out HT.out ho3 hg3)
            clear ho3 hg3
            go_wp2
            go_roundw
            case rel => exact ⟨k + N17, _, hm1, by go_num, hm5, HM4, HN3⟩
            case measure => simp [intOf]; omega
          · by_cases hC : 3 ≤ N16
            · obtain ⟨hm1, hm2, hm3, hm4, hm5⟩ := rns_more hlt HR.out hR (pC (by omega) (by omega) hC)
              have HM4 := hide hm4
              clear pA pB pC pD hm4 HR
              go_wp2
              refine wp_loop_rounds 4 ?_
              rw [rounds_succ]
              go_wp2_with fail
              refine (H18.out _ HST.out).mono ?_
              rintro e w18 ⟨rfl, hs18⟩
              replace HST := hide hs18
              obtain ⟨c18, c17, c16⟩ := hs18.cells
              clear hs18
              go_wp2
              rw [rounds_succ]
              go_wp2_with fail
              refine (H17.out _ HST.out).mono ?_
              rintro e w17 ⟨rfl, hs17⟩
              replace HST := hide hs17
              obtain ⟨c18, c17, c16⟩ := hs17.cells
              clear hs17
              go_wp2
              rw [rounds_succ]
              go_wp2_with fail
              refine (H16.out _ HST.out).mono ?_
              rintro e w16 ⟨rfl, hs16⟩
              replace HST := hide hs16
              obtain ⟨c18, c17, c16⟩ := hs16.cells
              clear hs16
              have HOR := hide HST.out.row
              have hbw := HST.out.bel.size
              go_wp2_with (at_builtin; refine wpRun rfl _ _ rfl w1.heap.size (.slice a1 R.length p1) R 16 (N16 : Int) rfl HOR.out _ rfl (by omega) hbw ?_)
              intro v3 w3 ho3 hg3
              have HN3 := hide (HST.out.more HS.out HT.out ho3 hg3)
              clear ho3 hg3
              go_wp2
              go_roundw
              case rel => exact ⟨k + N16, _, hm1, by go_num, hm5, HM4, HN3⟩
              case measure => simp [intOf]; omega
            · obtain ⟨b, o, rfl, hc⟩ := HS.out.get HST.out.bel hlt
              obtain ⟨hm1, hm2, hm3, hm4, hm5⟩ := rns_more (c := 1) hlt HR.out hR (pD (by omega) (by omega) (by omega))
              obtain ⟨y, HY⟩ : ∃ y, Hid (y = l.getD k 0) := ⟨_, rfl⟩
              rw [← HY.out] at hm4 hm5
              have HM4 := hide hm4
              clear pA pB pC pD hm4 HR hc
              go_wp2
              refine wp_loop_rounds 4 ?_
              rw [rounds_succ]
              go_wp2_with fail
              refine (H18.out _ HST.out).mono ?_
              rintro e w18 ⟨rfl, hs18⟩
              replace HST := hide hs18
              obtain ⟨c18, c17, c16⟩ := hs18.cells
              clear hs18
              go_wp2
              rw [rounds_succ]
              go_wp2_with fail
              refine (H17.out _ HST.out).mono ?_
              rintro e w17 ⟨rfl, hs17⟩
              replace HST := hide hs17
              obtain ⟨c18, c17, c16⟩ := hs17.cells
              clear hs17
              go_wp2
              rw [rounds_succ]
              go_wp2_with fail
              refine (H16.out _ HST.out).mono ?_
              rintro e w16 ⟨rfl, hs16⟩
              replace HST := hide hs16
              obtain ⟨c18, c17, c16⟩ := hs16.cells
              clear hs16
              go_wp2
              rw [rounds_succ]
              obtain ⟨b', o', hbo, hc⟩ := HS.out.get HST.out.bel hlt
              simp only [Option.some.injEq, Addr.mk.injEq, and_true] at hbo
              obtain ⟨rfl, rfl⟩ := hbo
              rw [← HY.out] at hc
              have HOR := hide HST.out.row
              have hbw := HST.out.bel.size
              go_wp2_with (at_builtin; refine wpRun rfl _ _ rfl w1.heap.size (.slice a1 R.length p1) R y 1 rfl HOR.out _ rfl (by omega) hbw ?_)
              intro v3 w3 ho3 hg3
              have HN3 := hide (HST.out.more HS.out HT.out ho3 hg3)
              clear ho3 hg3
              go_wp2
              go_roundw
              case rel => exact ⟨k + 1, _, hm1, by go_num, hm5, HM4, HN3⟩
              case measure => simp [intOf]; omega
      · obtain rfl : k = l.length := by omega
        have hlt' : ¬ (l.length : Int) < (l.length : Int) := by omega
        have HF : Hid (OR wr w1.heap.size u4 (rnL l)) := by
          have := HR.out
          rw [rnK_end (Nat.le_refl _), List.append_nil] at this
          show OR _ _ _ _
          rw [HE.out.2, this]
          exact HST.out.row
        go_wp2
        go_ret2
        rw [HE.out.1]
        exact ⟨_, rfl, HF.out, HST.out.bel⟩
  · have HE : Hid (rnE l = 1 ∧ rnL l = []) := ⟨by unfold rnE; rw [if_neg hw], by unfold rnL; rw [if_neg hw]⟩
    have hw' : wthb l = false := by simpa using hw
    rw [hw']
    go_wp2
    (try simp only [Exit.noGoto_ret])
    go_ret2
    rw [HE.out.1, HE.out.2]
    exact ⟨_, rfl, OR.nil _ _, Below.refl _ _⟩
end Go.Proofs.YtiabhmdefaabgacGreatDoor

namespace Go.Proofs.YtiabhmdefaabgacGreatDoor
open Go.RowKit Go.Maps
set_option maxRecDepth 20000
set_option linter.unusedVariables false

theorem lay_more (a : List Int) (k : Nat) (x : Int) : a ++ List.replicate (k + 1) x = (a ++ List.replicate k x) ++ [x] := by
  rw [List.replicate_succ', List.append_assoc]

/-- How many lengths runs stand for. -/
def tot (R : List Rn) : Nat := (lays [] R).length

theorem tot_snoc (R : List Rn) (p : Rn) : tot (R ++ [p]) = tot R + p.2.toNat := by unfold tot; rw [lays_snoc, lay_len]
theorem rn_snoc {R : List Rn} {k : Nat} (h : k < R.length) : R.take (k + 1) = R.take k ++ [R.getD k rn0] := by
  rw [List.take_succ_eq_append_getElem h]
  simp [h]

theorem xpE_snoc : ∀ (S : List Rn) (a : List Int) (r : Rn), xpE a S = 0 → xpE a (S ++ [r]) = if Okr r then if r.1 = 16 ∧ lays a S = [] then 73 else 0 else 77
  | [], a, r, _ => rfl
  | q :: S, a, r, h => by
    simp only [xpE] at h
    by_cases h1 : Okr q
    · rw [if_pos h1] at h
      by_cases h2 : q.1 = 16 ∧ a = []
      · rw [if_pos h2] at h; omega
      · rw [if_neg h2] at h
        have := xpE_snoc S (lay a q) r h
        simp only [List.cons_append, xpE]
        rw [if_pos h1, if_neg h2]
        exact this
    · rw [if_neg h1] at h; omega

theorem xpE_front : ∀ (S T : List Rn) (a : List Int), xpE a S ≠ 0 → xpE a (S ++ T) = xpE a S
  | [], T, a, h => absurd rfl h
  | q :: S, T, a, h => by
    simp only [List.cons_append, xpE] at h ⊢
    by_cases h1 : Okr q
    · rw [if_pos h1] at h ⊢
      by_cases h2 : q.1 = 16 ∧ a = []
      · rw [if_pos h2]; rw [if_pos h1, if_pos h2]
      · rw [if_neg h2] at h ⊢
        rw [if_pos h1, if_neg h2]
        exact xpE_front S T (lay a q) h
    · rw [if_neg h1, if_neg h1]

/-- The first run that has an error tells it. -/
theorem xpE_at {R : List Rn} {k : Nat} (hk : k < R.length) (h0 : xpE [] (R.take k) = 0) :
    (¬ Okr (R.getD k rn0) → xpE [] R = 77) ∧ (Okr (R.getD k rn0) → (R.getD k rn0).1 = 16 → tot (R.take k) = 0 → xpE [] R = 73) ∧ (Okr (R.getD k rn0) → ((R.getD k rn0).1 = 16 → tot (R.take k) ≠ 0) → xpE [] (R.take (k + 1)) = 0) := by
  have e := xpE_snoc (R.take k) [] (R.getD k rn0) h0
  rw [← rn_snoc hk] at e
  have ez : lays [] (R.take k) = [] ↔ tot (R.take k) = 0 := by unfold tot; exact List.length_eq_zero_iff.symm
  have key : xpE [] (R.take (k + 1)) ≠ 0 → xpE [] R = xpE [] (R.take (k + 1)) := fun h => by
    have := xpE_front (R.take (k + 1)) (R.drop (k + 1)) [] h
    rwa [List.take_append_drop] at this
  refine ⟨fun h => ?_, fun h h1 h2 => ?_, fun h h1 => ?_⟩
  · rw [if_neg h] at e
    rw [key (by omega), e]
  · rw [if_pos h, if_pos ⟨h1, ez.2 h2⟩] at e
    rw [key (by omega), e]
  · rw [if_pos h, if_neg (fun q => h1 q.1 (ez.1 q.2))] at e
    exact e

theorem okr_parts {r : Rn} (h : Okr r) : ∃ s c : Nat, r = ((s : Int), (c : Int)) ∧ s < 19 ∧ lst s ≤ c ∧ (c : Int) ≤ mst s ∧ 1 ≤ c ∧ c ≤ 138 := by
  obtain ⟨a, b⟩ := r
  obtain ⟨h1, h2, h3, h4⟩ := h
  simp only at h1 h2 h3 h4
  obtain ⟨s, rfl⟩ := Int.eq_ofNat_of_zero_le h1
  have hs : s < 19 := by omega
  have hb : 1 ≤ b ∧ b ≤ 138 := by
    rcases tab_cases s hs with ⟨x, _, y⟩ | ⟨x, _, y⟩ | ⟨x, _, y⟩ | ⟨x, _, y⟩ <;> rw [x] at h3 <;> rw [y] at h4 <;> omega
  obtain ⟨c, rfl⟩ := Int.eq_ofNat_of_zero_le (show 0 ≤ b by omega)
  exact ⟨s, c, rfl, hs, h3, h4, by omega, by omega⟩

theorem tot_lem {R : List Rn} (h : xpE [] R = 0) : ∀ k, k ≤ R.length → xpE [] (R.take k) = 0 ∧ tot (R.take k) ≤ 138 * k := by
  intro k
  induction k with
  | zero => intro _; exact ⟨rfl, by simp [tot, lays]⟩
  | succ k ih =>
    intro hk
    obtain ⟨i1, i2⟩ := ih (by omega)
    obtain ⟨x1, x2, x3⟩ := xpE_at (k := k) (by omega) i1
    by_cases ok : Okr (R.getD k rn0)
    · obtain ⟨s, c, e, _, _, _, _, hc⟩ := okr_parts ok
      by_cases z : (R.getD k rn0).1 = 16 ∧ tot (R.take k) = 0
      · have := x2 ok z.1 z.2; omega
      · refine ⟨x3 ok (fun q q2 => z ⟨q, q2⟩), ?_⟩
        rw [rn_snoc (by omega), tot_snoc, e]
        simp only [Int.toNat_natCast]
        omega
    · have := x1 ok; omega

end Go.Proofs.YtiabhmdefaabgacGreatDoor

