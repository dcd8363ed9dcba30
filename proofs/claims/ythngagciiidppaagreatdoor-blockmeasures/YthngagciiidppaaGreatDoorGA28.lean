import Derived.Test.YthngagciiidppaaGreatDoorGA27
import Derived.WalkMore
import Derived.Test.YthngagciiidppaaGreatDoorGA21
namespace Go.Proofs.YthngagciiidppaaGreatDoor
open Go.RowKit Go.Maps
set_option maxRecDepth 20000
set_option linter.unusedVariables false

/-- For how many lengths one run of the Sym could stand. -/
def rch (s : Nat) (l : List Int) (k : Nat) : Nat := if s = 16 ∧ k = 0 then 0 else min (eqn (mnt s (l.take k)) (l.drop k)) (mst s).toNat

theorem rch_18 (l : List Int) (k : Nat) : rch 18 l k = n18 l k := by unfold rch n18; rw [if_neg (by omega)]; rfl
theorem rch_17 (l : List Int) (k : Nat) : rch 17 l k = n17 l k := by unfold rch n17; rw [if_neg (by omega)]; rfl
theorem rch_16 {l : List Int} {k : Nat} (hk : k < l.length) : rch 16 l k = n16 l k := by
  unfold rch n16
  by_cases h : k = 0
  · rw [if_pos ⟨rfl, h⟩, if_pos h]
  · rw [if_neg (by omega), if_neg h]
    have e : mnt (16 : Nat) (l.take k) = l.getD (k - 1) 0 := by
      show mnt 16 (l.take k) = _
      unfold mnt
      rw [if_neg (by decide), if_pos rfl, List.length_take, show min k l.length - 1 = k - 1 by omega]
      simp only [List.getD_eq_getElem?_getD, List.getElem?_take]
      rw [if_pos (by omega)]
    rw [e]; rfl

theorem SI.sub {w : World} {b o cap : Nat} {l : List Int} (h : SI w (.slice (some ⟨b, o, none⟩) l.length cap) l) {i j : Nat} (hij : i ≤ j) (hj : j ≤ l.length) : SI w (.slice (some ⟨b, o + i, none⟩) (j - i) (cap - i)) ((l.drop i).take (j - i)) := by
  obtain ⟨ao', cap', he, h1, h2, h3, h4⟩ := h
  simp only [Value.slice.injEq] at he
  obtain ⟨rfl, -, rfl⟩ := he
  have hl : ((l.drop i).take (j - i)).length = j - i := by rw [List.length_take, List.length_drop]; omega
  refine ⟨_, _, by rw [hl], by rw [hl]; omega, by omega, (fun e => by cases e), fun x hx n hn => ?_⟩
  cases hx
  rw [hl] at hn
  have := h4 _ rfl (i + n) (by omega)
  rw [Addr.add_lit] at this ⊢
  rw [Nat.add_assoc, this]
  simp only [List.getD_eq_getElem?_getD, List.getElem?_take, List.getElem?_drop]
  rw [if_pos hn]

set_option maxHeartbeats 1000000 in
theorem reach_any (s k : Nat) (v : Value) (l : List Int) (w : World) (h : SI w v l) (T : Tab w) (hs1 : 16 ≤ s) (hs2 : s < 19) (hk : k < l.length) (hn : l.length ≤ 1048576) :
    Calls Tryz.prog 75 #[.int .i64 s, v, .int .i64 k] w fun e w' => e = .returned (.int .i64 (rch s l k : Nat)) ∧ ∃ q, w' = w.drewN q := by
  have HS := hide h
  have HT := hide T
  obtain ⟨ao, cap, rfl, hlc, hcm⟩ := h.open
  clear h T
  by_cases hz : s = 16 ∧ k = 0
  · have HR : Hid (rch s l k = 0) := by show _ = _; unfold rch; rw [if_pos hz]
    obtain ⟨rfl, rfl⟩ := hz
    go_enter Tryz.func75, Tryz.ntmps75
    go_wp2
    go_ret
    rw [HR.out]
    exact ⟨rfl, 0, rfl⟩
  · have HR : Hid (rch s l k = min (eqn (mnt s (l.take k)) (l.drop k)) (mst s).toNat) := by show _ = _; unfold rch; rw [if_neg hz]
    obtain ⟨b, o, rfl, _⟩ := HS.out.get (Below.refl _ _) hk
    have HT0 : Hid (SI w (.slice (some ⟨b, o, none⟩) k cap) (l.take k)) := by
      have := HS.out.sub (i := 0) (j := k) (Nat.zero_le _) (by omega)
      exact hide (by simpa using this)
    have hlk : (l.take k).length = k := by rw [List.length_take]; omega
    have HMM : Hid ((s : Int) = 16 → 0 < (l.take k).length) := fun e => by rw [hlk]; omega
    obtain ⟨V, HV⟩ : ∃ V, Hid (V = mnt s (l.take k)) := ⟨_, rfl⟩
    obtain ⟨M, hM, HM⟩ : ∃ M : Nat, M ≤ 138 ∧ Hid (mst s = (M : Int)) := by
      rcases tab_cases s hs2 with ⟨_, _, c⟩ | ⟨_, _, c⟩ | ⟨_, _, c⟩ | ⟨_, _, c⟩ <;> rw [c]
      · exact ⟨1, by omega, rfl⟩
      · exact ⟨6, by omega, rfl⟩
      · exact ⟨10, by omega, rfl⟩
      · exact ⟨138, by omega, rfl⟩
    rw [← HV.out, HM.out, Int.toNat_natCast] at HR
    obtain ⟨hi, hhi⟩ : ∃ hi, hi = min (k + M) l.length := ⟨_, rfl⟩
    have hi1 : k ≤ hi := by omega
    have hi2 : hi ≤ l.length := by omega
    have HW : Hid (SI w (.slice (some ⟨b, o + k, none⟩) (hi - k) (cap - k)) ((l.drop k).take (hi - k))) := HS.out.sub hi1 hi2
    have HRW : Hid (rch s l k = eqn V ((l.drop k).take (hi - k))) := by
      show _ = _
      rw [HR.out, eqn_min]
      have := eqn_le V (l.drop k)
      rw [List.length_drop] at this
      omega
    have hz1 : ((s : Int) == 16) = true → ((k : Int) == 0) = false := fun e => by simp at e ⊢; omega
    go_enter Tryz.func75, Tryz.ntmps75
    by_cases e16 : s = 16
    · have g1 : ((s : Int) == 16) = true := by simp; omega
      have g2 : ((k : Int) == 0) = false := hz1 g1
      clear e16 hz1 hz
      go_wp2_with fail
      refine (meant_any s _ (l.take k) w HT0.out HMM.out).mono ?_
      rintro e w1 ⟨rfl, hw1⟩
      subst hw1
      rw [← HV.out]
      go_wp2_with fail
      refine (most_any s w1 hs2 HT.out).mono ?_
      rintro e w2 ⟨rfl, q, hw2⟩
      rw [HM.out]
      go_wp2
      all_goals
        first
        | rw [show ((k : Int) + (M : Int)).toNat - k = hi - k by omega]
        | rw [show l.length - k = hi - k by omega]
        have HRL : Hid (((l.drop k).take (hi - k)).length = hi - k) := by show _ = _; rw [List.length_take, List.length_drop]; omega
        obtain ⟨N, hN⟩ : ∃ N, N = hi - k := ⟨_, rfl⟩
        obtain ⟨R, HRR⟩ : ∃ R, Hid (R = (l.drop k).take (hi - k)) := ⟨_, rfl⟩
        have hNb : N ≤ 1048576 := by omega
        rw [← HRR.out] at HW HRW HRL
        rw [← hN] at HW HRL ⊢
        have HSR : Hid (SI w1 (.slice (some ⟨b, o + k, none⟩) R.length (cap - k)) R) := by rw [HRL.out]; exact HW.out
        have HLR : Hid (R.length = N) := HRL.out
        clear HT0 HMM HV HR HM HW HS HRL hN hhi hi1 hi2 hM hlk HRR
        go_loopw [34] (fun i wr => ∃ j : Nat, j ≤ N ∧ i = .int .i64 j ∧ wr = w1.drewN q ∧ Hid (j ≤ eqn V R)) (fun i _ => N - (intOf i).toNat)
        case atStart => exact ⟨0, Nat.zero_le _, rfl, rfl, Nat.zero_le _⟩
        case round =>
          obtain ⟨j, hj, rfl, hw, HJ⟩ := hrel
          subst hw
          by_cases hlt : j < N
          · have hlt' : (j : Int) < (N : Int) := by omega
            obtain ⟨b2, o2, hbo, hc⟩ := HSR.out.get (w := w1.drewN q) (below_drewN (Below.refl _ _) q) (k := j) (by rw [HLR.out]; exact hlt)
            simp only [Option.some.injEq, Addr.mk.injEq, and_true] at hbo
            obtain ⟨rfl, rfl⟩ := hbo
            have HG := hide (eqn_go HJ.out (by rw [HLR.out]; exact hlt))
            obtain ⟨y, HY⟩ : ∃ y, Hid (y = R.getD j 0) := ⟨_, rfl⟩
            rw [← HY.out] at hc HG
            by_cases hy : y = V
            · subst hy
              have HJ2 := hide (HG.out.1 rfl)
              go_wp2
              go_roundw
              case rel => exact ⟨j + 1, by omega, by go_num, trivial, HJ2⟩
              case measure => simp [intOf]; omega
            · have hy' : (y != V) = true := by simpa using hy
              have HE : Hid (rch s l k = j) := by show _ = _; rw [HRW.out]; exact HG.out.2 hy
              go_wp2
              go_ret
              rw [HE.out]
              exact ⟨rfl, q, rfl⟩
          · obtain rfl : j = N := by omega
            have hlt' : ¬ (j : Int) < (j : Int) := by omega
            have HE : Hid (rch s l k = j) := by show _ = _; rw [HRW.out, eqn_end (by rw [HLR.out]; exact HJ.out)]; exact HLR.out
            go_wp2
            go_ret
            rw [HE.out]
            exact ⟨rfl, q, rfl⟩
    · have g1 : ((s : Int) == 16) = false := by simp; omega
      clear e16 hz1 hz
      go_wp2_with fail
      refine (meant_any s _ (l.take k) w HT0.out HMM.out).mono ?_
      rintro e w1 ⟨rfl, hw1⟩
      subst hw1
      rw [← HV.out]
      go_wp2_with fail
      refine (most_any s w1 hs2 HT.out).mono ?_
      rintro e w2 ⟨rfl, q, hw2⟩
      rw [HM.out]
      go_wp2
      all_goals
        first
        | rw [show ((k : Int) + (M : Int)).toNat - k = hi - k by omega]
        | rw [show l.length - k = hi - k by omega]
        have HRL : Hid (((l.drop k).take (hi - k)).length = hi - k) := by show _ = _; rw [List.length_take, List.length_drop]; omega
        obtain ⟨N, hN⟩ : ∃ N, N = hi - k := ⟨_, rfl⟩
        obtain ⟨R, HRR⟩ : ∃ R, Hid (R = (l.drop k).take (hi - k)) := ⟨_, rfl⟩
        have hNb : N ≤ 1048576 := by omega
        rw [← HRR.out] at HW HRW HRL
        rw [← hN] at HW HRL ⊢
        have HSR : Hid (SI w1 (.slice (some ⟨b, o + k, none⟩) R.length (cap - k)) R) := by rw [HRL.out]; exact HW.out
        have HLR : Hid (R.length = N) := HRL.out
        clear HT0 HMM HV HR HM HW HS HRL hN hhi hi1 hi2 hM hlk HRR
        go_loopw [34] (fun i wr => ∃ j : Nat, j ≤ N ∧ i = .int .i64 j ∧ wr = w1.drewN q ∧ Hid (j ≤ eqn V R)) (fun i _ => N - (intOf i).toNat)
        case atStart => exact ⟨0, Nat.zero_le _, rfl, rfl, Nat.zero_le _⟩
        case round =>
          obtain ⟨j, hj, rfl, hw, HJ⟩ := hrel
          subst hw
          by_cases hlt : j < N
          · have hlt' : (j : Int) < (N : Int) := by omega
            obtain ⟨b2, o2, hbo, hc⟩ := HSR.out.get (w := w1.drewN q) (below_drewN (Below.refl _ _) q) (k := j) (by rw [HLR.out]; exact hlt)
            simp only [Option.some.injEq, Addr.mk.injEq, and_true] at hbo
            obtain ⟨rfl, rfl⟩ := hbo
            have HG := hide (eqn_go HJ.out (by rw [HLR.out]; exact hlt))
            obtain ⟨y, HY⟩ : ∃ y, Hid (y = R.getD j 0) := ⟨_, rfl⟩
            rw [← HY.out] at hc HG
            by_cases hy : y = V
            · subst hy
              have HJ2 := hide (HG.out.1 rfl)
              go_wp2
              go_roundw
              case rel => exact ⟨j + 1, by omega, by go_num, trivial, HJ2⟩
              case measure => simp [intOf]; omega
            · have hy' : (y != V) = true := by simpa using hy
              have HE : Hid (rch s l k = j) := by show _ = _; rw [HRW.out]; exact HG.out.2 hy
              go_wp2
              go_ret
              rw [HE.out]
              exact ⟨rfl, q, rfl⟩
          · obtain rfl : j = N := by omega
            have hlt' : ¬ (j : Int) < (j : Int) := by omega
            have HE : Hid (rch s l k = j) := by show _ = _; rw [HRW.out, eqn_end (by rw [HLR.out]; exact HJ.out)]; exact HLR.out
            go_wp2
            go_ret
            rw [HE.out]
            exact ⟨rfl, q, rfl⟩
end Go.Proofs.YthngagciiidppaaGreatDoor

namespace Go.Proofs.YthngagciiidppaaGreatDoor
open Go.RowKit Go.Maps
set_option maxRecDepth 20000
set_option linter.unusedVariables false

/-- What a round of Runs stands on. -/
structure Rsr (w wr : World) (l : List Int) (ao : Option Addr) (cap : Nat) (u : Value) (R : List Rn) : Prop where
  si : SI wr (.slice ao l.length cap) l
  tab : Tab wr
  row : OR wr w.heap.size u R
  bel : Below w.heap.size w wr

theorem Rsr.draw {w wr : World} {l : List Int} {ao : Option Addr} {cap : Nat} {u : Value} {R : List Rn} (h : Rsr w wr l ao cap u R) (q : Nat) : Rsr w (wr.drewN q) l ao cap u R :=
  ⟨h.si, h.tab.drewN q, h.row.drewN q, below_drewN h.bel q⟩

theorem Rsr.cells {w wr : World} {l : List Int} {ao : Option Addr} {cap : Nat} {u : Value} {R : List Rn} (h : Rsr w wr l ao cap u R) : wr.cell? ⟨3, 18, none⟩ = some (.int .i64 11) ∧ wr.cell? ⟨3, 17, none⟩ = some (.int .i64 3) ∧ wr.cell? ⟨3, 16, none⟩ = some (.int .i64 3) :=
  ⟨h.tab.least 18 (by omega), h.tab.least 17 (by omega), h.tab.least 16 (by omega)⟩

theorem reach18 (k : Nat) (l : List Int) (w wr : World) (ao : Option Addr) (cap : Nat) (u : Value) (R : List Rn) (h : Rsr w wr l ao cap u R) (hk : k < l.length) (hn : l.length ≤ 1048576) :
    Calls Tryz.prog 75 #[.int .i64 18, .slice ao l.length cap, .int .i64 k] wr fun e w' => e = .returned (.int .i64 (n18 l k : Nat)) ∧ Rsr w w' l ao cap u R := by
  have := reach_any 18 k _ l wr h.si h.tab (by omega) (by omega) hk hn
  rw [rch_18] at this
  exact this.mono fun e w' ⟨he, q, hw⟩ => ⟨he, by rw [hw]; exact h.draw q⟩

theorem reach17 (k : Nat) (l : List Int) (w wr : World) (ao : Option Addr) (cap : Nat) (u : Value) (R : List Rn) (h : Rsr w wr l ao cap u R) (hk : k < l.length) (hn : l.length ≤ 1048576) :
    Calls Tryz.prog 75 #[.int .i64 17, .slice ao l.length cap, .int .i64 k] wr fun e w' => e = .returned (.int .i64 (n17 l k : Nat)) ∧ Rsr w w' l ao cap u R := by
  have := reach_any 17 k _ l wr h.si h.tab (by omega) (by omega) hk hn
  rw [rch_17] at this
  exact this.mono fun e w' ⟨he, q, hw⟩ => ⟨he, by rw [hw]; exact h.draw q⟩

theorem reach16 (k : Nat) (l : List Int) (w wr : World) (ao : Option Addr) (cap : Nat) (u : Value) (R : List Rn) (h : Rsr w wr l ao cap u R) (hk : k < l.length) (hn : l.length ≤ 1048576) :
    Calls Tryz.prog 75 #[.int .i64 16, .slice ao l.length cap, .int .i64 k] wr fun e w' => e = .returned (.int .i64 (n16 l k : Nat)) ∧ Rsr w w' l ao cap u R := by
  have := reach_any 16 k _ l wr h.si h.tab (by omega) (by omega) hk hn
  rw [rch_16 hk] at this
  exact this.mono fun e w' ⟨he, q, hw⟩ => ⟨he, by rw [hw]; exact h.draw q⟩

theorem Rsr.more {w wr w3 : World} {l : List Int} {ao : Option Addr} {cap : Nat} {u u3 : Value} {R : List Rn} {p : Rn} {o : Obj} (h : Rsr w wr l ao cap u R) (h0 : SI w (.slice ao l.length cap) l) (t0 : Tab w) (ho : OR w3 w.heap.size u3 (R ++ [p])) (hg : (wr.alloc o).grownBy w3 u.ownBlock) : Rsr w w3 l ao cap u3 (R ++ [p]) := by
  have hb := grow_run h.bel (Nat.le_refl _) h.row hg
  exact ⟨h0.below hb, t0.mono hb, ho, hb⟩

theorem n18_le {l : List Int} {k : Nat} : n18 l k ≤ 138 := by unfold n18; omega
theorem n17_le {l : List Int} {k : Nat} : n17 l k ≤ 10 := by unfold n17; omega
theorem n16_le {l : List Int} {k : Nat} : n16 l k ≤ 6 := by unfold n16; split <;> omega

/-- What one run more means. -/
theorem rns_more {l : List Int} {k c : Nat} {R : List Rn} {p1 : Int} (hk : k < l.length) (hR : rns l = R ++ rnK l k) (hl : R.length ≤ k) (hp : run1 l k = (p1, (c : Int))) : k + c ≤ l.length ∧ 1 ≤ c ∧ c ≤ 138 ∧ rns l = (R ++ [(p1, (c : Int))]) ++ rnK l (k + c) ∧ (R ++ [(p1, (c : Int))]).length ≤ k + c := by
  obtain ⟨c', e, c1, c2, c3⟩ := run1_cnt hk
  rw [hp] at e
  have : c = c' := by simp only at e; omega
  subst this
  refine ⟨c2, c1, c3, ?_, by rw [List.length_append]; simp; omega⟩
  rw [hR, rnK_step hk (by rw [hp]), hp, List.append_assoc]
  rfl

theorem ix0 : ∀ w : World, (Instr.index 112 (.agg #[.int .i64 18, .int .i64 17, .int .i64 16]) (.int .i64 0)).run Tryz.prog w = .ok (.int .i64 18) w := fun _ => by kernel_rfl
theorem ix1 : ∀ w : World, (Instr.index 112 (.agg #[.int .i64 18, .int .i64 17, .int .i64 16]) (.int .i64 1)).run Tryz.prog w = .ok (.int .i64 17) w := fun _ => by kernel_rfl
theorem ix2 : ∀ w : World, (Instr.index 112 (.agg #[.int .i64 18, .int .i64 17, .int .i64 16]) (.int .i64 2)).run Tryz.prog w = .ok (.int .i64 16) w := fun _ => by kernel_rfl

set_option maxHeartbeats 4000000 in
theorem runs_any (v : Value) (l : List Int) (w : World) (h : SI w v l) (T : Tab w) (hn : l.length ≤ 1048576) :
    Calls Tryz.prog 54 #[v] w fun e w' => ∃ u, e = .returned (.tuple #[u, .int .i64 (rnE l)]) ∧ OR w' w.heap.size u (rnL l) ∧ Below w.heap.size w w' := by
  have HS := hide h
  have HT := hide T
  have i0 := ix0
  have i1 := ix1
  have i2 := ix2
  obtain ⟨ao, cap, rfl, hlc, hcm⟩ := h.open
  clear h T
  go_enter Tryz.func54, Tryz.ntmps54
  go_wp2_with fail
  go_step3
  go_wp2_with fail
  refine (codeLengths_any _ l w HS.out).mono ?_
  rintro e w1 ⟨rfl, hw1⟩
  subst hw1
  by_cases hw : wthb l = true
  · have HE : Hid (rnE l = 0 ∧ rnL l = rns l) := ⟨by unfold rnE; rw [if_pos hw], by unfold rnL; rw [if_pos hw]⟩
    rw [hw]
    go_wp2
    go_step3
    go_wp2
    go_loopw [4, 5] (fun u i wr => ∃ (k : Nat) (R : List Rn), k ≤ l.length ∧ i = .int .i64 k ∧ R.length ≤ k ∧ Hid (rns l = R ++ rnK l k) ∧ Hid (Rsr w1 wr l ao cap u R)) (fun _ i _ => l.length - (intOf i).toNat)
    case atStart => exact ⟨0, [], Nat.zero_le _, rfl, Nat.le_refl _, rfl, HS.out, HT.out, OR.nil _ _, Below.refl _ _⟩
    case round =>
      obtain ⟨k, R, hk, rfl, hR, HR, HST⟩ := hrel
      by_cases hlt : k < l.length
      · have hlt' : (k : Int) < (l.length : Int) := by omega
        obtain ⟨pA, pB, pC, pD⟩ := run_pick hlt
        obtain ⟨a1, p1, hu, _⟩ := HST.out.row.shape
        subst hu
        have H18 := hide (fun wr h => reach18 k l w1 wr ao cap (.slice a1 R.length p1) R h hlt hn)
        have H17 := hide (fun wr h => reach17 k l w1 wr ao cap (.slice a1 R.length p1) R h hlt hn)
        have H16 := hide (fun wr h => reach16 k l w1 wr ao cap (.slice a1 R.length p1) R h hlt hn)
        have b18 := n18_le (l := l) (k := k)
        have b17 := n17_le (l := l) (k := k)
        have b16 := n16_le (l := l) (k := k)
        obtain ⟨N18, hN18⟩ : ∃ N, N = n18 l k := ⟨_, rfl⟩
        obtain ⟨N17, hN17⟩ : ∃ N, N = n17 l k := ⟨_, rfl⟩
        obtain ⟨N16, hN16⟩ : ∃ N, N = n16 l k := ⟨_, rfl⟩
        rw [← hN18] at H18 pA pB pC pD b18
        rw [← hN17] at H17 pB pC pD b17
        rw [← hN16] at H16 pC pD b16
        clear hN18 hN17 hN16
        by_cases hA : 11 ≤ N18
        · obtain ⟨hm1, hm2, hm3, hm4, hm5⟩ := rns_more hlt HR.out hR (pA hA)
          have HM4 := hide hm4
          clear pA pB pC pD hm4 HR
          go_wp2
          refine wp_loop_rounds 4 ?_
          rw [rounds_succ]
          go_wp2_with fail
          refine (H18.out _ HST.out).mono ?_
          rintro e w18 ⟨rfl, hs18⟩
          replace HST := hide hs18
          obtain ⟨c18, c17, c16⟩ := hs18.cells
          clear hs18
          have HOR := hide HST.out.row
          have hbw := HST.out.bel.size
          go_wp2_with (at_builtin; refine wpRun rfl _ _ rfl w1.heap.size (.slice a1 R.length p1) R 18 (N18 : Int) rfl HOR.out _ rfl (by omega) hbw ?_)
          intro v3 w3 ho3 hg3
          have HN3 := hide (HST.out.more HS.out HT.out ho3 hg3)
          clear ho3 hg3
          go_wp2
          go_roundw
          case rel => exact ⟨k + N18, _, hm1, by go_num, hm5, HM4, HN3⟩
          case measure => simp [intOf]; omega
        · by_cases hB : 3 ≤ N17
          · obtain ⟨hm1, hm2, hm3, hm4, hm5⟩ := rns_more hlt HR.out hR (pB (by omega) hB)
            have HM4 := hide hm4
            clear pA pB pC pD hm4 HR
            go_wp2
            refine wp_loop_rounds 4 ?_
            rw [rounds_succ]
            go_wp2_with fail
            refine (H18.out _ HST.out).mono ?_
            rintro e w18 ⟨rfl, hs18⟩
            replace HST := hide hs18
            obtain ⟨c18, c17, c16⟩ := hs18.cells
            clear hs18
            go_wp2
            rw [rounds_succ]
            go_wp2_with fail
            refine (H17.out _ HST.out).mono ?_
            rintro e w17 ⟨rfl, hs17⟩
            replace HST := hide hs17
            obtain ⟨c18, c17, c16⟩ := hs17.cells
            clear hs17
            have HOR := hide HST.out.row
            have hbw := HST.out.bel.size
            go_wp2_with (at_builtin; refine wpRun rfl _ _ rfl w1.heap.size (.slice a1 R.length p1) R 17 (N17 : Int) rfl HOR.out _ rfl (by omega) hbw ?_)
            intro v3 w3 ho3 hg3
            have HN3 := hide (HST.out.more HS.out HT.out ho3 hg3)
            clear ho3 hg3
            go_wp2
            go_roundw
            case rel => exact ⟨k + N17, _, hm1, by go_num, hm5, HM4, HN3⟩
            case measure => simp [intOf]; omega
          · by_cases hC : 3 ≤ N16
            · obtain ⟨hm1, hm2, hm3, hm4, hm5⟩ := rns_more hlt HR.out hR (pC (by omega) (by omega) hC)
              have HM4 := hide hm4
              clear pA pB pC pD hm4 HR
              go_wp2
              refine wp_loop_rounds 4 ?_
              rw [rounds_succ]
              go_wp2_with fail
              refine (H18.out _ HST.out).mono ?_
              rintro e w18 ⟨rfl, hs18⟩
              replace HST := hide hs18
              obtain ⟨c18, c17, c16⟩ := hs18.cells
              clear hs18
              go_wp2
              rw [rounds_succ]
              go_wp2_with fail
              refine (H17.out _ HST.out).mono ?_
              rintro e w17 ⟨rfl, hs17⟩
              replace HST := hide hs17
              obtain ⟨c18, c17, c16⟩ := hs17.cells
              clear hs17
              go_wp2
              rw [rounds_succ]
              go_wp2_with fail
              refine (H16.out _ HST.out).mono ?_
              rintro e w16 ⟨rfl, hs16⟩
              replace HST := hide hs16
              obtain ⟨c18, c17, c16⟩ := hs16.cells
              clear hs16
              have HOR := hide HST.out.row
              have hbw := HST.out.bel.size
              go_wp2_with (at_builtin; refine wpRun rfl _ _ rfl w1.heap.size (.slice a1 R.length p1) R 16 (N16 : Int) rfl HOR.out _ rfl (by omega) hbw ?_)
              intro v3 w3 ho3 hg3
              have HN3 := hide (HST.out.more HS.out HT.out ho3 hg3)
              clear ho3 hg3
              go_wp2
              go_roundw
              case rel => exact ⟨k + N16, _, hm1, by go_num, hm5, HM4, HN3⟩
              case measure => simp [intOf]; omega
            · obtain ⟨b, o, rfl, hc⟩ := HS.out.get HST.out.bel hlt
              obtain ⟨hm1, hm2, hm3, hm4, hm5⟩ := rns_more (c := 1) hlt HR.out hR (pD (by omega) (by omega) (by omega))
              obtain ⟨y, HY⟩ : ∃ y, Hid (y = l.getD k 0) := ⟨_, rfl⟩
              rw [← HY.out] at hm4 hm5
              have HM4 := hide hm4
              clear pA pB pC pD hm4 HR hc
              go_wp2
              refine wp_loop_rounds 4 ?_
              rw [rounds_succ]
              go_wp2_with fail
              refine (H18.out _ HST.out).mono ?_
              rintro e w18 ⟨rfl, hs18⟩
              replace HST := hide hs18
              obtain ⟨c18, c17, c16⟩ := hs18.cells
              clear hs18
              go_wp2
              rw [rounds_succ]
              go_wp2_with fail
              refine (H17.out _ HST.out).mono ?_
              rintro e w17 ⟨rfl, hs17⟩
              replace HST := hide hs17
              obtain ⟨c18, c17, c16⟩ := hs17.cells
              clear hs17
              go_wp2
              rw [rounds_succ]
              go_wp2_with fail
              refine (H16.out _ HST.out).mono ?_
              rintro e w16 ⟨rfl, hs16⟩
              replace HST := hide hs16
              obtain ⟨c18, c17, c16⟩ := hs16.cells
              clear hs16
              go_wp2
              rw [rounds_succ]
              obtain ⟨b', o', hbo, hc⟩ := HS.out.get HST.out.bel hlt
              simp only [Option.some.injEq, Addr.mk.injEq, and_true] at hbo
              obtain ⟨rfl, rfl⟩ := hbo
              rw [← HY.out] at hc
              have HOR := hide HST.out.row
              have hbw := HST.out.bel.size
              go_wp2_with (at_builtin; refine wpRun rfl _ _ rfl w1.heap.size (.slice a1 R.length p1) R y 1 rfl HOR.out _ rfl (by omega) hbw ?_)
              intro v3 w3 ho3 hg3
              have HN3 := hide (HST.out.more HS.out HT.out ho3 hg3)
              clear ho3 hg3
              go_wp2
              go_roundw
              case rel => exact ⟨k + 1, _, hm1, by go_num, hm5, HM4, HN3⟩
              case measure => simp [intOf]; omega
      · obtain rfl : k = l.length := by omega
        have hlt' : ¬ (l.length : Int) < (l.length : Int) := by omega
        have HF : Hid (OR wr w1.heap.size u4 (rnL l)) := by
          have := HR.out
          rw [rnK_end (Nat.le_refl _), List.append_nil] at this
          show OR _ _ _ _
          rw [HE.out.2, this]
          exact HST.out.row
        go_wp2
        go_ret2
        rw [HE.out.1]
        exact ⟨_, rfl, HF.out, HST.out.bel⟩
  · have HE : Hid (rnE l = 1 ∧ rnL l = []) := ⟨by unfold rnE; rw [if_neg hw], by unfold rnL; rw [if_neg hw]⟩
    have hw' : wthb l = false := by simpa using hw
    rw [hw']
    go_wp2
    (try simp only [Exit.noGoto_ret])
    go_ret2
    rw [HE.out.1, HE.out.2]
    exact ⟨_, rfl, OR.nil _ _, Below.refl _ _⟩
end Go.Proofs.YthngagciiidppaaGreatDoor

namespace Go.Proofs.YthngagciiidppaaGreatDoor
open Go.RowKit Go.Maps
set_option maxRecDepth 20000
set_option linter.unusedVariables false

/-- What Make answers. -/
def mkL (l : List Int) : List Int := trm l 257
def mkD (d : List Int) : List Int := trm d 1
def mkE (l d : List Int) : Int := if 286 < l.length ∨ 30 < d.length ∨ wthb l = false ∨ wthb d = false then 1 else hck (mkL l) (mkD d)
def mkR (l d : List Int) : List Rn := rns (mkL l ++ mkD d)
def mkC (l d : List Int) : List Int := lmt (usg (mkR l d)) 7
def mkZ (l d : List Int) : Int := hsz (mkC l d) (mkR l d)

theorem usg_sound {R : List Rn} (h : R.length ≤ 1048576) : Sound (usg R) := by
  refine ⟨by rw [usg_len]; omega, fun i hi => ?_⟩
  rw [usg_len] at hi
  have := usg_le R i hi
  omega

theorem usg_us (R : List Rn) : (us6 (usg R)).length ≤ 2 ^ 7 := by
  have := usk_len (usg R) (usg R).length
  rw [usg_len] at this
  show (usk (usg R) (usg R).length).length ≤ 128
  rw [usg_len]
  omega

theorem usg_lm {R : List Rn} (h : R.length ≤ 1048576) : lmE (usg R) 7 = 0 ∧ lmL (usg R) 7 = lmt (usg R) 7 := by
  have hb : bnb (usg R) 4294967296 = true := bnb_iff.2 (usg_sound h).ok
  have h0 : lmE (usg R) 7 = 0 := by
    unfold lmE
    rw [if_neg (by rw [usg_len]; omega), if_neg (by rw [hb]; decide), if_neg (by have := usg_us R; show ¬ 2 ^ 7 < _; omega)]
  refine ⟨h0, ?_⟩
  unfold lmL
  rw [if_pos h0]
  rfl

theorem lmt7 {R : List Rn} (h : R.length ≤ 1048576) : (lmt (usg R) 7).length = 19 ∧ ∀ s, 0 ≤ (lmt (usg R) 7).getD s 0 ∧ (lmt (usg R) 7).getD s 0 ≤ 7 := by
  have g := gd_lmt (usg_sound h) (L := 7) (by omega) (usg_us R)
  have hl : (lmt (usg R) 7).length = 19 := by rw [lmt_len, usg_len]
  refine ⟨hl, fun s => ?_⟩
  by_cases hs : s < 19
  · by_cases z : (usg R).getD s 0 = 0
    · rw [g.zero s (by rw [usg_len]; exact hs) z]; omega
    · have := usg_le R s hs
      have := g.ok s (mem_us.2 ⟨by rw [usg_len]; exact hs, by omega⟩)
      omega
  · rw [show (lmt (usg R) 7).getD s 0 = 0 by rw [List.getD_eq_getElem?_getD, List.getElem?_eq_none (by omega)]; rfl]; omega

theorem trm_lens {l : List Int} {f : Nat} (hl : l.length ≤ 286) (hf : f ≤ 257) : f ≤ (trm l f).length ∧ (trm l f).length ≤ max l.length f := by
  rw [trm_len]
  have := tln_le l f
  omega

def Hbox (w : World) (g : Nat) (a b c d e : Value) : Prop := w.heap[g]? = some (.cells #[a, b, c, d, e] 50 (0, 0))

theorem Hbox.cells {w : World} {g : Nat} {a b c d e : Value} (h : Hbox w g a b c d e) : w.cell? ⟨g, 0, none⟩ = some a ∧ w.cell? ⟨g, 1, none⟩ = some b ∧ w.cell? ⟨g, 2, none⟩ = some c ∧ w.cell? ⟨g, 3, none⟩ = some d ∧ w.cell? ⟨g, 4, none⟩ = some e := by
  unfold Hbox at h
  refine ⟨?_, ?_, ?_, ?_, ?_⟩ <;> (unfold World.cell?; rw [h]; rfl)
theorem Hbox.frozen {w : World} {g : Nat} {a b c d e : Value} (h : Hbox w g a b c d e) : w.frozen? ⟨g, 0, none⟩ = false ∧ w.frozen? ⟨g, 1, none⟩ = false ∧ w.frozen? ⟨g, 2, none⟩ = false ∧ w.frozen? ⟨g, 3, none⟩ = false ∧ w.frozen? ⟨g, 4, none⟩ = false := by
  unfold Hbox at h
  refine ⟨?_, ?_, ?_, ?_, ?_⟩ <;> (unfold World.frozen?; rw [h]; rfl)
theorem Hbox.lt {w : World} {g : Nat} {a b c d e : Value} (h : Hbox w g a b c d e) : g < w.heap.size := by
  rcases Nat.lt_or_ge g w.heap.size with q | q
  · exact q
  · unfold Hbox at h; rw [Array.getElem?_eq_none q] at h; cases h
theorem Hbox.below {w w' : World} {g : Nat} {a b c d e : Value} (h : Hbox w g a b c d e) (hb : Below w.heap.size w w') : Hbox w' g a b c d e := (hb.block g h.lt).trans h
theorem Hbox.set {w : World} {g : Nat} {a b c d e : Value} (h : Hbox w g a b c d e) (v : Value) : Hbox (w.setCell ⟨g, 2, none⟩ v) g a b v d e ∧ Hbox (w.setCell ⟨g, 3, none⟩ v) g a b c v e ∧ Hbox (w.setCell ⟨g, 4, none⟩ v) g a b c d v := by
  refine ⟨?_, ?_, ?_⟩ <;> (unfold Hbox; rw [heap_setCell_at _ h]; rfl)
theorem Hbox.put {w : World} {g : Nat} {a b c d e a' b' c' d' e' : Value} (h : Hbox w g a b c d e) : Hbox (((((w.setCell ⟨g, 0, none⟩ a').setCell ⟨g, 1, none⟩ b').setCell ⟨g, 2, none⟩ c').setCell ⟨g, 3, none⟩ d').setCell ⟨g, 4, none⟩ e') g a' b' c' d' e' := by
  have h0 := heap_setCell_at (k := 0) a' h
  have h1 := heap_setCell_at (k := 1) b' h0
  have h2 := heap_setCell_at (k := 2) c' h1
  have h3 := heap_setCell_at (k := 3) d' h2
  exact (heap_setCell_at (k := 4) e' h3).trans rfl

theorem put_below {w w0 : World} {g B : Nat} {a' b' c' d' e' : Value} (h : Below B w0 w) (hB : B ≤ g) : Below B w0 (((((w.setCell ⟨g, 0, none⟩ a').setCell ⟨g, 1, none⟩ b').setCell ⟨g, 2, none⟩ c').setCell ⟨g, 3, none⟩ d').setCell ⟨g, 4, none⟩ e') :=
  ((((h.setCell (p := ⟨g, 0, none⟩) hB _).setCell (p := ⟨g, 1, none⟩) hB _).setCell (p := ⟨g, 2, none⟩) hB _).setCell (p := ⟨g, 3, none⟩) hB _).setCell (p := ⟨g, 4, none⟩) hB _

/-- The header that Make answers, in memory. -/
structure Mkd (w : World) (B : Nat) (vL vD vC vR : Value) (L D C : List Int) (R : List Rn) : Prop where
  l : OI w B vL L
  d : OI w B vD D
  c : OI w B vC C
  r : OR w B vR R

theorem Mkd.below {w w' : World} {B : Nat} {vL vD vC vR : Value} {L D C : List Int} {R : List Rn} (h : Mkd w B vL vD vC vR L D C R) (hb : Below w.heap.size w w') : Mkd w' B vL vD vC vR L D C R :=
  ⟨h.l.below hb (Nat.le_refl _), h.d.below hb (Nat.le_refl _), h.c.below hb (Nat.le_refl _), h.r.below hb (Nat.le_refl _)⟩
end Go.Proofs.YthngagciiidppaaGreatDoor

namespace Go.Proofs.YthngagciiidppaaGreatDoor
open Go.RowKit Go.Maps
set_option maxRecDepth 20000
set_option linter.unusedVariables false

theorem oi_set {w : World} {B g o : Nat} {v a b c d e u : Value} {l : List Int} (h : OI w B v l) (hx : Hbox w g a b c d e) : OI (w.setCell ⟨g, o, none⟩ u) B v l := by
  refine h.move fun k hk => setCell_others w g o u k (fun e => ?_)
  subst e
  rcases h.2 with ⟨rfl, _⟩ | ⟨g', cap, cur, rfl, _, hg', _⟩
  · simp [Value.ownBlock] at hk
  · simp only [Value.ownBlock, Option.some.injEq] at hk
    subst hk
    unfold Hbox at hx
    rw [hg'] at hx
    simp at hx
theorem or_set {w : World} {B g o : Nat} {v a b c d e u : Value} {R : List Rn} (h : OR w B v R) (hx : Hbox w g a b c d e) : OR (w.setCell ⟨g, o, none⟩ u) B v R := by
  refine rown_move h fun k hk => setCell_others w g o u k (fun e => ?_)
  subst e
  rcases h.2 with ⟨rfl, _⟩ | ⟨g', cap, cur, rfl, _, hg', _⟩
  · simp [Value.ownBlock] at hk
  · simp only [Value.ownBlock, Option.some.injEq] at hk
    subst hk
    unfold Hbox at hx
    rw [hg'] at hx
    simp at hx

theorem hb_set {w : World} {g g2 o : Nat} {a b c d e u : Value} (h : Hbox w g a b c d e) (hne : g ≠ g2) : Hbox (w.setCell ⟨g2, o, none⟩ u) g a b c d e := (setCell_others w g2 o u g hne).trans h

theorem put_other {w : World} {g k : Nat} {a b c d e : Value} (h : k ≠ g) : (((((w.setCell ⟨g, 0, none⟩ a).setCell ⟨g, 1, none⟩ b).setCell ⟨g, 2, none⟩ c).setCell ⟨g, 3, none⟩ d).setCell ⟨g, 4, none⟩ e).heap[k]? = w.heap[k]? := by
  rw [setCell_others _ g _ _ k h, setCell_others _ g _ _ k h, setCell_others _ g _ _ k h, setCell_others _ g _ _ k h, setCell_others _ g _ _ k h]

theorem oi_apart7 {w : World} {B g : Nat} {v a b c d e : Value} {l : List Int} (h : OI w B v l) (hx : Hbox w g a b c d e) : ∀ k, v.ownBlock = some k → k ≠ g := by
  intro k hk e
  subst e
  rcases h.2 with ⟨rfl, _⟩ | ⟨g', cap, cur, rfl, _, hg', _⟩
  · simp [Value.ownBlock] at hk
  · simp only [Value.ownBlock, Option.some.injEq] at hk
    subst hk
    unfold Hbox at hx
    rw [hg'] at hx
    simp at hx
theorem or_apart7 {w : World} {B g : Nat} {v a b c d e : Value} {R : List Rn} (h : OR w B v R) (hx : Hbox w g a b c d e) : ∀ k, v.ownBlock = some k → k ≠ g := by
  intro k hk e
  subst e
  rcases h.2 with ⟨rfl, _⟩ | ⟨g', cap, cur, rfl, _, hg', _⟩
  · simp [Value.ownBlock] at hk
  · simp only [Value.ownBlock, Option.some.injEq] at hk
    subst hk
    unfold Hbox at hx
    rw [hg'] at hx
    simp at hx

def nilv : Value := .slice none 0 0

/-- Make answers its error, and nothing. -/
def MkNo (e : Int) (x : Ending) : Prop := x = .returned (.tuple #[.agg #[.slice none 0 0, .slice none 0 0, .slice none 0 0, .slice none 0 0, .int .i64 0], .int .i64 e])
/-- Make answers the header. -/
def MkYes (w w' : World) (l d : List Int) (x : Ending) : Prop := ∃ vL vD vC vR, x = .returned (.tuple #[.agg #[vL, vD, vC, vR, .int .i64 (mkZ l d)], .int .i64 0]) ∧ Mkd w' w.heap.size vL vD vC vR (mkL l) (mkD d) (mkC l d) (mkR l d)

set_option maxHeartbeats 1000000 in
theorem make_any (v1 v2 : Value) (l d : List Int) (w : World) (s1 : SI w v1 l) (s2 : SI w v2 d) (T : Tab w) (O : Odr w) :
    Calls Tryz.prog 31 #[v1, v2] w fun e w' => ((mkE l d ≠ 0 ∧ MkNo (mkE l d) e) ∨ (mkE l d = 0 ∧ MkYes w w' l d e)) ∧ Below w.heap.size w w' := by
  have H1 := hide s1
  have H2 := hide s2
  have HT := hide T
  have HO := hide O
  obtain ⟨a1, c1, rfl, hc1, hd1⟩ := s1.open
  obtain ⟨a2, c2, rfl, hc2, hd2⟩ := s2.open
  clear s1 s2 T O
  obtain ⟨wb, hwb⟩ : ∃ wb, w.alloc (.cells #[.slice none 0 0, .slice none 0 0, .slice none 0 0, .slice none 0 0, .int .i64 0] 50) = wb := ⟨_, rfl⟩
  have hb0 : Below w.heap.size w wb := by rw [← hwb]; exact (Below.refl _ _).alloc (Nat.le_refl _) _
  have hx0 : Hbox wb w.heap.size (.slice none 0 0) (.slice none 0 0) (.slice none 0 0) (.slice none 0 0) (.int .i64 0) := by rw [← hwb]; exact heap_alloc_new w _
  have HB0 := hide hb0
  have HX0 := hide hx0
  have HWB := hide hwb
  have HCL1 := hide (codeLengths_any _ l wb (H1.out.below hb0))
  have HCL2 := hide (codeLengths_any _ d wb (H2.out.below hb0))
  obtain ⟨p0, p1, p2, p3, p4⟩ := hx0.cells
  obtain ⟨q0, q1, q2, q3, q4⟩ := hx0.frozen
  clear hwb hb0 hx0
  by_cases hbad : 286 < l.length ∨ 30 < d.length ∨ wthb l = false ∨ wthb d = false
  · have HE : Hid (mkE l d = 1) := by show _ = _; unfold mkE; rw [if_pos hbad]
    have HNE : Hid (mkE l d ≠ 0) := by show _ ≠ _; rw [HE.out]; decide
    by_cases g1 : 286 < l.length
    · have g1' : (286 : Int) < (l.length : Int) := by omega
      clear hbad
      go_enter Tryz.func31, Tryz.ntmps31
      go_wp2
      rw [HWB.out]
      refine bodyPost_ret (v := .tuple #[.agg #[.slice none 0 0, .slice none 0 0, .slice none 0 0, .slice none 0 0, .int .i64 0], .int .i64 1]) (by simp [results, Tryz.results31, go_sem, p0, p1, p2, p3, p4]) rfl ?_
      exact ⟨.inl ⟨HNE.out, by unfold MkNo; rw [HE.out]⟩, HB0.out⟩
    · have g1' : ¬ (286 : Int) < (l.length : Int) := by omega
      by_cases g2 : 30 < d.length
      · have g2' : (30 : Int) < (d.length : Int) := by omega
        clear hbad
        go_enter Tryz.func31, Tryz.ntmps31
        go_wp2
        rw [HWB.out]
        refine bodyPost_ret (v := .tuple #[.agg #[.slice none 0 0, .slice none 0 0, .slice none 0 0, .slice none 0 0, .int .i64 0], .int .i64 1]) (by simp [results, Tryz.results31, go_sem, p0, p1, p2, p3, p4]) rfl ?_
        exact ⟨.inl ⟨HNE.out, by unfold MkNo; rw [HE.out]⟩, HB0.out⟩
      · have g2' : ¬ (30 : Int) < (d.length : Int) := by omega
        by_cases g3 : wthb l = false
        · clear hbad
          rw [g3] at HCL1
          go_enter Tryz.func31, Tryz.ntmps31
          go_wp2_with fail
          rw [HWB.out]
          refine HCL1.out.mono ?_
          rintro e w1 ⟨rfl, hw1⟩
          rw [hw1]
          clear hw1
          go_wp2
          obtain ⟨wf, hwf⟩ : ∃ wf, (((((wb.setCell ⟨w.heap.size, 0, none⟩ (.slice none 0 0)).setCell ⟨w.heap.size, 1, none⟩ (.slice none 0 0)).setCell ⟨w.heap.size, 2, none⟩ (.slice none 0 0)).setCell ⟨w.heap.size, 3, none⟩ (.slice none 0 0)).setCell ⟨w.heap.size, 4, none⟩ (.int .i64 0)) = wf := ⟨_, rfl⟩
          have hfx : Hbox wf w.heap.size (.slice none 0 0) (.slice none 0 0) (.slice none 0 0) (.slice none 0 0) (.int .i64 0) := by rw [← hwf]; exact HX0.out.put
          have hfb : Below w.heap.size w wf := by rw [← hwf]; exact put_below HB0.out (Nat.le_refl _)
          rw [hwf]
          obtain ⟨f0, f1, f2, f3, f4⟩ := hfx.cells
          refine bodyPost_ret (v := .tuple #[.agg #[.slice none 0 0, .slice none 0 0, .slice none 0 0, .slice none 0 0, .int .i64 0], .int .i64 1]) (by simp [results, Tryz.results31, go_sem, f0, f1, f2, f3, f4]) rfl ?_
          exact ⟨.inl ⟨HNE.out, by unfold MkNo; rw [HE.out]⟩, hfb⟩
        · have g3' : wthb l = true := by simpa using g3
          have g4 : wthb d = false := by
            rcases hbad with h | h | h | h
            · exact absurd h g1
            · exact absurd h g2
            · exact absurd h g3
            · exact h
          clear hbad
          rw [g3'] at HCL1
          rw [g4] at HCL2
          go_enter Tryz.func31, Tryz.ntmps31
          go_wp2_with fail
          rw [HWB.out]
          refine HCL1.out.mono ?_
          rintro e w1 ⟨rfl, hw1⟩
          rw [hw1]
          clear hw1
          go_wp2_with fail
          refine HCL2.out.mono ?_
          rintro e w1 ⟨rfl, hw1⟩
          rw [hw1]
          clear hw1
          go_wp2
          obtain ⟨wf, hwf⟩ : ∃ wf, (((((wb.setCell ⟨w.heap.size, 0, none⟩ (.slice none 0 0)).setCell ⟨w.heap.size, 1, none⟩ (.slice none 0 0)).setCell ⟨w.heap.size, 2, none⟩ (.slice none 0 0)).setCell ⟨w.heap.size, 3, none⟩ (.slice none 0 0)).setCell ⟨w.heap.size, 4, none⟩ (.int .i64 0)) = wf := ⟨_, rfl⟩
          have hfx : Hbox wf w.heap.size (.slice none 0 0) (.slice none 0 0) (.slice none 0 0) (.slice none 0 0) (.int .i64 0) := by rw [← hwf]; exact HX0.out.put
          have hfb : Below w.heap.size w wf := by rw [← hwf]; exact put_below HB0.out (Nat.le_refl _)
          rw [hwf]
          obtain ⟨f0, f1, f2, f3, f4⟩ := hfx.cells
          refine bodyPost_ret (v := .tuple #[.agg #[.slice none 0 0, .slice none 0 0, .slice none 0 0, .slice none 0 0, .int .i64 0], .int .i64 1]) (by simp [results, Tryz.results31, go_sem, f0, f1, f2, f3, f4]) rfl ?_
          exact ⟨.inl ⟨HNE.out, by unfold MkNo; rw [HE.out]⟩, hfb⟩
  · have g1 : ¬ (286 : Int) < (l.length : Int) := by omega
    have g2 : ¬ (30 : Int) < (d.length : Int) := by omega
    have g3 : wthb l = true := by
      cases q : wthb l with
      | true => rfl
      | false => exact absurd (.inr (.inr (.inl q))) hbad
    have g4 : wthb d = true := by
      cases q : wthb d with
      | true => rfl
      | false => exact absurd (.inr (.inr (.inr q))) hbad
    have HMK : Hid (mkE l d = hck (mkL l) (mkD d)) := by show _ = _; unfold mkE; rw [if_neg hbad]
    have hl1 : l.length ≤ 286 := by omega
    have hl2 : d.length ≤ 30 := by omega
    have hLl := trm_lens (l := l) (f := 257) hl1 (by omega)
    have hDl := trm_lens (l := d) (f := 1) (by omega) (by omega)
    have HLA := hide (trm_all l 257 (wth_iff.1 g3))
    have HDA := hide (trm_all d 1 (wth_iff.1 g4))
    have HT1 := hide (trimmed_any _ l 257 wb (H1.out.below HB0.out) (by omega) (by omega))
    rw [g3] at HCL1
    rw [g4] at HCL2
    obtain ⟨L, HLL⟩ : ∃ L, Hid (L = mkL l) := ⟨_, rfl⟩
    obtain ⟨D, HDD⟩ : ∃ D, Hid (D = mkD d) := ⟨_, rfl⟩
    have eL : trm l 257 = L := HLL.out.symm
    have eD : trm d 1 = D := HDD.out.symm
    rw [eL] at HT1 HLA hLl
    rw [eD] at HDA hDl
    rw [← HLL.out, ← HDD.out] at HMK
    have hL1 : 257 ≤ L.length := hLl.1
    have hL2 : L.length ≤ 286 := by omega
    have hD1 : 1 ≤ D.length := hDl.1
    have hD2 : D.length ≤ 30 := by omega
    have HED := hide eD
    clear hbad g3 g4 hLl hDl eL eD
    go_enter Tryz.func31, Tryz.ntmps31
    go_wp2_with fail
    rw [HWB.out]
    refine HCL1.out.mono ?_
    rintro e w1 ⟨rfl, hw1⟩
    rw [hw1]
    clear hw1
    go_wp2_with fail
    refine HCL2.out.mono ?_
    rintro e w1 ⟨rfl, hw1⟩
    rw [hw1]
    clear hw1
    go_wp2_with fail
    refine HT1.out.mono ?_
    rintro e w2 ⟨gL, rfl, oL, b2⟩
    have HOL := hide oL
    have HB2 := hide (HB0.out.trans (b2.mono HB0.out.size))
    have HX2 := hide (HX0.out.below b2)
    have HT2 := hide (trimmed_any _ d 1 w2 (H2.out.below HB2.out) (by omega) (by omega))
    rw [HED.out] at HT2
    clear oL b2
    go_wp2_with fail
    refine HT2.out.mono ?_
    rintro e w3 ⟨gD, rfl, oD, b3⟩
    have HB3 := hide (HB2.out.trans (b3.mono HB2.out.size))
    have HX3 := hide (HX2.out.below b3)
    have hbw3 : w.heap.size ≤ w2.heap.size := HB2.out.size
    have HOL3 := hide ((HOL.out.below b3 (Nat.le_refl _)).base HB0.out.size)
    have HOD3 := hide (oD.base hbw3)
    clear oD b3
    obtain ⟨wx, hwx⟩ : ∃ wx, w3.alloc (.cells #[.slice (some ⟨gL, 0, none⟩) L.length L.length, .slice (some ⟨gD, 0, none⟩) D.length D.length, .slice none 0 0, .slice none 0 0, .int .i64 0] 50) = wx := ⟨_, rfl⟩
    have bx3 : Below w3.heap.size w3 wx := by rw [← hwx]; exact (Below.refl _ _).alloc (Nat.le_refl _) _
    have hbx : Hbox wx w3.heap.size (.slice (some ⟨gL, 0, none⟩) L.length L.length) (.slice (some ⟨gD, 0, none⟩) D.length D.length) (.slice none 0 0) (.slice none 0 0) (.int .i64 0) := by rw [← hwx]; exact heap_alloc_new w3 _
    obtain ⟨x0, x1, x2, x3, x4⟩ := hbx.cells
    have HBX := hide hbx
    have HB4 := hide (HB3.out.trans (bx3.mono HB3.out.size))
    have HX4 := hide (HX3.out.below bx3)
    have HOL4 := hide (HOL3.out.below bx3 (Nat.le_refl _))
    have HOD4 := hide (HOD3.out.below bx3 (Nat.le_refl _))
    have HCK := hide (hcheck_any _ _ L D wx HOL4.out.sb HOD4.out.sb hL1)
    obtain ⟨E, HEE⟩ : ∃ E, Hid (E = hck L D) := ⟨_, rfl⟩
    rw [← HEE.out] at HCK HMK
    have HSB := hide HB3.out.size
    have HWX := hide hwx
    clear hbx bx3 hwx
    go_wp2_with fail
    rw [HWX.out]
    refine HCK.out.mono ?_
    rintro e w5 ⟨rfl, b5⟩
    have HB5 := hide (HB4.out.trans (b5.mono HB4.out.size))
    have HX5 := hide (HX4.out.below b5)
    have HBX5 := hide (HBX.out.below b5)
    have HOL5 := hide (HOL4.out.below b5 (Nat.le_refl _))
    have HOD5 := hide (HOD4.out.below b5 (Nat.le_refl _))
    clear b5 x0 x1 x2 x3 x4
    by_cases e0 : E = 0
    · have HE : Hid (mkE l d = 0) := by show _ = _; rw [HMK.out]; exact e0
      obtain ⟨x0, x1, x2, x3, x4⟩ := HBX5.out.cells
      obtain ⟨wy, hwy⟩ : ∃ wy, w5.alloc (.cells #[(.slice (some ⟨gL, 0, none⟩) L.length L.length), (.slice (some ⟨gD, 0, none⟩) D.length D.length)] 36) = wy := ⟨_, rfl⟩
      have by5 : Below w5.heap.size w5 wy := by rw [← hwy]; exact (Below.refl _ _).alloc (Nat.le_refl _) _
      have hgy : wy.heap[w5.heap.size]? = some (.cells #[(.slice (some ⟨gL, 0, none⟩) L.length L.length), (.slice (some ⟨gD, 0, none⟩) D.length D.length)] 36 (0, 0)) := by rw [← hwy]; exact heap_alloc_new w5 _
      have HCC := hide (concat_any w5.heap.size _ _ L D wy hgy (HOL5.out.below by5 (Nat.le_refl _)).sb (HOD5.out.below by5 (Nat.le_refl _)).sb (by omega) (by omega))
      have HB6 := hide (HB5.out.trans (by5.mono HB5.out.size))
      have HX6 := hide (HX5.out.below by5)
      have HBX6 := hide (HBX5.out.below by5)
      have HOL6 := hide (HOL5.out.below by5 (Nat.le_refl _))
      have HOD6 := hide (HOD5.out.below by5 (Nat.le_refl _))
      have HWY := hide hwy
      obtain ⟨J, HJ⟩ : ∃ J, Hid (J = L ++ D) := ⟨_, rfl⟩
      rw [← HJ.out] at HCC
      clear hwy by5 hgy
      subst e0
      go_wp2_with fail
      rw [HWY.out]
      refine HCC.out.mono ?_
      rintro e w6 ⟨aC, cC, rfl, o6, b6⟩
      have HO6 := hide o6
      have HB7 := hide (HB6.out.trans (b6.mono HB6.out.size))
      have HX7 := hide (HX6.out.below b6)
      have HBX7 := hide (HBX6.out.below b6)
      have HOL7 := hide (HOL6.out.below b6 (Nat.le_refl _))
      have HOD7 := hide (HOD6.out.below b6 (Nat.le_refl _))
      have HLDL : Hid (J.length ≤ 316) := by show _ ≤ _; rw [HJ.out, List.length_append]; omega
      have HALL : Hid (∀ x ∈ J, 0 ≤ x ∧ x ≤ 15) := fun x hx => by
        rw [HJ.out] at hx
        rcases List.mem_append.1 hx with q | q
        · exact HLA.out x q
        · exact HDA.out x q
      have HRN := hide (runs_any _ J w6 o6.sb (HT.out.mono HB7.out) (by have := HLDL.out; omega))
      have ew : wthb J = true := wth_iff.2 HALL.out
      have er : rnE J = 0 ∧ rnL J = rns J := ⟨by unfold rnE; rw [if_pos ew], by unfold rnL; rw [if_pos ew]⟩
      rw [er.1, er.2] at HRN
      obtain ⟨R, HRR⟩ : ∃ R, Hid (R = rns J) := ⟨_, rfl⟩
      have HROK : Hid (∀ r ∈ R, Okr r) := by rw [HRR.out]; exact hide (rns_ok HALL.out)
      have hRl : R.length ≤ 316 := by rw [HRR.out]; have := rns_len J; have := HLDL.out; omega
      rw [← HRR.out] at HRN
      clear o6 b6 ew er
      go_wp2_with fail
      refine HRN.out.mono ?_
      rintro e w7 ⟨vR, rfl, o7, b7⟩
      obtain ⟨aR, cR, hvR, hr1, hr2⟩ := o7.shape
      subst hvR
      have HB8 := hide (HB7.out.trans (b7.mono HB7.out.size))
      have HX8 := hide (HX7.out.below b7)
      have HBX8 := hide (HBX7.out.below b7)
      have HOL8 := hide (HOL7.out.below b7 (Nat.le_refl _))
      have HOD8 := hide (HOD7.out.below b7 (Nat.le_refl _))
      have HOR8 := hide (o7.base HB7.out.size)
      obtain ⟨y0, y1, y2, y3, y4⟩ := HBX8.out.cells
      obtain ⟨z0, z1, z2, z3, z4⟩ := HBX8.out.frozen
      have HNX : Hid (w.heap.size ≠ w3.heap.size) := by
        intro e
        have h1 := HX3.out.lt
        omega
      obtain ⟨w8, hw8⟩ : ∃ w8, w7.setCell ⟨w3.heap.size, 3, none⟩ (.slice aR R.length cR) = w8 := ⟨_, rfl⟩
      have HB9 : Hid (Below w.heap.size w w8) := by rw [← hw8]; exact hide (HB8.out.setCell (p := ⟨w3.heap.size, 3, none⟩) HSB.out _)
      have HX9 : Hid (Hbox w8 w.heap.size (.slice none 0 0) (.slice none 0 0) (.slice none 0 0) (.slice none 0 0) (.int .i64 0)) := by rw [← hw8]; exact hide (hb_set HX8.out HNX.out)
      have HBX9 : Hid (Hbox w8 w3.heap.size (.slice (some ⟨gL, 0, none⟩) L.length L.length) (.slice (some ⟨gD, 0, none⟩) D.length D.length) (.slice none 0 0) (.slice aR R.length cR) (.int .i64 0)) := by rw [← hw8]; exact hide (HBX8.out.set _).2.1
      have HOL9 : Hid (OI w8 w.heap.size (.slice (some ⟨gL, 0, none⟩) L.length L.length) L) := by rw [← hw8]; exact hide (oi_set HOL8.out HBX8.out)
      have HOD9 : Hid (OI w8 w.heap.size (.slice (some ⟨gD, 0, none⟩) D.length D.length) D) := by rw [← hw8]; exact hide (oi_set HOD8.out HBX8.out)
      have HOR9 : Hid (OR w8 w.heap.size (.slice aR R.length cR) R) := by rw [← hw8]; exact hide (or_set HOR8.out HBX8.out)
      have HUS := hide (huses_any _ R w8 HOR9.out.sr HROK.out (by omega))
      have HW8 := hide hw8
      clear o7 b7 hw8 x0 x1 x2 x3 x4
      go_wp2_with fail
      rw [HW8.out]
      refine HUS.out.mono ?_
      rintro e w9 ⟨gU, rfl, o9, b9⟩
      have HBA := hide (HB9.out.trans (b9.mono HB9.out.size))
      have HXA := hide (HX9.out.below b9)
      have HBXA := hide (HBX9.out.below b9)
      have HOLA := hide (HOL9.out.below b9 (Nat.le_refl _))
      have HODA := hide (HOD9.out.below b9 (Nat.le_refl _))
      have HORA := hide (HOR9.out.below b9 (Nat.le_refl _))
      have HLM := hide (limited_any _ (usg R) 7 w9 o9.sb (fun k hk => (o9.lt k hk).2) (by omega))
      obtain ⟨u1, u2⟩ := usg_lm (R := R) (by omega)
      obtain ⟨t1, t2⟩ := lmt7 (R := R) (by omega)
      rw [u1, u2, t1] at HLM
      obtain ⟨C, HCC2⟩ : ∃ C, Hid (C = lmt (usg R) 7) := ⟨_, rfl⟩
      rw [← HCC2.out] at HLM t1 t2
      have HC19 := hide t1
      have HCB := hide t2
      clear o9 b9 u1 u2 t1 t2 y0 y1 y2 y3 y4 z0 z1 z2 z3 z4
      go_wp2_with fail
      refine HLM.out.mono ?_
      rintro e w10 ⟨aK, cK, rfl, oK, bK⟩
      have HBB := hide (HBA.out.trans (bK.mono HBA.out.size))
      have HXB := hide (HXA.out.below bK)
      have HBXB := hide (HBXA.out.below bK)
      have HOLB := hide (HOLA.out.below bK (Nat.le_refl _))
      have HODB := hide (HODA.out.below bK (Nat.le_refl _))
      have HORB := hide (HORA.out.below bK (Nat.le_refl _))
      have HOCB := hide (oK.base HBA.out.size)
      obtain ⟨y0, y1, y2, y3, y4⟩ := HBXB.out.cells
      obtain ⟨z0, z1, z2, z3, z4⟩ := HBXB.out.frozen
      obtain ⟨w11, hw11⟩ : ∃ w11, w10.setCell ⟨w3.heap.size, 2, none⟩ (.slice aK 19 cK) = w11 := ⟨_, rfl⟩
      have HBC : Hid (Below w.heap.size w w11) := by rw [← hw11]; exact hide (HBB.out.setCell (p := ⟨w3.heap.size, 2, none⟩) HSB.out _)
      have HXC : Hid (Hbox w11 w.heap.size (.slice none 0 0) (.slice none 0 0) (.slice none 0 0) (.slice none 0 0) (.int .i64 0)) := by rw [← hw11]; exact hide (hb_set HXB.out HNX.out)
      have HBXC : Hid (Hbox w11 w3.heap.size (.slice (some ⟨gL, 0, none⟩) L.length L.length) (.slice (some ⟨gD, 0, none⟩) D.length D.length) (.slice aK 19 cK) (.slice aR R.length cR) (.int .i64 0)) := by rw [← hw11]; exact hide (HBXB.out.set _).1
      have HOLC : Hid (OI w11 w.heap.size (.slice (some ⟨gL, 0, none⟩) L.length L.length) L) := by rw [← hw11]; exact hide (oi_set HOLB.out HBXB.out)
      have HODC : Hid (OI w11 w.heap.size (.slice (some ⟨gD, 0, none⟩) D.length D.length) D) := by rw [← hw11]; exact hide (oi_set HODB.out HBXB.out)
      have HORC : Hid (OR w11 w.heap.size (.slice aR R.length cR) R) := by rw [← hw11]; exact hide (or_set HORB.out HBXB.out)
      have HOCC : Hid (OI w11 w.heap.size (.slice aK 19 cK) C) := by rw [← hw11]; exact hide (oi_set HOCB.out HBXB.out)
      have HSZ := hide (hsize_any (.slice (some ⟨gL, 0, none⟩) L.length L.length) (.slice (some ⟨gD, 0, none⟩) D.length D.length) (.slice aK 19 cK) (.slice aR R.length cR) C R w11 rfl rfl HOCC.out.sb HORC.out.sr (HT.out.mono HBC.out) (HO.out.mono HBC.out) HC19.out (fun s => by have := HCB.out s; omega) HROK.out (by omega))
      have HW11 := hide hw11
      clear oK bK hw11
      go_wp2_with fail
      rw [HW11.out]
      refine HSZ.out.mono ?_
      rintro e w12 ⟨rfl, b12⟩
      obtain ⟨S, HSS⟩ : ∃ S, Hid (S = hsz C R) := ⟨_, rfl⟩
      rw [← HSS.out]
      have HBD := hide (HBC.out.trans (b12.mono HBC.out.size))
      have HXD := hide (HXC.out.below b12)
      have HBXD := hide (HBXC.out.below b12)
      have HOLD := hide (HOLC.out.below b12 (Nat.le_refl _))
      have HODD := hide (HODC.out.below b12 (Nat.le_refl _))
      have HORD := hide (HORC.out.below b12 (Nat.le_refl _))
      have HOCD := hide (HOCC.out.below b12 (Nat.le_refl _))
      clear b12 y0 y1 y2 y3 y4 z0 z1 z2 z3 z4
      obtain ⟨y0, y1, y2, y3, y4⟩ := HBXD.out.cells
      obtain ⟨z0, z1, z2, z3, z4⟩ := HBXD.out.frozen
      obtain ⟨w13, hw13⟩ : ∃ w13, w12.setCell ⟨w3.heap.size, 4, none⟩ (.int .i64 S) = w13 := ⟨_, rfl⟩
      have HBE : Hid (Below w.heap.size w w13) := by rw [← hw13]; exact hide (HBD.out.setCell (p := ⟨w3.heap.size, 4, none⟩) HSB.out _)
      have HXE : Hid (Hbox w13 w.heap.size (.slice none 0 0) (.slice none 0 0) (.slice none 0 0) (.slice none 0 0) (.int .i64 0)) := by rw [← hw13]; exact hide (hb_set HXD.out HNX.out)
      have HBXE : Hid (Hbox w13 w3.heap.size (.slice (some ⟨gL, 0, none⟩) L.length L.length) (.slice (some ⟨gD, 0, none⟩) D.length D.length) (.slice aK 19 cK) (.slice aR R.length cR) (.int .i64 S)) := by rw [← hw13]; exact hide (HBXD.out.set _).2.2
      have HOLE : Hid (OI w13 w.heap.size (.slice (some ⟨gL, 0, none⟩) L.length L.length) L) := by rw [← hw13]; exact hide (oi_set HOLD.out HBXD.out)
      have HODE : Hid (OI w13 w.heap.size (.slice (some ⟨gD, 0, none⟩) D.length D.length) D) := by rw [← hw13]; exact hide (oi_set HODD.out HBXD.out)
      have HORE : Hid (OR w13 w.heap.size (.slice aR R.length cR) R) := by rw [← hw13]; exact hide (or_set HORD.out HBXD.out)
      have HOCE : Hid (OI w13 w.heap.size (.slice aK 19 cK) C) := by rw [← hw13]; exact hide (oi_set HOCD.out HBXD.out)
      obtain ⟨m0, m1, m2, m3, m4⟩ := HBXE.out.cells
      obtain ⟨n0, n1, n2, n3, n4⟩ := HXE.out.cells
      obtain ⟨o0, o1, o2, o3, o4⟩ := HXE.out.frozen
      go_wp2
      have HZZ : Hid (mkZ l d = S ∧ mkL l = L ∧ mkD d = D ∧ mkC l d = C ∧ mkR l d = R) := by
        have hR : mkR l d = R := by unfold mkR; rw [← HLL.out, ← HDD.out, ← HJ.out, HRR.out]
        have hC : mkC l d = C := by unfold mkC; rw [hR, HCC2.out]
        exact ⟨by unfold mkZ; rw [hC, hR, HSS.out], HLL.out.symm, HDD.out.symm, hC, hR⟩
      obtain ⟨wf, hwf⟩ : ∃ wf, (((((w13.setCell ⟨w.heap.size, 0, none⟩ (.slice (some ⟨gL, 0, none⟩) L.length L.length)).setCell ⟨w.heap.size, 1, none⟩ (.slice (some ⟨gD, 0, none⟩) D.length D.length)).setCell ⟨w.heap.size, 2, none⟩ (.slice aK 19 cK)).setCell ⟨w.heap.size, 3, none⟩ (.slice aR R.length cR)).setCell ⟨w.heap.size, 4, none⟩ (.int .i64 S)) = wf := ⟨_, rfl⟩
      have hfx : Hbox wf w.heap.size (.slice (some ⟨gL, 0, none⟩) L.length L.length) (.slice (some ⟨gD, 0, none⟩) D.length D.length) (.slice aK 19 cK) (.slice aR R.length cR) (.int .i64 S) := by rw [← hwf]; exact HXE.out.put
      have hfb : Below w.heap.size w wf := by rw [← hwf]; exact put_below HBE.out (Nat.le_refl _)
      have hoth : ∀ k, k ≠ w.heap.size → wf.heap[k]? = w13.heap[k]? := fun k hk => by rw [← hwf]; exact put_other hk
      have hmk : Mkd wf w.heap.size (.slice (some ⟨gL, 0, none⟩) L.length L.length) (.slice (some ⟨gD, 0, none⟩) D.length D.length) (.slice aK 19 cK) (.slice aR R.length cR) L D C R :=
        ⟨HOLE.out.move fun k hk => hoth k (oi_apart7 HOLE.out HXE.out k hk), HODE.out.move fun k hk => hoth k (oi_apart7 HODE.out HXE.out k hk), HOCE.out.move fun k hk => hoth k (oi_apart7 HOCE.out HXE.out k hk), rown_move HORE.out fun k hk => hoth k (or_apart7 HORE.out HXE.out k hk)⟩
      rw [hwf]
      obtain ⟨f0, f1, f2, f3, f4⟩ := hfx.cells
      refine bodyPost_ret (v := .tuple #[.agg #[(.slice (some ⟨gL, 0, none⟩) L.length L.length), (.slice (some ⟨gD, 0, none⟩) D.length D.length), .slice aK 19 cK, .slice aR R.length cR, .int .i64 S], .int .i64 0]) (by simp [results, Tryz.results31, go_sem, f0, f1, f2, f3, f4]) rfl ?_
      refine ⟨.inr ⟨HE.out, (.slice (some ⟨gL, 0, none⟩) L.length L.length), (.slice (some ⟨gD, 0, none⟩) D.length D.length), .slice aK 19 cK, .slice aR R.length cR, ?_, ?_⟩, hfb⟩
      · rw [HZZ.out.1]
      · rw [HZZ.out.2.1, HZZ.out.2.2.1, HZZ.out.2.2.2.1, HZZ.out.2.2.2.2]
        exact hmk
    · have HE : Hid (mkE l d = E) := HMK.out
      have HNE : Hid (mkE l d ≠ 0) := by show _ ≠ _; rw [HE.out]; exact e0
      have e0' : (E != 0) = true := by simpa using e0
      obtain ⟨r0, r1, r2, r3, r4⟩ := HX5.out.cells
      obtain ⟨t0, t1, t2, t3, t4⟩ := HX5.out.frozen
      clear p0 p1 p2 p3 p4 q0 q1 q2 q3 q4
      go_wp2
      obtain ⟨wf, hwf⟩ : ∃ wf, (((((w5.setCell ⟨w.heap.size, 0, none⟩ (.slice none 0 0)).setCell ⟨w.heap.size, 1, none⟩ (.slice none 0 0)).setCell ⟨w.heap.size, 2, none⟩ (.slice none 0 0)).setCell ⟨w.heap.size, 3, none⟩ (.slice none 0 0)).setCell ⟨w.heap.size, 4, none⟩ (.int .i64 0)) = wf := ⟨_, rfl⟩
      have hfx : Hbox wf w.heap.size (.slice none 0 0) (.slice none 0 0) (.slice none 0 0) (.slice none 0 0) (.int .i64 0) := by rw [← hwf]; exact HX5.out.put
      have hfb : Below w.heap.size w wf := by rw [← hwf]; exact put_below HB5.out (Nat.le_refl _)
      rw [hwf]
      obtain ⟨f0, f1, f2, f3, f4⟩ := hfx.cells
      refine bodyPost_ret (v := .tuple #[.agg #[.slice none 0 0, .slice none 0 0, .slice none 0 0, .slice none 0 0, .int .i64 0], .int .i64 E]) (by simp [results, Tryz.results31, go_sem, f0, f1, f2, f3, f4]) rfl ?_
      exact ⟨.inl ⟨HNE.out, by unfold MkNo; rw [HE.out]⟩, hfb⟩
end Go.Proofs.YthngagciiidppaaGreatDoor

