import Derived.Test.YtiabhmdefaabgabDoorGRw2
import Derived.WalkMore
namespace Go.Proofs.YtiabhmdefaabgabDoor
open Go.RowKit Go.Maps
set_option maxRecDepth 20000
set_option linter.unusedVariables false

/-- What a round of Runs stands on. -/
structure Rsr (w wr : World) (l : List Int) (ao : Option Addr) (cap : Nat) (u : Value) (R : List Rn) : Prop where
  si : SI wr (.slice ao l.length cap) l
  tab : Tab wr
  row : OR wr w.heap.size u R
  bel : Below w.heap.size w wr

theorem Rsr.draw {w wr : World} {l : List Int} {ao : Option Addr} {cap : Nat} {u : Value} {R : List Rn} (h : Rsr w wr l ao cap u R) (q : Nat) : Rsr w (wr.drewN q) l ao cap u R :=
  ⟨h.si, h.tab.drewN q, h.row.drewN q, below_drewN h.bel q⟩

theorem Rsr.cells {w wr : World} {l : List Int} {ao : Option Addr} {cap : Nat} {u : Value} {R : List Rn} (h : Rsr w wr l ao cap u R) : wr.cell? ⟨0, 18, none⟩ = some (.int .i64 11) ∧ wr.cell? ⟨0, 17, none⟩ = some (.int .i64 3) ∧ wr.cell? ⟨0, 16, none⟩ = some (.int .i64 3) :=
  ⟨h.tab.least 18 (by omega), h.tab.least 17 (by omega), h.tab.least 16 (by omega)⟩

theorem reach18 (k : Nat) (l : List Int) (w wr : World) (ao : Option Addr) (cap : Nat) (u : Value) (R : List Rn) (h : Rsr w wr l ao cap u R) (hk : k < l.length) (hn : l.length ≤ 1048576) :
    Calls Tryd.prog 60 #[.int .i64 18, .slice ao l.length cap, .int .i64 k] wr fun e w' => e = .returned (.int .i64 (n18 l k : Nat)) ∧ Rsr w w' l ao cap u R := by
  have := reach_any 18 k _ l wr h.si h.tab (by omega) (by omega) hk hn
  rw [rch_18] at this
  exact this.mono fun e w' ⟨he, q, hw⟩ => ⟨he, by rw [hw]; exact h.draw q⟩

theorem reach17 (k : Nat) (l : List Int) (w wr : World) (ao : Option Addr) (cap : Nat) (u : Value) (R : List Rn) (h : Rsr w wr l ao cap u R) (hk : k < l.length) (hn : l.length ≤ 1048576) :
    Calls Tryd.prog 60 #[.int .i64 17, .slice ao l.length cap, .int .i64 k] wr fun e w' => e = .returned (.int .i64 (n17 l k : Nat)) ∧ Rsr w w' l ao cap u R := by
  have := reach_any 17 k _ l wr h.si h.tab (by omega) (by omega) hk hn
  rw [rch_17] at this
  exact this.mono fun e w' ⟨he, q, hw⟩ => ⟨he, by rw [hw]; exact h.draw q⟩

theorem reach16 (k : Nat) (l : List Int) (w wr : World) (ao : Option Addr) (cap : Nat) (u : Value) (R : List Rn) (h : Rsr w wr l ao cap u R) (hk : k < l.length) (hn : l.length ≤ 1048576) :
    Calls Tryd.prog 60 #[.int .i64 16, .slice ao l.length cap, .int .i64 k] wr fun e w' => e = .returned (.int .i64 (n16 l k : Nat)) ∧ Rsr w w' l ao cap u R := by
  have := reach_any 16 k _ l wr h.si h.tab (by omega) (by omega) hk hn
  rw [rch_16 hk] at this
  exact this.mono fun e w' ⟨he, q, hw⟩ => ⟨he, by rw [hw]; exact h.draw q⟩

theorem Rsr.more {w wr w3 : World} {l : List Int} {ao : Option Addr} {cap : Nat} {u u3 : Value} {R : List Rn} {p : Rn} {o : Obj} (h : Rsr w wr l ao cap u R) (h0 : SI w (.slice ao l.length cap) l) (t0 : Tab w) (ho : OR w3 w.heap.size u3 (R ++ [p])) (hg : (wr.alloc o).grownBy w3 u.ownBlock) : Rsr w w3 l ao cap u3 (R ++ [p]) := by
  have hb := grow_run h.bel (Nat.le_refl _) h.row hg
  exact ⟨h0.below hb, t0.mono hb, ho, hb⟩

theorem n18_le {l : List Int} {k : Nat} : n18 l k ≤ 138 := by unfold n18; omega
theorem n17_le {l : List Int} {k : Nat} : n17 l k ≤ 10 := by unfold n17; omega
theorem n16_le {l : List Int} {k : Nat} : n16 l k ≤ 6 := by unfold n16; split <;> omega

/-- What one run more means. -/
theorem rns_more {l : List Int} {k c : Nat} {R : List Rn} {p1 : Int} (hk : k < l.length) (hR : rns l = R ++ rnK l k) (hl : R.length ≤ k) (hp : run1 l k = (p1, (c : Int))) : k + c ≤ l.length ∧ 1 ≤ c ∧ c ≤ 138 ∧ rns l = (R ++ [(p1, (c : Int))]) ++ rnK l (k + c) ∧ (R ++ [(p1, (c : Int))]).length ≤ k + c := by
  obtain ⟨c', e, c1, c2, c3⟩ := run1_cnt hk
  rw [hp] at e
  have : c = c' := by simp only at e; omega
  subst this
  refine ⟨c2, c1, c3, ?_, by rw [List.length_append]; simp; omega⟩
  rw [hR, rnK_step hk (by rw [hp]), hp, List.append_assoc]
  rfl

theorem ix0 : ∀ w : World, (Instr.index 96 (.agg #[.int .i64 18, .int .i64 17, .int .i64 16]) (.int .i64 0)).run Tryd.prog w = .ok (.int .i64 18) w := fun _ => by kernel_rfl
theorem ix1 : ∀ w : World, (Instr.index 96 (.agg #[.int .i64 18, .int .i64 17, .int .i64 16]) (.int .i64 1)).run Tryd.prog w = .ok (.int .i64 17) w := fun _ => by kernel_rfl
theorem ix2 : ∀ w : World, (Instr.index 96 (.agg #[.int .i64 18, .int .i64 17, .int .i64 16]) (.int .i64 2)).run Tryd.prog w = .ok (.int .i64 16) w := fun _ => by kernel_rfl

set_option maxHeartbeats 4000000 in
theorem runs_any (v : Value) (l : List Int) (w : World) (h : SI w v l) (T : Tab w) (hn : l.length ≤ 1048576) :
    Calls Tryd.prog 34 #[v] w fun e w' => ∃ u, e = .returned (.tuple #[u, .int .i64 (rnE l)]) ∧ OR w' w.heap.size u (rnL l) ∧ Below w.heap.size w w' := by
  have HS := hide h
  have HT := hide T
  have i0 := ix0
  have i1 := ix1
  have i2 := ix2
  obtain ⟨ao, cap, rfl, hlc, hcm⟩ := h.open
  clear h T
  go_enter Tryd.func34, Tryd.ntmps34
  go_wp2_with fail
  go_step3
  go_wp2_with fail
  refine (codeLengths_any _ l w HS.out).mono ?_
  rintro e w1 ⟨rfl, hw1⟩
  subst hw1
  by_cases hw : wthb l = true
  · have HE : Hid (rnE l = 0 ∧ rnL l = rns l) := ⟨by unfold rnE; rw [if_pos hw], by unfold rnL; rw [if_pos hw]⟩
    rw [hw]
    go_wp2
    go_step3
    go_wp2
    go_loopw [4, 5] (fun u i wr => ∃ (k : Nat) (R : List Rn), k ≤ l.length ∧ i = .int .i64 k ∧ R.length ≤ k ∧ Hid (rns l = R ++ rnK l k) ∧ Hid (Rsr w1 wr l ao cap u R)) (fun _ i _ => l.length - (intOf i).toNat)
    case atStart => exact ⟨0, [], Nat.zero_le _, rfl, Nat.le_refl _, rfl, HS.out, HT.out, OR.nil _ _, Below.refl _ _⟩
    case round =>
      obtain ⟨k, R, hk, rfl, hR, HR, HST⟩ := hrel
      by_cases hlt : k < l.length
      · have hlt' : (k : Int) < (l.length : Int) := by omega
        obtain ⟨pA, pB, pC, pD⟩ := run_pick hlt
        obtain ⟨a1, p1, hu, _⟩ := HST.out.row.shape
        subst hu
        have H18 := hide (fun wr h => reach18 k l w1 wr ao cap (.slice a1 R.length p1) R h hlt hn)
        have H17 := hide (fun wr h => reach17 k l w1 wr ao cap (.slice a1 R.length p1) R h hlt hn)
        have H16 := hide (fun wr h => reach16 k l w1 wr ao cap (.slice a1 R.length p1) R h hlt hn)
        have b18 := n18_le (l := l) (k := k)
        have b17 := n17_le (l := l) (k := k)
        have b16 := n16_le (l := l) (k := k)
        obtain ⟨N18, hN18⟩ : ∃ N, N = n18 l k := ⟨_, rfl⟩
        obtain ⟨N17, hN17⟩ : ∃ N, N = n17 l k := ⟨_, rfl⟩
        obtain ⟨N16, hN16⟩ : ∃ N, N = n16 l k := ⟨_, rfl⟩
        rw [← hN18] at H18 pA pB pC pD b18
        rw [← hN17] at H17 pB pC pD b17
        rw [← hN16] at H16 pC pD b16
        clear hN18 hN17 hN16
        by_cases hA : 11 ≤ N18
        · obtain ⟨hm1, hm2, hm3, hm4, hm5⟩ := rns_more hlt HR.out hR (pA hA)
          have HM4 := hide hm4
          clear pA pB pC pD hm4 HR
          go_wp2
          refine wp_loop_rounds 4 ?_
          rw [rounds_succ]
          go_wp2_with fail
          refine (H18.out _ HST.out).mono ?_
          rintro e w18 ⟨rfl, hs18⟩
          replace HST := hide hs18
          obtain ⟨c18, c17, c16⟩ := hs18.cells
          clear hs18
          have HOR := hide HST.out.row
          have hbw := HST.out.bel.size
          go_wp2_with (at_builtin; refine wpRun rfl _ _ rfl w1.heap.size (.slice a1 R.length p1) R 18 (N18 : Int) rfl HOR.out _ rfl (by omega) hbw ?_)
          intro v3 w3 ho3 hg3
          have HN3 := hide (HST.out.more HS.out HT.out ho3 hg3)
          clear ho3 hg3
          go_wp2
          go_roundw
          case rel => exact ⟨k + N18, _, hm1, by go_num, hm5, HM4, HN3⟩
          case measure => simp [intOf]; omega
        · by_cases hB : 3 ≤ N17
          · obtain ⟨hm1, hm2, hm3, hm4, hm5⟩ := rns_more hlt HR.out hR (pB (by omega) hB)
            have HM4 := hide hm4
            clear pA pB pC pD hm4 HR
            go_wp2
            refine wp_loop_rounds 4 ?_
            rw [rounds_succ]
            go_wp2_with fail
            refine (H18.out _ HST.out).mono ?_
            rintro e w18 ⟨rfl, hs18⟩
            replace HST := hide hs18
            obtain ⟨c18, c17, c16⟩ := hs18.cells
            clear hs18
            go_wp2
            rw [rounds_succ]
            go_wp2_with fail
            refine (H17.out _ HST.out).mono ?_
            rintro e w17 ⟨rfl, hs17⟩
            replace HST := hide hs17
            obtain ⟨c18, c17, c16⟩ := hs17.cells
            clear hs17
            have HOR := hide HST.out.row
            have hbw := HST.out.bel.size
            go_wp2_with (at_builtin; refine wpRun rfl _ _ rfl w1.heap.size (.slice a1 R.length p1) R 17 (N17 : Int) rfl HOR.out _ rfl (by omega) hbw ?_)
            intro v3 w3 ho3 hg3
            have HN3 := hide (HST.out.more HS.out HT.out ho3 hg3)
            clear ho3 hg3
            go_wp2
            go_roundw
            case rel => exact ⟨k + N17, _, hm1, by go_num, hm5, HM4, HN3⟩
            case measure => simp [intOf]; omega
          · by_cases hC : 3 ≤ N16
            · obtain ⟨hm1, hm2, hm3, hm4, hm5⟩ := rns_more hlt HR.out hR (pC (by omega) (by omega) hC)
              have HM4 := hide hm4
              clear pA pB pC pD hm4 HR
              go_wp2
              refine wp_loop_rounds 4 ?_
              rw [rounds_succ]
              go_wp2_with fail
              refine (H18.out _ HST.out).mono ?_
              rintro e w18 ⟨rfl, hs18⟩
              replace HST := hide hs18
              obtain ⟨c18, c17, c16⟩ := hs18.cells
              clear hs18
              go_wp2
              rw [rounds_succ]
              go_wp2_with fail
              refine (H17.out _ HST.out).mono ?_
              rintro e w17 ⟨rfl, hs17⟩
              replace HST := hide hs17
              obtain ⟨c18, c17, c16⟩ := hs17.cells
              clear hs17
              go_wp2
              rw [rounds_succ]
              go_wp2_with fail
              refine (H16.out _ HST.out).mono ?_
              rintro e w16 ⟨rfl, hs16⟩
              replace HST := hide hs16
              obtain ⟨c18, c17, c16⟩ := hs16.cells
              clear hs16
              have HOR := hide HST.out.row
              have hbw := HST.out.bel.size
              go_wp2_with (at_builtin; refine wpRun rfl _ _ rfl w1.heap.size (.slice a1 R.length p1) R 16 (N16 : Int) rfl HOR.out _ rfl (by omega) hbw ?_)
              intro v3 w3 ho3 hg3
              have HN3 := hide (HST.out.more HS.out HT.out ho3 hg3)
              clear ho3 hg3
              go_wp2
              go_roundw
              case rel => exact ⟨k + N16, _, hm1, by go_num, hm5, HM4, HN3⟩
              case measure => simp [intOf]; omega
            · obtain ⟨b, o, rfl, hc⟩ := HS.out.get HST.out.bel hlt
              obtain ⟨hm1, hm2, hm3, hm4, hm5⟩ := rns_more (c := 1) hlt HR.out hR (pD (by omega) (by omega) (by omega))
              obtain ⟨y, HY⟩ : ∃ y, Hid (y = l.getD k 0) := ⟨_, rfl⟩
              rw [← HY.out] at hm4 hm5
              have HM4 := hide hm4
              clear pA pB pC pD hm4 HR hc
              go_wp2
              refine wp_loop_rounds 4 ?_
              rw [rounds_succ]
              go_wp2_with fail
              refine (H18.out _ HST.out).mono ?_
              rintro e w18 ⟨rfl, hs18⟩
              replace HST := hide hs18
              obtain ⟨c18, c17, c16⟩ := hs18.cells
              clear hs18
              go_wp2
              rw [rounds_succ]
              go_wp2_with fail
              refine (H17.out _ HST.out).mono ?_
              rintro e w17 ⟨rfl, hs17⟩
              replace HST := hide hs17
              obtain ⟨c18, c17, c16⟩ := hs17.cells
              clear hs17
              go_wp2
              rw [rounds_succ]
              go_wp2_with fail
              refine (H16.out _ HST.out).mono ?_
              rintro e w16 ⟨rfl, hs16⟩
              replace HST := hide hs16
              obtain ⟨c18, c17, c16⟩ := hs16.cells
              clear hs16
              go_wp2
              rw [rounds_succ]
              obtain ⟨b', o', hbo, hc⟩ := HS.out.get HST.out.bel hlt
              simp only [Option.some.injEq, Addr.mk.injEq, and_true] at hbo
              obtain ⟨rfl, rfl⟩ := hbo
              rw [← HY.out] at hc
              have HOR := hide HST.out.row
              have hbw := HST.out.bel.size
              go_wp2_with (at_builtin; refine wpRun rfl _ _ rfl w1.heap.size (.slice a1 R.length p1) R y 1 rfl HOR.out _ rfl (by omega) hbw ?_)
              intro v3 w3 ho3 hg3
              have HN3 := hide (HST.out.more HS.out HT.out ho3 hg3)
              clear ho3 hg3
              go_wp2
              go_roundw
              case rel => exact ⟨k + 1, _, hm1, by go_num, hm5, HM4, HN3⟩
              case measure => simp [intOf]; omega
      · obtain rfl : k = l.length := by omega
        have hlt' : ¬ (l.length : Int) < (l.length : Int) := by omega
        have HF : Hid (OR wr w1.heap.size u4 (rnL l)) := by
          have := HR.out
          rw [rnK_end (Nat.le_refl _), List.append_nil] at this
          show OR _ _ _ _
          rw [HE.out.2, this]
          exact HST.out.row
        go_wp2
        go_ret2
        rw [HE.out.1]
        exact ⟨_, rfl, HF.out, HST.out.bel⟩
  · have HE : Hid (rnE l = 1 ∧ rnL l = []) := ⟨by unfold rnE; rw [if_neg hw], by unfold rnL; rw [if_neg hw]⟩
    have hw' : wthb l = false := by simpa using hw
    rw [hw']
    go_wp2
    (try simp only [Exit.noGoto_ret])
    go_ret2
    rw [HE.out.1, HE.out.2]
    exact ⟨_, rfl, OR.nil _ _, Below.refl _ _⟩
end Go.Proofs.YtiabhmdefaabgabDoor

