import Derived.Test.YtjhgjohnfkgleaaAgm
import Derived.Test.YtjhgjohnfkgleaaBtw
import Derived.Test.YtjhgjohnfkgleaaInr
import Derived.Test.YtjhgjohnfkgleaaOpenN
namespace Go.Proofs.Ytjhgjohnfkgleaa
open Go.RowKit Go.Shelf
attribute [local go_sem] Oper.semAt_some
set_option maxRecDepth 20000

theorem SI.nth' {w : World} {ao : Option Addr} {cap n : Nat} {l : List Int} (h : SI w (.slice ao n cap) l) {k : Nat} (hk : k < l.length) : ∃ b o, ao = some ⟨b, o, none⟩ ∧ w.cell? ⟨b, o + k, none⟩ = some (.int .i64 (l.getD k 0)) := h.cellAt (Below.refl _ _) hk

set_option maxHeartbeats 4000000 in
theorem again_walk (v1 v2 : Value) (l1 l2 : List Int) (w : World) (hs1 : SI w v1 l1) (hs2 : SI w v2 l2) (hn1 : l1.length ≤ 1048576) (hn2 : l2.length ≤ 1048576) :
    Calls Try.prog 7 #[v1, v2] w fun e w' => e = .returned (.bool true) ∧ Below w.heap.size w w' := by
  obtain ⟨a1, c1, rfl⟩ := hs1.len
  obtain ⟨a2, c2, rfl⟩ := hs2.len
  have HS1 := hide hs1
  have HS2 := hide hs2
  have HS0 : Hid (SI w (.slice none 0 0) []) := ⟨none, 0, rfl, Nat.le_refl _, Nat.zero_le _, fun _ => rfl, fun x hx => by cases hx⟩
  clear hs1 hs2
  obtain ⟨Kr, H1⟩ := (Herd.nil w).box (.cells #[.bool false] 4)
  obtain ⟨br, hbr⟩ : ∃ br, w.heap.size = br := ⟨_, rfl⟩
  obtain ⟨w1, hw1⟩ : ∃ w1, w.alloc (.cells #[.bool false] 4) = w1 := ⟨_, rfl⟩
  rw [hw1, hbr] at H1
  have HH1 := hide H1
  clear H1
  refine (callsIn_wide (n := 3)).1 ?_
  refine callsIn_of_wp_marks Try.func7 rfl trivial ?_ rfl
  simp only [Try.ntmps7, List.size_toArray, List.length_cons, List.length_nil, Nat.reduceAdd, Nat.reduceSub, Array.replicate_succ, Array.replicate_zero, List.push_toArray, List.append_toArray, List.nil_append, List.cons_append]
  refine wpIn_noPan ?_
  gi_wp2_with fail
  refine ⟨trivial, (callsIn_wide.2 (hnew HH1.out)).mono ?_⟩
  rintro e w2 ⟨g, K, rfl, H2⟩
  obtain ⟨KB, H3⟩ := H2.box (.cells #[.pointer (some ⟨g, 0, none⟩)] 46)
  obtain ⟨B, hB⟩ : ∃ B, w2.heap.size = B := ⟨_, rfl⟩
  rw [hB] at H3
  have HH3 := hide H3
  clear H2 H3 HH1 hw1 hbr
  have he := fun (w : World) (f : Fn) (x y : Array Value) => eqlFunc (P := Try.prog) w _ (Try.underlying49) f x y
  gi_wp2_with fail
  refine ⟨trivial, (callsIn_wide.2 (drain_any g _)).mono ?_⟩
  rintro e w3 ⟨rfl, hw3⟩
  have H3 := HH3.out
  rw [← hw3] at H3
  rw [hB]
  obtain ⟨Kl, H4⟩ := H3.box (.cells #[.slice a1 l1.length c1, .slice none 0 0, .slice a2 l2.length c2] 22)
  obtain ⟨bl, hbl⟩ : ∃ bl, w3.heap.size = bl := ⟨_, rfl⟩
  obtain ⟨w4, hw4⟩ : ∃ w4, w3.alloc (.cells #[.slice a1 l1.length c1, .slice none 0 0, .slice a2 l2.length c2] 22) = w4 := ⟨_, rfl⟩
  rw [hbl, hw4] at H4
  have HZ : Hid (Herd w w4 [(Kr, tb br (.cells #[.bool false] 4)), (K, tq g [] 0), (KB, tb B (.cells #[.pointer (some ⟨g, 0, none⟩)] 46)), (Kl, tb bl (.cells #[.slice a1 l1.length c1, .slice none 0 0, .slice a2 l2.length c2] 22))]) := H4
  clear H3 H4 HH3 hw3 hB
  gi_wp2
  clear hbl hw4
  refine wpIn_loop_rounds 4 ?_
  rw [roundsIn_succ]
  have cl0 : w4.cell? ⟨bl, 0, none⟩ = some (.slice a1 l1.length c1) := cellOf (HZ.out.at_tb 3 rfl) rfl
  obtain ⟨Kk0, Hk0⟩ := HZ.out.box (.cells #[.slice a1 l1.length c1] 22)
  obtain ⟨bk0, hbk⟩ : ∃ bk, w4.heap.size = bk := ⟨_, rfl⟩
  obtain ⟨wk0, hwk⟩ : ∃ wk, w4.alloc (.cells #[.slice a1 l1.length c1] 22) = wk := ⟨_, rfl⟩
  rw [hbk, hwk] at Hk0
  have HBK := hide hbk
  have HWK := hide hwk
  have hR0 := rorder_any (.slice a1 l1.length c1) l1 wk0 (HS1.out.below Hk0.bel) (by first | omega | (simp; done))
  have HHk0 := hide Hk0
  clear hbk hwk Hk0
  gi_wp2_with fail
  rw [HWK.out, HBK.out]
  refine ⟨trivial, (callsIn_wide.2 hR0).mono ?_⟩
  rintro e wo0 ⟨ap0, cp0, rfl, oo, bo⟩
  obtain ⟨Kp0, Ho⟩ := HHk0.out.list bo oo
  obtain ⟨Kb0, Hp⟩ := Ho.box (.cells #[.slice ap0 l1.length cp0] 22)
  obtain ⟨bpl0, hbp⟩ : ∃ b, wo0.heap.size = b := ⟨_, rfl⟩
  obtain ⟨wp0, hwp⟩ : ∃ b, wo0.alloc (.cells #[.slice ap0 l1.length cp0] 22) = b := ⟨_, rfl⟩
  rw [hbp, hwp] at Hp
  have HBP := hide hbp
  have HWP := hide hwp
  have HF : Hid (∃ Kq, Herd w wp0 ([(Kr, tb br (.cells #[.bool false] 4)), (Kq, tq g ((itsO 0 l1).take 0) (0 + 0)), (KB, tb B (.cells #[.pointer (some ⟨g, 0, none⟩)] 46)), (Kl, tb bl (.cells #[.slice a1 l1.length c1, .slice none 0 0, .slice a2 l2.length c2] 22))] ++ [] ++ [(Kk0, tb bk0 (.cells #[.slice a1 l1.length c1] 22)), (Kp0, tl (.slice ap0 l1.length cp0) (orderOf l1)), (Kb0, tb bpl0 (.cells #[.slice ap0 l1.length cp0] 22))])) := ⟨K, Hp⟩
  clear oo bo Ho Hp hbp hwp HHk0 HBK HWK hR0 cl0
  gi_wp2
  (try rw [HWP.out]); (try rw [HBP.out])
  clear HWP HBP
  gi_loopw [11] (fun i wr => ∃ k : Nat, i = .int .i64 k ∧ k ≤ l1.length ∧ Hid (∃ Kq, Herd w wr ([(Kr, tb br (.cells #[.bool false] 4)), (Kq, tq g ((itsO 0 l1).take k) (0 + k)), (KB, tb B (.cells #[.pointer (some ⟨g, 0, none⟩)] 46)), (Kl, tb bl (.cells #[.slice a1 l1.length c1, .slice none 0 0, .slice a2 l2.length c2] 22))] ++ [] ++ [(Kk0, tb bk0 (.cells #[.slice a1 l1.length c1] 22)), (Kp0, tl (.slice ap0 l1.length cp0) (orderOf l1)), (Kb0, tb bpl0 (.cells #[.slice ap0 l1.length cp0] 22))]))) (fun i _ => l1.length - (intOf i).toNat)
  case atStart => exact ⟨0, rfl, Nat.zero_le _, HF.out⟩
  case round =>
    obtain ⟨k, rfl, hk, HR⟩ := hrel
    obtain ⟨Kq, H⟩ := HR.out
    have dk : wr.cell? ⟨bk0, 0, none⟩ = some (.slice a1 l1.length c1) := cellOf (H.at_tb 4 rfl) rfl
    by_cases hlt : k < l1.length
    · have hlt' : (k : Int) < ((l1.length : Nat) : Int) := by omega
      have hlt2 : k < (l1).length := hlt
      obtain ⟨b, o, hab, hc⟩ := HS1.out.cellAt H.bel hlt2
      have HT := hide (itsO_take (z := 0) hlt2)
      obtain ⟨ky, hky⟩ : ∃ ky, (l1).getD k 0 = ky := ⟨_, rfl⟩
      rw [hky] at hc HT
      have HLN := hide (itsO_tlen 0 l1 (k := k) hk)
      have HH := hide H
      subst hab
      clear hky H HR HF
      gi_wp2_with fail
      refine ⟨trivial, (callsIn_wide.2 (hpush HH.out 1 rfl ky k (by have := HLN.out; omega) (by omega))).mono ?_⟩
      rintro e w2 ⟨rfl, K', H2⟩
      have HN : Hid (∃ Kq, Herd w w2 ([(Kr, tb br (.cells #[.bool false] 4)), (Kq, tq g ((itsO 0 l1).take (k + 1)) (0 + (k + 1))), (KB, tb B (.cells #[.pointer (some ⟨g, 0, none⟩)] 46)), (Kl, tb bl (.cells #[.slice (some ⟨b, o, none⟩) l1.length c1, .slice none 0 0, .slice a2 l2.length c2] 22))] ++ [] ++ [(Kk0, tb bk0 (.cells #[.slice (some ⟨b, o, none⟩) l1.length c1] 22)), (Kp0, tl (.slice ap0 l1.length cp0) (orderOf l1)), (Kb0, tb bpl0 (.cells #[.slice ap0 l1.length cp0] 22))])) := ⟨K', by rw [HT.out]; exact H2⟩
      clear H2
      gi_wp2
      go_roundw
      case rel => exact ⟨k + 1, by go_num, by omega, HN.out⟩
      case measure => simp [intOf]; omega
    · have hlt' : ¬ (k : Int) < ((l1.length : Nat) : Int) := by omega
      obtain rfl : k = l1.length := by omega
      obtain ⟨Ka0, H5⟩ := H.box (.cells #[.int .i64 0] 3)
      obtain ⟨ba0, hba⟩ : ∃ b, wr.heap.size = b := ⟨_, rfl⟩
      obtain ⟨wz0, hwz⟩ : ∃ b, wr.alloc (.cells #[.int .i64 0] 3) = b := ⟨_, rfl⟩
      rw [hba, hwz] at H5
      have HH5 := hide H5
      have HW5 := hide hwz
      have HBT := hide hba
      clear H5 hba hwz H HR HF hk hlt
      gi_wp2_with fail
      rw [HW5.out, HBT.out]
      clear HW5 HBT dk
      refine wp_range (α := Int × Int) l1.length rfl (by decide) (gf := 38) (lb := #[.pointer (some ⟨B, 0, none⟩)]) rfl trivial (enters_of Try.func38 (by kernel_rfl) rfl)
        (encs := fun x => #[.int .i64 x.1, .int .i64 x.2]) (fun _ => rfl) (fun m => InH w wz0.heap.size (wz0.heap.size + 1) (AgI br g B bl (.cells #[.slice a1 l1.length c1, .slice none 0 0, .slice a2 l2.length c2] 22) [] bk0 (.slice a1 l1.length c1) bpl0 (.slice ap0 l1.length cp0) l1 ba0 (0 + l1.length) m)) (fun m x => InH w wz0.heap.size (wz0.heap.size + 1) (AgY br g B bl (.cells #[.slice a1 l1.length c1, .slice none 0 0, .slice a2 l2.length c2] 22) [] bk0 (.slice a1 l1.length c1) bpl0 (.slice ap0 l1.length cp0) l1 ba0 (0 + l1.length) m x)) (InH w wz0.heap.size (wz0.heap.size + 1) (AgE br g B bl (.cells #[.slice a1 l1.length c1, .slice none 0 0, .slice a2 l2.length c2] 22) [] bk0 (.slice a1 l1.length c1) bpl0 (.slice ap0 l1.length cp0) l1 ba0 (0 + l1.length))) (fun _ _ _ => False)
        (fun _ => InH.rec _ _ _ _) (fun _ _ => InH.rec _ _ _ _) (InH.rec _ _ _ _) (fun _ => ⟨fun _ _ h => h.elim, fun _ _ _ h => h.elim⟩) ?start0 ?seq0 ?a10 ?assign0 ?body0 ?done0 ?stop0
      case start0 =>
        intro o
        refine InH.start HH5.out ⟨_, _, _, _, _, _, _, _, _, 0, rfl, ?_, ?_⟩ o
        · exact (itsO_tlen 0 l1 (Nat.le_refl _)).symm
        · have := Left'.start 0 l1
          rw [← itsO_all 0 l1] at this
          exact this
      case seq0 =>
        intro o Jx hY W hW
        exact drain_in (wz0.heap.size + 1) B g (fun m W => InH w wz0.heap.size (wz0.heap.size + 1) (AgI br g B bl (.cells #[.slice a1 l1.length c1, .slice none 0 0, .slice a2 l2.length c2] 22) [] bk0 (.slice a1 l1.length c1) bpl0 (.slice ap0 l1.length cp0) l1 ba0 (0 + l1.length) m) o W) (fun m x W => InH w wz0.heap.size (wz0.heap.size + 1) (AgY br g B bl (.cells #[.slice a1 l1.length c1, .slice none 0 0, .slice a2 l2.length c2] 22) [] bk0 (.slice a1 l1.length c1) bpl0 (.slice ap0 l1.length cp0) l1 ba0 (0 + l1.length) m x) o W) (InH w wz0.heap.size (wz0.heap.size + 1) (AgE br g B bl (.cells #[.slice a1 l1.length c1, .slice none 0 0, .slice a2 l2.length c2] 22) [] bk0 (.slice a1 l1.length c1) bpl0 (.slice ap0 l1.length cp0) l1 ba0 (0 + l1.length)) o) Jx (fun m W h => ag_turn (by first | omega | (simp; done)) h) hY l1.length W hW Fence.wide rfl
      case assign0 =>
        intro x W K hK
        gi_wp2
        exact hK
      case body0 =>
        rintro m x o W ⟨xs, Kd, Kx, ⟨Kr, K, KB, Kl, Kk, Kp, Kb, Ka, R, t, rfl, hm, hL, htl, p, rfl, hpl, hop⟩, H⟩
        have htl2 : t < (orderOf l1).length := by rw [orderOf_len]; exact htl
        have e1 : W.cell? ⟨bk0, 0, none⟩ = some (.slice a1 l1.length c1) := cellOf (H.at_tb 4 rfl) rfl
        have e2 : W.cell? ⟨bpl0, 0, none⟩ = some (.slice ap0 l1.length cp0) := cellOf (H.at_tb 6 rfl) rfl
        have e3 : W.cell? ⟨ba0, 0, none⟩ = some (.int .i64 t) := cellOf (H.at_tb 7 rfl) rfl
        have e4 : W.frozen? ⟨ba0, 0, none⟩ = false := frozenOf (H.at_tb 7 rfl)
        obtain ⟨b5, o5, hab5, e5⟩ := (H.oi 5 rfl).sb.nth' htl2
        rw [hop] at e5
        obtain ⟨b6, o6, hab6, e6⟩ := HS1.out.cellAt H.bel hpl
        obtain ⟨ky, hky⟩ : ∃ ky, (l1).getD p 0 = ky := ⟨_, rfl⟩
        rw [hky] at e6
        rw [hky]
        have hl3 := hL.2.2
        have HN : Hid (∃ m', m' < m ∧ InH w wz0.heap.size (wz0.heap.size + 1) (AgI br g B bl (.cells #[.slice a1 l1.length c1, .slice none 0 0, .slice a2 l2.length c2] 22) [] bk0 (.slice a1 l1.length c1) bpl0 (.slice ap0 l1.length cp0) l1 ba0 (0 + l1.length) m') o (W.setCell ⟨ba0, 0, none⟩ (.int .i64 ((t : Int) + 1)))) := by
          have H9 := H.setB 7 rfl 0 (.int .i64 ((t : Int) + 1))
          exact ⟨R.length, by omega, agX br g B bl (.cells #[.slice a1 l1.length c1, .slice none 0 0, .slice a2 l2.length c2] 22) [] bk0 (.slice a1 l1.length c1) bpl0 (.slice ap0 l1.length cp0) l1 ba0 Kr K KB Kl Kk Kp Kb Ka R (0 + l1.length) (t + 1), Kd, Kx, ⟨Kr, K, KB, Kl, Kk, Kp, Kb, Ka, R, t + 1, rfl, rfl, hL⟩, H9⟩
        have ht' : (t : Int) < ((l1.length : Nat) : Int) := by have : t < (l1).length := htl; omega
        have hp' : (p : Int) < ((l1.length : Nat) : Int) := by have : p < (l1).length := hpl; omega
        have ht2 : t ≤ 1048576 := by omega
        subst hab5
        subst hab6
        clear H hL hm hky hop hl3 htl2
        gi_wp2
        exact HN.out
      case stop0 =>
        rintro c o W h
        exact h.elim
      case done0 =>
        rintro o0 W0 ⟨xs, Kd0, Kx0, ⟨Kr0, K0, KB0, Kl0, Kk0, Kp0, Kb0, Ka0, rfl⟩, H⟩
        have e2 : W0.cell? ⟨bpl0, 0, none⟩ = some (.slice ap0 l1.length cp0) := cellOf (H.at_tb 6 rfl) rfl
        have e3 : W0.cell? ⟨ba0, 0, none⟩ = some (.int .i64 ((l1.length : Nat) : Int)) := cellOf (H.at_tb 7 rfl) rfl
        have HZ := hide H
        clear H
        gi_wp2_with fail
        refine ⟨trivial, (callsIn_wide.2 (hlen HZ.out 1 rfl)).mono ?_⟩
        rintro e w6 ⟨rfl, hw⟩
        rw [hw]
        clear e2 e3 hw
        gi_wp2
        rw [roundsIn_succ]
        have cl1 : W0.cell? ⟨bl, 1, none⟩ = some (.slice none 0 0) := cellOf (HZ.out.at_tb 3 rfl) rfl
        obtain ⟨Kk1, Hk1⟩ := HZ.out.box (.cells #[.slice none 0 0] 22)
        obtain ⟨bk1, hbk⟩ : ∃ bk, W0.heap.size = bk := ⟨_, rfl⟩
        obtain ⟨wk1, hwk⟩ : ∃ wk, W0.alloc (.cells #[.slice none 0 0] 22) = wk := ⟨_, rfl⟩
        rw [hbk, hwk] at Hk1
        have HBK := hide hbk
        have HWK := hide hwk
        have hR1 := rorder_any (.slice none 0 0) ([] : List Int) wk1 (HS0.out.below Hk1.bel) (by first | omega | (simp; done))
        have HHk1 := hide Hk1
        clear hbk hwk Hk1
        gi_wp2_with fail
        rw [HWK.out, HBK.out]
        refine ⟨trivial, (callsIn_wide.2 hR1).mono ?_⟩
        rintro e wo1 ⟨ap1, cp1, rfl, oo, bo⟩
        obtain ⟨Kp1, Ho⟩ := HHk1.out.list bo oo
        obtain ⟨Kb1, Hp⟩ := Ho.box (.cells #[.slice ap1 0 cp1] 22)
        obtain ⟨bpl1, hbp⟩ : ∃ b, wo1.heap.size = b := ⟨_, rfl⟩
        obtain ⟨wp1, hwp⟩ : ∃ b, wo1.alloc (.cells #[.slice ap1 0 cp1] 22) = b := ⟨_, rfl⟩
        rw [hbp, hwp] at Hp
        have HBP := hide hbp
        have HWP := hide hwp
        have HF : Hid (∃ Kq, Herd w wp1 ([(Kr0, tb br (.cells #[.bool false] 4)), (Kq, tq g ((itsO (0 + l1.length) ([] : List Int)).take 0) ((0 + l1.length) + 0)), (KB0, tb B (.cells #[.pointer (some ⟨g, 0, none⟩)] 46)), (Kl0, tb bl (.cells #[.slice a1 l1.length c1, .slice none 0 0, .slice a2 l2.length c2] 22))] ++ [(Kk0, tb bk0 (.cells #[.slice a1 l1.length c1] 22)), (Kp0, tl (.slice ap0 l1.length cp0) (orderOf l1)), (Kb0, tb bpl0 (.cells #[.slice ap0 l1.length cp0] 22)), (Ka0, tb ba0 (.cells #[.int .i64 ((l1.length : Nat) : Int)] 3)), (Kd0, tb wz0.heap.size (.deferred (some []))), (Kx0, tb (wz0.heap.size + 1) o0)] ++ [(Kk1, tb bk1 (.cells #[.slice none 0 0] 22)), (Kp1, tl (.slice ap1 0 cp1) (orderOf ([] : List Int))), (Kb1, tb bpl1 (.cells #[.slice ap1 0 cp1] 22))])) := ⟨K0, Hp⟩
        clear oo bo Ho Hp hbp hwp HHk1 HBK HWK hR1 cl1
        gi_wp2
        (try rw [HWP.out]); (try rw [HBP.out])
        clear HWP HBP
        gi_loopw [11] (fun i wr => ∃ k : Nat, i = .int .i64 k ∧ k ≤ 0 ∧ Hid (∃ Kq, Herd w wr ([(Kr0, tb br (.cells #[.bool false] 4)), (Kq, tq g ((itsO (0 + l1.length) ([] : List Int)).take k) ((0 + l1.length) + k)), (KB0, tb B (.cells #[.pointer (some ⟨g, 0, none⟩)] 46)), (Kl0, tb bl (.cells #[.slice a1 l1.length c1, .slice none 0 0, .slice a2 l2.length c2] 22))] ++ [(Kk0, tb bk0 (.cells #[.slice a1 l1.length c1] 22)), (Kp0, tl (.slice ap0 l1.length cp0) (orderOf l1)), (Kb0, tb bpl0 (.cells #[.slice ap0 l1.length cp0] 22)), (Ka0, tb ba0 (.cells #[.int .i64 ((l1.length : Nat) : Int)] 3)), (Kd0, tb wz0.heap.size (.deferred (some []))), (Kx0, tb (wz0.heap.size + 1) o0)] ++ [(Kk1, tb bk1 (.cells #[.slice none 0 0] 22)), (Kp1, tl (.slice ap1 0 cp1) (orderOf ([] : List Int))), (Kb1, tb bpl1 (.cells #[.slice ap1 0 cp1] 22))]))) (fun i _ => 0 - (intOf i).toNat)
        case atStart => exact ⟨0, rfl, Nat.zero_le _, HF.out⟩
        case round =>
          obtain ⟨k, rfl, hk, HR⟩ := hrel
          obtain ⟨Kq, H⟩ := HR.out
          have dk : wr.cell? ⟨bk1, 0, none⟩ = some (.slice none 0 0) := cellOf (H.at_tb 10 rfl) rfl
          by_cases hlt : k < 0
          · have hlt' : (k : Int) < ((0 : Nat) : Int) := by omega
            have hlt2 : k < (([] : List Int)).length := hlt
            exact absurd hlt2 (Nat.not_lt_zero _)
          · have hlt' : ¬ (k : Int) < ((0 : Nat) : Int) := by omega
            obtain rfl : k = 0 := by omega
            obtain ⟨Ka1, H5⟩ := H.box (.cells #[.int .i64 0] 3)
            obtain ⟨ba1, hba⟩ : ∃ b, wr.heap.size = b := ⟨_, rfl⟩
            obtain ⟨wz1, hwz⟩ : ∃ b, wr.alloc (.cells #[.int .i64 0] 3) = b := ⟨_, rfl⟩
            rw [hba, hwz] at H5
            have HH5 := hide H5
            have HW5 := hide hwz
            have HBT := hide hba
            clear H5 hba hwz H HR HF hk hlt
            gi_wp2_with fail
            rw [HW5.out, HBT.out]
            clear HW5 HBT dk
            refine wp_range (α := Int × Int) 0 rfl (by decide) (gf := 38) (lb := #[.pointer (some ⟨B, 0, none⟩)]) rfl trivial (enters_of Try.func38 (by kernel_rfl) rfl)
              (encs := fun x => #[.int .i64 x.1, .int .i64 x.2]) (fun _ => rfl) (fun m => InH w wz1.heap.size (wz1.heap.size + 1) (AgI br g B bl (.cells #[.slice a1 l1.length c1, .slice none 0 0, .slice a2 l2.length c2] 22) [(Kk0, tb bk0 (.cells #[.slice a1 l1.length c1] 22)), (Kp0, tl (.slice ap0 l1.length cp0) (orderOf l1)), (Kb0, tb bpl0 (.cells #[.slice ap0 l1.length cp0] 22)), (Ka0, tb ba0 (.cells #[.int .i64 ((l1.length : Nat) : Int)] 3)), (Kd0, tb wz0.heap.size (.deferred (some []))), (Kx0, tb (wz0.heap.size + 1) o0)] bk1 (.slice none 0 0) bpl1 (.slice ap1 0 cp1) ([] : List Int) ba1 ((0 + l1.length) + 0) m)) (fun m x => InH w wz1.heap.size (wz1.heap.size + 1) (AgY br g B bl (.cells #[.slice a1 l1.length c1, .slice none 0 0, .slice a2 l2.length c2] 22) [(Kk0, tb bk0 (.cells #[.slice a1 l1.length c1] 22)), (Kp0, tl (.slice ap0 l1.length cp0) (orderOf l1)), (Kb0, tb bpl0 (.cells #[.slice ap0 l1.length cp0] 22)), (Ka0, tb ba0 (.cells #[.int .i64 ((l1.length : Nat) : Int)] 3)), (Kd0, tb wz0.heap.size (.deferred (some []))), (Kx0, tb (wz0.heap.size + 1) o0)] bk1 (.slice none 0 0) bpl1 (.slice ap1 0 cp1) ([] : List Int) ba1 ((0 + l1.length) + 0) m x)) (InH w wz1.heap.size (wz1.heap.size + 1) (AgE br g B bl (.cells #[.slice a1 l1.length c1, .slice none 0 0, .slice a2 l2.length c2] 22) [(Kk0, tb bk0 (.cells #[.slice a1 l1.length c1] 22)), (Kp0, tl (.slice ap0 l1.length cp0) (orderOf l1)), (Kb0, tb bpl0 (.cells #[.slice ap0 l1.length cp0] 22)), (Ka0, tb ba0 (.cells #[.int .i64 ((l1.length : Nat) : Int)] 3)), (Kd0, tb wz0.heap.size (.deferred (some []))), (Kx0, tb (wz0.heap.size + 1) o0)] bk1 (.slice none 0 0) bpl1 (.slice ap1 0 cp1) ([] : List Int) ba1 ((0 + l1.length) + 0))) (fun _ _ _ => False)
              (fun _ => InH.rec _ _ _ _) (fun _ _ => InH.rec _ _ _ _) (InH.rec _ _ _ _) (fun _ => ⟨fun _ _ h => h.elim, fun _ _ _ h => h.elim⟩) ?start1 ?seq1 ?a11 ?assign1 ?body1 ?done1 ?stop1
            case start1 =>
              intro o
              refine InH.start HH5.out ⟨_, _, _, _, _, _, _, _, _, 0, rfl, ?_, ?_⟩ o
              · exact (itsO_tlen (0 + l1.length) ([] : List Int) (Nat.le_refl _)).symm
              · have := Left'.start (0 + l1.length) ([] : List Int)
                rw [← itsO_all (0 + l1.length) ([] : List Int)] at this
                exact this
            case seq1 =>
              intro o Jx hY W hW
              exact drain_in (wz1.heap.size + 1) B g (fun m W => InH w wz1.heap.size (wz1.heap.size + 1) (AgI br g B bl (.cells #[.slice a1 l1.length c1, .slice none 0 0, .slice a2 l2.length c2] 22) [(Kk0, tb bk0 (.cells #[.slice a1 l1.length c1] 22)), (Kp0, tl (.slice ap0 l1.length cp0) (orderOf l1)), (Kb0, tb bpl0 (.cells #[.slice ap0 l1.length cp0] 22)), (Ka0, tb ba0 (.cells #[.int .i64 ((l1.length : Nat) : Int)] 3)), (Kd0, tb wz0.heap.size (.deferred (some []))), (Kx0, tb (wz0.heap.size + 1) o0)] bk1 (.slice none 0 0) bpl1 (.slice ap1 0 cp1) ([] : List Int) ba1 ((0 + l1.length) + 0) m) o W) (fun m x W => InH w wz1.heap.size (wz1.heap.size + 1) (AgY br g B bl (.cells #[.slice a1 l1.length c1, .slice none 0 0, .slice a2 l2.length c2] 22) [(Kk0, tb bk0 (.cells #[.slice a1 l1.length c1] 22)), (Kp0, tl (.slice ap0 l1.length cp0) (orderOf l1)), (Kb0, tb bpl0 (.cells #[.slice ap0 l1.length cp0] 22)), (Ka0, tb ba0 (.cells #[.int .i64 ((l1.length : Nat) : Int)] 3)), (Kd0, tb wz0.heap.size (.deferred (some []))), (Kx0, tb (wz0.heap.size + 1) o0)] bk1 (.slice none 0 0) bpl1 (.slice ap1 0 cp1) ([] : List Int) ba1 ((0 + l1.length) + 0) m x) o W) (InH w wz1.heap.size (wz1.heap.size + 1) (AgE br g B bl (.cells #[.slice a1 l1.length c1, .slice none 0 0, .slice a2 l2.length c2] 22) [(Kk0, tb bk0 (.cells #[.slice a1 l1.length c1] 22)), (Kp0, tl (.slice ap0 l1.length cp0) (orderOf l1)), (Kb0, tb bpl0 (.cells #[.slice ap0 l1.length cp0] 22)), (Ka0, tb ba0 (.cells #[.int .i64 ((l1.length : Nat) : Int)] 3)), (Kd0, tb wz0.heap.size (.deferred (some []))), (Kx0, tb (wz0.heap.size + 1) o0)] bk1 (.slice none 0 0) bpl1 (.slice ap1 0 cp1) ([] : List Int) ba1 ((0 + l1.length) + 0)) o) Jx (fun m W h => ag_turn (by first | omega | (simp; done)) h) hY 0 W hW Fence.wide rfl
            case assign1 =>
              intro x W K hK
              gi_wp2
              exact hK
            case body1 =>
              rintro m x o W ⟨xs, Kd, Kx, ⟨Kr, K, KB, Kl, Kk, Kp, Kb, Ka, R, t, rfl, hm, hL, htl, p, rfl, hpl, hop⟩, H⟩
              exact absurd hpl (Nat.not_lt_zero _)
            case stop1 =>
              rintro c o W h
              exact h.elim
            case done1 =>
              rintro o1 W1 ⟨xs, Kd1, Kx1, ⟨Kr1, K1, KB1, Kl1, Kk1, Kp1, Kb1, Ka1, rfl⟩, H⟩
              have e2 : W1.cell? ⟨bpl1, 0, none⟩ = some (.slice ap1 0 cp1) := cellOf (H.at_tb 12 rfl) rfl
              have e3 : W1.cell? ⟨ba1, 0, none⟩ = some (.int .i64 ((0 : Nat) : Int)) := cellOf (H.at_tb 13 rfl) rfl
              have HZ := hide H
              clear H
              gi_wp2_with fail
              refine ⟨trivial, (callsIn_wide.2 (hlen HZ.out 1 rfl)).mono ?_⟩
              rintro e w6 ⟨rfl, hw⟩
              rw [hw]
              clear e2 e3 hw
              gi_wp2
              rw [roundsIn_succ]
              have cl2 : W1.cell? ⟨bl, 2, none⟩ = some (.slice a2 l2.length c2) := cellOf (HZ.out.at_tb 3 rfl) rfl
              obtain ⟨Kk2, Hk2⟩ := HZ.out.box (.cells #[.slice a2 l2.length c2] 22)
              obtain ⟨bk2, hbk⟩ : ∃ bk, W1.heap.size = bk := ⟨_, rfl⟩
              obtain ⟨wk2, hwk⟩ : ∃ wk, W1.alloc (.cells #[.slice a2 l2.length c2] 22) = wk := ⟨_, rfl⟩
              rw [hbk, hwk] at Hk2
              have HBK := hide hbk
              have HWK := hide hwk
              have hR2 := rorder_any (.slice a2 l2.length c2) l2 wk2 (HS2.out.below Hk2.bel) (by first | omega | (simp; done))
              have HHk2 := hide Hk2
              clear hbk hwk Hk2
              gi_wp2_with fail
              rw [HWK.out, HBK.out]
              refine ⟨trivial, (callsIn_wide.2 hR2).mono ?_⟩
              rintro e wo2 ⟨ap2, cp2, rfl, oo, bo⟩
              obtain ⟨Kp2, Ho⟩ := HHk2.out.list bo oo
              obtain ⟨Kb2, Hp⟩ := Ho.box (.cells #[.slice ap2 l2.length cp2] 22)
              obtain ⟨bpl2, hbp⟩ : ∃ b, wo2.heap.size = b := ⟨_, rfl⟩
              obtain ⟨wp2, hwp⟩ : ∃ b, wo2.alloc (.cells #[.slice ap2 l2.length cp2] 22) = b := ⟨_, rfl⟩
              rw [hbp, hwp] at Hp
              have HBP := hide hbp
              have HWP := hide hwp
              have HF : Hid (∃ Kq, Herd w wp2 ([(Kr1, tb br (.cells #[.bool false] 4)), (Kq, tq g ((itsO (0 + l1.length + 0) l2).take 0) ((0 + l1.length + 0) + 0)), (KB1, tb B (.cells #[.pointer (some ⟨g, 0, none⟩)] 46)), (Kl1, tb bl (.cells #[.slice a1 l1.length c1, .slice none 0 0, .slice a2 l2.length c2] 22))] ++ [(Kk0, tb bk0 (.cells #[.slice a1 l1.length c1] 22)), (Kp0, tl (.slice ap0 l1.length cp0) (orderOf l1)), (Kb0, tb bpl0 (.cells #[.slice ap0 l1.length cp0] 22)), (Ka0, tb ba0 (.cells #[.int .i64 ((l1.length : Nat) : Int)] 3)), (Kd0, tb wz0.heap.size (.deferred (some []))), (Kx0, tb (wz0.heap.size + 1) o0), (Kk1, tb bk1 (.cells #[.slice none 0 0] 22)), (Kp1, tl (.slice ap1 0 cp1) (orderOf ([] : List Int))), (Kb1, tb bpl1 (.cells #[.slice ap1 0 cp1] 22)), (Ka1, tb ba1 (.cells #[.int .i64 ((0 : Nat) : Int)] 3)), (Kd1, tb wz1.heap.size (.deferred (some []))), (Kx1, tb (wz1.heap.size + 1) o1)] ++ [(Kk2, tb bk2 (.cells #[.slice a2 l2.length c2] 22)), (Kp2, tl (.slice ap2 l2.length cp2) (orderOf l2)), (Kb2, tb bpl2 (.cells #[.slice ap2 l2.length cp2] 22))])) := ⟨K1, Hp⟩
              clear oo bo Ho Hp hbp hwp HHk2 HBK HWK hR2 cl2
              gi_wp2
              (try rw [HWP.out]); (try rw [HBP.out])
              clear HWP HBP
              gi_loopw [11] (fun i wr => ∃ k : Nat, i = .int .i64 k ∧ k ≤ l2.length ∧ Hid (∃ Kq, Herd w wr ([(Kr1, tb br (.cells #[.bool false] 4)), (Kq, tq g ((itsO (0 + l1.length + 0) l2).take k) ((0 + l1.length + 0) + k)), (KB1, tb B (.cells #[.pointer (some ⟨g, 0, none⟩)] 46)), (Kl1, tb bl (.cells #[.slice a1 l1.length c1, .slice none 0 0, .slice a2 l2.length c2] 22))] ++ [(Kk0, tb bk0 (.cells #[.slice a1 l1.length c1] 22)), (Kp0, tl (.slice ap0 l1.length cp0) (orderOf l1)), (Kb0, tb bpl0 (.cells #[.slice ap0 l1.length cp0] 22)), (Ka0, tb ba0 (.cells #[.int .i64 ((l1.length : Nat) : Int)] 3)), (Kd0, tb wz0.heap.size (.deferred (some []))), (Kx0, tb (wz0.heap.size + 1) o0), (Kk1, tb bk1 (.cells #[.slice none 0 0] 22)), (Kp1, tl (.slice ap1 0 cp1) (orderOf ([] : List Int))), (Kb1, tb bpl1 (.cells #[.slice ap1 0 cp1] 22)), (Ka1, tb ba1 (.cells #[.int .i64 ((0 : Nat) : Int)] 3)), (Kd1, tb wz1.heap.size (.deferred (some []))), (Kx1, tb (wz1.heap.size + 1) o1)] ++ [(Kk2, tb bk2 (.cells #[.slice a2 l2.length c2] 22)), (Kp2, tl (.slice ap2 l2.length cp2) (orderOf l2)), (Kb2, tb bpl2 (.cells #[.slice ap2 l2.length cp2] 22))]))) (fun i _ => l2.length - (intOf i).toNat)
              case atStart => exact ⟨0, rfl, Nat.zero_le _, HF.out⟩
              case round =>
                obtain ⟨k, rfl, hk, HR⟩ := hrel
                obtain ⟨Kq, H⟩ := HR.out
                have dk : wr.cell? ⟨bk2, 0, none⟩ = some (.slice a2 l2.length c2) := cellOf (H.at_tb 16 rfl) rfl
                by_cases hlt : k < l2.length
                · have hlt' : (k : Int) < ((l2.length : Nat) : Int) := by omega
                  have hlt2 : k < (l2).length := hlt
                  obtain ⟨b, o, hab, hc⟩ := HS2.out.cellAt H.bel hlt2
                  have HT := hide (itsO_take (z := (0 + l1.length + 0)) hlt2)
                  obtain ⟨ky, hky⟩ : ∃ ky, (l2).getD k 0 = ky := ⟨_, rfl⟩
                  rw [hky] at hc HT
                  have HLN := hide (itsO_tlen (0 + l1.length + 0) l2 (k := k) hk)
                  have HH := hide H
                  subst hab
                  clear hky H HR HF
                  gi_wp2_with fail
                  refine ⟨trivial, (callsIn_wide.2 (hpush HH.out 1 rfl ky k (by have := HLN.out; omega) (by omega))).mono ?_⟩
                  rintro e w2 ⟨rfl, K', H2⟩
                  have HN : Hid (∃ Kq, Herd w w2 ([(Kr1, tb br (.cells #[.bool false] 4)), (Kq, tq g ((itsO (0 + l1.length + 0) l2).take (k + 1)) ((0 + l1.length + 0) + (k + 1))), (KB1, tb B (.cells #[.pointer (some ⟨g, 0, none⟩)] 46)), (Kl1, tb bl (.cells #[.slice a1 l1.length c1, .slice none 0 0, .slice (some ⟨b, o, none⟩) l2.length c2] 22))] ++ [(Kk0, tb bk0 (.cells #[.slice a1 l1.length c1] 22)), (Kp0, tl (.slice ap0 l1.length cp0) (orderOf l1)), (Kb0, tb bpl0 (.cells #[.slice ap0 l1.length cp0] 22)), (Ka0, tb ba0 (.cells #[.int .i64 ((l1.length : Nat) : Int)] 3)), (Kd0, tb wz0.heap.size (.deferred (some []))), (Kx0, tb (wz0.heap.size + 1) o0), (Kk1, tb bk1 (.cells #[.slice none 0 0] 22)), (Kp1, tl (.slice ap1 0 cp1) (orderOf ([] : List Int))), (Kb1, tb bpl1 (.cells #[.slice ap1 0 cp1] 22)), (Ka1, tb ba1 (.cells #[.int .i64 ((0 : Nat) : Int)] 3)), (Kd1, tb wz1.heap.size (.deferred (some []))), (Kx1, tb (wz1.heap.size + 1) o1)] ++ [(Kk2, tb bk2 (.cells #[.slice (some ⟨b, o, none⟩) l2.length c2] 22)), (Kp2, tl (.slice ap2 l2.length cp2) (orderOf l2)), (Kb2, tb bpl2 (.cells #[.slice ap2 l2.length cp2] 22))])) := ⟨K', by rw [HT.out]; exact H2⟩
                  clear H2
                  gi_wp2
                  go_roundw
                  case rel => exact ⟨k + 1, by go_num, by omega, HN.out⟩
                  case measure => simp [intOf]; omega
                · have hlt' : ¬ (k : Int) < ((l2.length : Nat) : Int) := by omega
                  obtain rfl : k = l2.length := by omega
                  obtain ⟨Ka2, H5⟩ := H.box (.cells #[.int .i64 0] 3)
                  obtain ⟨ba2, hba⟩ : ∃ b, wr.heap.size = b := ⟨_, rfl⟩
                  obtain ⟨wz2, hwz⟩ : ∃ b, wr.alloc (.cells #[.int .i64 0] 3) = b := ⟨_, rfl⟩
                  rw [hba, hwz] at H5
                  have HH5 := hide H5
                  have HW5 := hide hwz
                  have HBT := hide hba
                  clear H5 hba hwz H HR HF hk hlt
                  gi_wp2_with fail
                  rw [HW5.out, HBT.out]
                  clear HW5 HBT dk
                  refine wp_range (α := Int × Int) l2.length rfl (by decide) (gf := 38) (lb := #[.pointer (some ⟨B, 0, none⟩)]) rfl trivial (enters_of Try.func38 (by kernel_rfl) rfl)
                    (encs := fun x => #[.int .i64 x.1, .int .i64 x.2]) (fun _ => rfl) (fun m => InH w wz2.heap.size (wz2.heap.size + 1) (AgI br g B bl (.cells #[.slice a1 l1.length c1, .slice none 0 0, .slice a2 l2.length c2] 22) [(Kk0, tb bk0 (.cells #[.slice a1 l1.length c1] 22)), (Kp0, tl (.slice ap0 l1.length cp0) (orderOf l1)), (Kb0, tb bpl0 (.cells #[.slice ap0 l1.length cp0] 22)), (Ka0, tb ba0 (.cells #[.int .i64 ((l1.length : Nat) : Int)] 3)), (Kd0, tb wz0.heap.size (.deferred (some []))), (Kx0, tb (wz0.heap.size + 1) o0), (Kk1, tb bk1 (.cells #[.slice none 0 0] 22)), (Kp1, tl (.slice ap1 0 cp1) (orderOf ([] : List Int))), (Kb1, tb bpl1 (.cells #[.slice ap1 0 cp1] 22)), (Ka1, tb ba1 (.cells #[.int .i64 ((0 : Nat) : Int)] 3)), (Kd1, tb wz1.heap.size (.deferred (some []))), (Kx1, tb (wz1.heap.size + 1) o1)] bk2 (.slice a2 l2.length c2) bpl2 (.slice ap2 l2.length cp2) l2 ba2 ((0 + l1.length + 0) + l2.length) m)) (fun m x => InH w wz2.heap.size (wz2.heap.size + 1) (AgY br g B bl (.cells #[.slice a1 l1.length c1, .slice none 0 0, .slice a2 l2.length c2] 22) [(Kk0, tb bk0 (.cells #[.slice a1 l1.length c1] 22)), (Kp0, tl (.slice ap0 l1.length cp0) (orderOf l1)), (Kb0, tb bpl0 (.cells #[.slice ap0 l1.length cp0] 22)), (Ka0, tb ba0 (.cells #[.int .i64 ((l1.length : Nat) : Int)] 3)), (Kd0, tb wz0.heap.size (.deferred (some []))), (Kx0, tb (wz0.heap.size + 1) o0), (Kk1, tb bk1 (.cells #[.slice none 0 0] 22)), (Kp1, tl (.slice ap1 0 cp1) (orderOf ([] : List Int))), (Kb1, tb bpl1 (.cells #[.slice ap1 0 cp1] 22)), (Ka1, tb ba1 (.cells #[.int .i64 ((0 : Nat) : Int)] 3)), (Kd1, tb wz1.heap.size (.deferred (some []))), (Kx1, tb (wz1.heap.size + 1) o1)] bk2 (.slice a2 l2.length c2) bpl2 (.slice ap2 l2.length cp2) l2 ba2 ((0 + l1.length + 0) + l2.length) m x)) (InH w wz2.heap.size (wz2.heap.size + 1) (AgE br g B bl (.cells #[.slice a1 l1.length c1, .slice none 0 0, .slice a2 l2.length c2] 22) [(Kk0, tb bk0 (.cells #[.slice a1 l1.length c1] 22)), (Kp0, tl (.slice ap0 l1.length cp0) (orderOf l1)), (Kb0, tb bpl0 (.cells #[.slice ap0 l1.length cp0] 22)), (Ka0, tb ba0 (.cells #[.int .i64 ((l1.length : Nat) : Int)] 3)), (Kd0, tb wz0.heap.size (.deferred (some []))), (Kx0, tb (wz0.heap.size + 1) o0), (Kk1, tb bk1 (.cells #[.slice none 0 0] 22)), (Kp1, tl (.slice ap1 0 cp1) (orderOf ([] : List Int))), (Kb1, tb bpl1 (.cells #[.slice ap1 0 cp1] 22)), (Ka1, tb ba1 (.cells #[.int .i64 ((0 : Nat) : Int)] 3)), (Kd1, tb wz1.heap.size (.deferred (some []))), (Kx1, tb (wz1.heap.size + 1) o1)] bk2 (.slice a2 l2.length c2) bpl2 (.slice ap2 l2.length cp2) l2 ba2 ((0 + l1.length + 0) + l2.length))) (fun _ _ _ => False)
                    (fun _ => InH.rec _ _ _ _) (fun _ _ => InH.rec _ _ _ _) (InH.rec _ _ _ _) (fun _ => ⟨fun _ _ h => h.elim, fun _ _ _ h => h.elim⟩) ?start2 ?seq2 ?a12 ?assign2 ?body2 ?done2 ?stop2
                  case start2 =>
                    intro o
                    refine InH.start HH5.out ⟨_, _, _, _, _, _, _, _, _, 0, rfl, ?_, ?_⟩ o
                    · exact (itsO_tlen (0 + l1.length + 0) l2 (Nat.le_refl _)).symm
                    · have := Left'.start (0 + l1.length + 0) l2
                      rw [← itsO_all (0 + l1.length + 0) l2] at this
                      exact this
                  case seq2 =>
                    intro o Jx hY W hW
                    exact drain_in (wz2.heap.size + 1) B g (fun m W => InH w wz2.heap.size (wz2.heap.size + 1) (AgI br g B bl (.cells #[.slice a1 l1.length c1, .slice none 0 0, .slice a2 l2.length c2] 22) [(Kk0, tb bk0 (.cells #[.slice a1 l1.length c1] 22)), (Kp0, tl (.slice ap0 l1.length cp0) (orderOf l1)), (Kb0, tb bpl0 (.cells #[.slice ap0 l1.length cp0] 22)), (Ka0, tb ba0 (.cells #[.int .i64 ((l1.length : Nat) : Int)] 3)), (Kd0, tb wz0.heap.size (.deferred (some []))), (Kx0, tb (wz0.heap.size + 1) o0), (Kk1, tb bk1 (.cells #[.slice none 0 0] 22)), (Kp1, tl (.slice ap1 0 cp1) (orderOf ([] : List Int))), (Kb1, tb bpl1 (.cells #[.slice ap1 0 cp1] 22)), (Ka1, tb ba1 (.cells #[.int .i64 ((0 : Nat) : Int)] 3)), (Kd1, tb wz1.heap.size (.deferred (some []))), (Kx1, tb (wz1.heap.size + 1) o1)] bk2 (.slice a2 l2.length c2) bpl2 (.slice ap2 l2.length cp2) l2 ba2 ((0 + l1.length + 0) + l2.length) m) o W) (fun m x W => InH w wz2.heap.size (wz2.heap.size + 1) (AgY br g B bl (.cells #[.slice a1 l1.length c1, .slice none 0 0, .slice a2 l2.length c2] 22) [(Kk0, tb bk0 (.cells #[.slice a1 l1.length c1] 22)), (Kp0, tl (.slice ap0 l1.length cp0) (orderOf l1)), (Kb0, tb bpl0 (.cells #[.slice ap0 l1.length cp0] 22)), (Ka0, tb ba0 (.cells #[.int .i64 ((l1.length : Nat) : Int)] 3)), (Kd0, tb wz0.heap.size (.deferred (some []))), (Kx0, tb (wz0.heap.size + 1) o0), (Kk1, tb bk1 (.cells #[.slice none 0 0] 22)), (Kp1, tl (.slice ap1 0 cp1) (orderOf ([] : List Int))), (Kb1, tb bpl1 (.cells #[.slice ap1 0 cp1] 22)), (Ka1, tb ba1 (.cells #[.int .i64 ((0 : Nat) : Int)] 3)), (Kd1, tb wz1.heap.size (.deferred (some []))), (Kx1, tb (wz1.heap.size + 1) o1)] bk2 (.slice a2 l2.length c2) bpl2 (.slice ap2 l2.length cp2) l2 ba2 ((0 + l1.length + 0) + l2.length) m x) o W) (InH w wz2.heap.size (wz2.heap.size + 1) (AgE br g B bl (.cells #[.slice a1 l1.length c1, .slice none 0 0, .slice a2 l2.length c2] 22) [(Kk0, tb bk0 (.cells #[.slice a1 l1.length c1] 22)), (Kp0, tl (.slice ap0 l1.length cp0) (orderOf l1)), (Kb0, tb bpl0 (.cells #[.slice ap0 l1.length cp0] 22)), (Ka0, tb ba0 (.cells #[.int .i64 ((l1.length : Nat) : Int)] 3)), (Kd0, tb wz0.heap.size (.deferred (some []))), (Kx0, tb (wz0.heap.size + 1) o0), (Kk1, tb bk1 (.cells #[.slice none 0 0] 22)), (Kp1, tl (.slice ap1 0 cp1) (orderOf ([] : List Int))), (Kb1, tb bpl1 (.cells #[.slice ap1 0 cp1] 22)), (Ka1, tb ba1 (.cells #[.int .i64 ((0 : Nat) : Int)] 3)), (Kd1, tb wz1.heap.size (.deferred (some []))), (Kx1, tb (wz1.heap.size + 1) o1)] bk2 (.slice a2 l2.length c2) bpl2 (.slice ap2 l2.length cp2) l2 ba2 ((0 + l1.length + 0) + l2.length)) o) Jx (fun m W h => ag_turn (by first | omega | (simp; done)) h) hY l2.length W hW Fence.wide rfl
                  case assign2 =>
                    intro x W K hK
                    gi_wp2
                    exact hK
                  case body2 =>
                    rintro m x o W ⟨xs, Kd, Kx, ⟨Kr, K, KB, Kl, Kk, Kp, Kb, Ka, R, t, rfl, hm, hL, htl, p, rfl, hpl, hop⟩, H⟩
                    have htl2 : t < (orderOf l2).length := by rw [orderOf_len]; exact htl
                    have e1 : W.cell? ⟨bk2, 0, none⟩ = some (.slice a2 l2.length c2) := cellOf (H.at_tb 16 rfl) rfl
                    have e2 : W.cell? ⟨bpl2, 0, none⟩ = some (.slice ap2 l2.length cp2) := cellOf (H.at_tb 18 rfl) rfl
                    have e3 : W.cell? ⟨ba2, 0, none⟩ = some (.int .i64 t) := cellOf (H.at_tb 19 rfl) rfl
                    have e4 : W.frozen? ⟨ba2, 0, none⟩ = false := frozenOf (H.at_tb 19 rfl)
                    obtain ⟨b5, o5, hab5, e5⟩ := (H.oi 17 rfl).sb.nth' htl2
                    rw [hop] at e5
                    obtain ⟨b6, o6, hab6, e6⟩ := HS2.out.cellAt H.bel hpl
                    obtain ⟨ky, hky⟩ : ∃ ky, (l2).getD p 0 = ky := ⟨_, rfl⟩
                    rw [hky] at e6
                    rw [hky]
                    have hl3 := hL.2.2
                    have HN : Hid (∃ m', m' < m ∧ InH w wz2.heap.size (wz2.heap.size + 1) (AgI br g B bl (.cells #[.slice a1 l1.length c1, .slice none 0 0, .slice a2 l2.length c2] 22) [(Kk0, tb bk0 (.cells #[.slice a1 l1.length c1] 22)), (Kp0, tl (.slice ap0 l1.length cp0) (orderOf l1)), (Kb0, tb bpl0 (.cells #[.slice ap0 l1.length cp0] 22)), (Ka0, tb ba0 (.cells #[.int .i64 ((l1.length : Nat) : Int)] 3)), (Kd0, tb wz0.heap.size (.deferred (some []))), (Kx0, tb (wz0.heap.size + 1) o0), (Kk1, tb bk1 (.cells #[.slice none 0 0] 22)), (Kp1, tl (.slice ap1 0 cp1) (orderOf ([] : List Int))), (Kb1, tb bpl1 (.cells #[.slice ap1 0 cp1] 22)), (Ka1, tb ba1 (.cells #[.int .i64 ((0 : Nat) : Int)] 3)), (Kd1, tb wz1.heap.size (.deferred (some []))), (Kx1, tb (wz1.heap.size + 1) o1)] bk2 (.slice a2 l2.length c2) bpl2 (.slice ap2 l2.length cp2) l2 ba2 ((0 + l1.length + 0) + l2.length) m') o (W.setCell ⟨ba2, 0, none⟩ (.int .i64 ((t : Int) + 1)))) := by
                      have H9 := H.setB 19 rfl 0 (.int .i64 ((t : Int) + 1))
                      exact ⟨R.length, by omega, agX br g B bl (.cells #[.slice a1 l1.length c1, .slice none 0 0, .slice a2 l2.length c2] 22) [(Kk0, tb bk0 (.cells #[.slice a1 l1.length c1] 22)), (Kp0, tl (.slice ap0 l1.length cp0) (orderOf l1)), (Kb0, tb bpl0 (.cells #[.slice ap0 l1.length cp0] 22)), (Ka0, tb ba0 (.cells #[.int .i64 ((l1.length : Nat) : Int)] 3)), (Kd0, tb wz0.heap.size (.deferred (some []))), (Kx0, tb (wz0.heap.size + 1) o0), (Kk1, tb bk1 (.cells #[.slice none 0 0] 22)), (Kp1, tl (.slice ap1 0 cp1) (orderOf ([] : List Int))), (Kb1, tb bpl1 (.cells #[.slice ap1 0 cp1] 22)), (Ka1, tb ba1 (.cells #[.int .i64 ((0 : Nat) : Int)] 3)), (Kd1, tb wz1.heap.size (.deferred (some []))), (Kx1, tb (wz1.heap.size + 1) o1)] bk2 (.slice a2 l2.length c2) bpl2 (.slice ap2 l2.length cp2) l2 ba2 Kr K KB Kl Kk Kp Kb Ka R ((0 + l1.length + 0) + l2.length) (t + 1), Kd, Kx, ⟨Kr, K, KB, Kl, Kk, Kp, Kb, Ka, R, t + 1, rfl, rfl, hL⟩, H9⟩
                    have ht' : (t : Int) < ((l2.length : Nat) : Int) := by have : t < (l2).length := htl; omega
                    have hp' : (p : Int) < ((l2.length : Nat) : Int) := by have : p < (l2).length := hpl; omega
                    have ht2 : t ≤ 1048576 := by omega
                    subst hab5
                    subst hab6
                    clear H hL hm hky hop hl3 htl2
                    gi_wp2
                    exact HN.out
                  case stop2 =>
                    rintro c o W h
                    exact h.elim
                  case done2 =>
                    rintro o2 W2 ⟨xs, Kd2, Kx2, ⟨Kr2, K2, KB2, Kl2, Kk2, Kp2, Kb2, Ka2, rfl⟩, H⟩
                    have e2 : W2.cell? ⟨bpl2, 0, none⟩ = some (.slice ap2 l2.length cp2) := cellOf (H.at_tb 18 rfl) rfl
                    have e3 : W2.cell? ⟨ba2, 0, none⟩ = some (.int .i64 ((l2.length : Nat) : Int)) := cellOf (H.at_tb 19 rfl) rfl
                    have HZ := hide H
                    clear H
                    gi_wp2_with fail
                    refine ⟨trivial, (callsIn_wide.2 (hlen HZ.out 1 rfl)).mono ?_⟩
                    rintro e w6 ⟨rfl, hw⟩
                    rw [hw]
                    clear e2 e3 hw
                    gi_wp2
                    rw [roundsIn_succ]
                    have d3 : W2.cell? ⟨br, 0, none⟩ = some (.bool false) := cellOf (HZ.out.at_tb 0 rfl) rfl
                    have f3 : W2.frozen? ⟨br, 0, none⟩ = false := frozenOf (HZ.out.at_tb 0 rfl)
                    have H8 := HZ.out.setB 0 rfl 0 (.bool true)
                    have hD2 := hide (H8.at_tb 20 rfl)
                    have H9 := H8.putB 20 rfl (.deferred none)
                    have hD1 := hide (H9.at_tb 14 rfl)
                    have H10 := H9.putB 14 rfl (.deferred none)
                    have hD0 := hide (H10.at_tb 8 rfl)
                    have H11 := H10.putB 8 rfl (.deferred none)
                    have hc9 := cellOf (k := 0) (H11.at_tb 0 rfl) rfl
                    have HB := hide H11.bel
                    have HC9 := hide hc9
                    clear H8 H9 H10 H11 hc9 HZ
                    gi_wp2
                    refine ⟨by simp, .inl ⟨_, _, rfl, run_takeDeferred hD2.out, ?_⟩⟩
                    refine ⟨by simp, .inl ⟨_, _, rfl, run_takeDeferred hD1.out, ?_⟩⟩
                    refine ⟨by simp, .inl ⟨_, _, rfl, run_takeDeferred hD0.out, ?_⟩⟩
                    have hc := HC9.out
                    refine ⟨.bool true, ?_, rfl, HB.out⟩
                    simp [results, Try.f7, go_sem, hc]

end Go.Proofs.Ytjhgjohnfkgleaa
