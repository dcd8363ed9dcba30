import Derived.Test.YtjhgjohnfkgleabOrd
import Derived.Test.YtjhgjohnfkgleabRord
import Derived.Test.YtjhgjohnfkgleabOpenN
import Derived.Test.YtjhgjohnfkgleabPly
namespace Go.Proofs.Ytjhgjohnfkgleab
open Go.RowKit Go.Shelf
attribute [local go_sem] Oper.semAt_some
set_option maxRecDepth 20000

theorem Herd.drew {W w : World} {xs : List ((Nat → Nat) × Thing)} (H : Herd W w xs) : Herd W w.drew xs := H.below (Below.refl _ _).drew

/-- What stands between two turns of the loop. -/
def LftI (ev : Int) (N bp br g bh s bq B bt m : Nat) (xs : List ((Nat → Nat) × Thing)) : Prop :=
  ∃ Kp Kr K Kh Ks Kq KB Kt R t, xs = [(Kp, tb bp (.cells #[.int .i64 ev] 3)), (Kr, tb br (.cells #[.bool false] 4)), (K, tq g R N), (Kh, tb bh (.cells #[.pointer (some ⟨g, 0, none⟩)] 23)), (Ks, tr s R), (Kq, tb bq (.cells #[.pointer (some ⟨s, 0, none⟩)] 25)), (KB, tb B (.cells #[.pointer (some ⟨g, 0, none⟩)] 23)), (Kt, tb bt (.cells #[.int .i64 (t : Nat)] 3))] ∧ m = R.length ∧ R.length + t ≤ N

/-- What stands in a turn. -/
def LftY (ev : Int) (N bp br g bh s bq B bt m : Nat) (x : Int × Int) (xs : List ((Nat → Nat) × Thing)) : Prop :=
  ∃ Kp Kr K Kh Ks Kq KB Kt R t, xs = [(Kp, tb bp (.cells #[.int .i64 ev] 3)), (Kr, tb br (.cells #[.bool false] 4)), (K, tq g (rest R) N), (Kh, tb bh (.cells #[.pointer (some ⟨g, 0, none⟩)] 23)), (Ks, tr s R), (Kq, tb bq (.cells #[.pointer (some ⟨s, 0, none⟩)] 25)), (KB, tb B (.cells #[.pointer (some ⟨g, 0, none⟩)] 23)), (Kt, tb bt (.cells #[.int .i64 (t : Nat)] 3))] ∧ R ≠ [] ∧ m = R.length ∧ R.length + t ≤ N ∧ x = (pkK R, pkV R)

theorem lft_turn {W0 W : World} {ev : Int} {N bp br g bh s bq B bt d lb m : Nat} {o : Obj} (hN : N ≤ 1048576) (h : InH W0 d lb (LftI ev N bp br g bh s bq B bt m) o W) : Turn g B (fun x W => InH W0 d lb (LftY ev N bp br g bh s bq B bt m x) o W) (fun W => InH W0 d lb (LftI ev N bp br g bh s bq B bt 0) o W) W := by
  obtain ⟨xs, Kd, Kl, ⟨Kp, Kr, K, Kh, Ks, Kq, KB, Kt, R, t, rfl, hm, ht⟩, H⟩ := h
  refine ⟨W0, _, 2, 6, K, KB, R, N, H, rfl, rfl, by omega, fun W' H' => ⟨fun hn => ?_, fun hn => ?_⟩⟩
  · subst hn
    exact ⟨[_, _, _, _, _, _, _, _], Kd, Kl, ⟨Kp, Kr, K, Kh, Ks, Kq, KB, Kt, [], t, rfl, rfl, ht⟩, H'⟩
  · exact ⟨[_, _, _, _, _, _, _, _], Kd, Kl, ⟨Kp, Kr, K, Kh, Ks, Kq, KB, Kt, R, t, rfl, hn, hm, ht, rfl⟩, H'⟩

/-- No way out by a panic. -/
def noPanic (Q : Exit → Act → World → Prop) : Exit → Act → World → Prop
  | .panic _, _, _ => False
  | e, a, w => Q e a w

theorem wpIn_noPanic {F : Fence} {n : Nat} {P : Program} {c : Code} {Q : Exit → Act → World → Prop} {a : Act} {w : World} (h : c.wpIn F n P (noPanic Q) a w) : c.wpIn F n P Q a w := by
  refine wpIn_mono h ?_
  intro e a w hq
  cases e with
  | panic _ => exact hq.elim
  | normal => exact hq
  | ret => exact hq
  | exit _ => exact hq
  | goto _ => exact hq
  | outgrown => exact hq

theorem mixed : Try.prog.follows Departure.mixedOrders = true := by kernel_rfl

set_option maxHeartbeats 1000000 in
theorem left_walk (v : Value) (keys : List Int) (ev : Int) (w : World) (hs : SI w v keys) (hn : keys.length ≤ 1048576) :
    Calls Try.prog 7 #[v, .int .i64 ev] w fun e w' => e = .returned (.bool true) ∧ Below w.heap.size w w' := by
  obtain ⟨a0, c0, rfl⟩ := hs.len
  have HS := hide hs
  clear hs
  obtain ⟨Kp, H1⟩ := (Herd.nil w).box (.cells #[.int .i64 ev] 3)
  obtain ⟨Kr, H2⟩ := H1.box (.cells #[.bool false] 4)
  obtain ⟨bp, hbp⟩ : ∃ bp, w.heap.size = bp := ⟨_, rfl⟩
  obtain ⟨w1, hw1⟩ : ∃ w1, w.alloc (.cells #[.int .i64 ev] 3) = w1 := ⟨_, rfl⟩
  obtain ⟨br, hbr⟩ : ∃ br, w1.heap.size = br := ⟨_, rfl⟩
  obtain ⟨w2, hw2⟩ : ∃ w2, w1.alloc (.cells #[.bool false] 4) = w2 := ⟨_, rfl⟩
  rw [hw1, hw2, hbp, hbr] at H2
  have HH2 := hide H2
  clear H1 H2
  refine (callsIn_wide (n := 3)).1 ?_
  refine callsIn_of_wp_marks Try.func7 rfl trivial ?_ rfl
  simp only [Try.ntmps7, List.size_toArray, List.length_cons, List.length_nil, Nat.reduceAdd, Nat.reduceSub, Array.replicate_succ, Array.replicate_zero, List.push_toArray, List.append_toArray, List.nil_append, List.cons_append]
  refine wpIn_noPanic ?_
  have hmix := mixed
  gi_wp2_with fail
  refine ⟨trivial, (callsIn_wide.2 (hnew HH2.out)).mono ?_⟩
  rintro e w3 ⟨g, K, rfl, H3⟩
  obtain ⟨Kh, H4⟩ := H3.box (.cells #[.pointer (some ⟨g, 0, none⟩)] 23)
  obtain ⟨bh, hbh⟩ : ∃ bh, w3.heap.size = bh := ⟨_, rfl⟩
  obtain ⟨w4, hw4⟩ : ∃ w4, w3.alloc (.cells #[.pointer (some ⟨g, 0, none⟩)] 23) = w4 := ⟨_, rfl⟩
  rw [hbh, hw4] at H4
  have d4 : w4.cell? ⟨bh, 0, none⟩ = some (.pointer (some ⟨g, 0, none⟩)) := cellOf (H4.at_tb 3 rfl) rfl
  have HH4 := hide H4
  clear H3 H4 hw1 hw2 hbp hbr
  gi_wp2_with fail
  refine ⟨trivial, (callsIn_wide.2 (hrnew HH4.out)).mono ?_⟩
  rintro e w5 ⟨s, Ks, rfl, H5⟩
  obtain ⟨Kq, H6⟩ := H5.box (.cells #[.pointer (some ⟨s, 0, none⟩)] 25)
  obtain ⟨bq, hbq⟩ : ∃ bq, w5.heap.size = bq := ⟨_, rfl⟩
  obtain ⟨w6, hw6⟩ : ∃ w6, w5.alloc (.cells #[.pointer (some ⟨s, 0, none⟩)] 25) = w6 := ⟨_, rfl⟩
  rw [hbq, hw6] at H6
  have HF : Hid (∃ K Ks, Herd w w6 [(Kp, tb bp (.cells #[.int .i64 ev] 3)), (Kr, tb br (.cells #[.bool false] 4)), (K, tq g ((its keys).take 0) 0), (Kh, tb bh (.cells #[.pointer (some ⟨g, 0, none⟩)] 23)), (Ks, tr s ((its keys).take 0)), (Kq, tb bq (.cells #[.pointer (some ⟨s, 0, none⟩)] 25))]) := ⟨K, Ks, H6⟩
  clear H5 H6 HH4 HH2 d4
  gi_wp2
  clear hbh hw4 hbq hw6
  gi_loopw [7] (fun i wr => ∃ k : Nat, i = .int .i64 k ∧ k ≤ keys.length ∧ Hid (∃ K Ks, Herd w wr [(Kp, tb bp (.cells #[.int .i64 ev] 3)), (Kr, tb br (.cells #[.bool false] 4)), (K, tq g ((its keys).take k) k), (Kh, tb bh (.cells #[.pointer (some ⟨g, 0, none⟩)] 23)), (Ks, tr s ((its keys).take k)), (Kq, tb bq (.cells #[.pointer (some ⟨s, 0, none⟩)] 25))])) (fun i _ => keys.length - (intOf i).toNat)
  case atStart => exact ⟨0, rfl, Nat.zero_le _, HF.out⟩
  case round =>
    obtain ⟨k, rfl, hk, HR⟩ := hrel
    obtain ⟨K, Ks, H⟩ := HR.out
    by_cases hlt : k < keys.length
    · have hlt' : (k : Int) < (keys.length : Int) := by omega
      obtain ⟨b, o, hab, hc⟩ := HS.out.cellAt H.bel hlt
      have HT := hide (its_take hlt)
      obtain ⟨ky, hky⟩ : ∃ ky, keys.getD k 0 = ky := ⟨_, rfl⟩
      rw [hky] at hc HT
      have HLN := hide (take_len keys hk)
      have d1 : wr.cell? ⟨bh, 0, none⟩ = some (.pointer (some ⟨g, 0, none⟩)) := cellOf (H.at_tb 3 rfl) rfl
      have HH := hide H
      have HKP : Hid (∀ w2, Below w.heap.size w w2 → w2.cell? ⟨b, o + k, none⟩ = some (.int .i64 ky)) := fun w2 h2 => by
        obtain ⟨b', o', e, q⟩ := HS.out.cellAt h2 hlt
        rw [hab] at e
        simp only [Option.some.injEq, Addr.mk.injEq] at e
        obtain ⟨rfl, rfl, -⟩ := e
        rw [hky] at q
        exact q
      subst hab
      clear hky H HR HF
      gi_wp2
      gi_region_with_o (refine ⟨trivial, (callsIn_wide.2 (hpush HH.out.drew 2 rfl ky k (by have := HLN.out; omega) (by omega))).mono ?_⟩; rintro e w2 ⟨rfl, K', H2⟩)
      all_goals
        have hc2 : w2.cell? ⟨b, o + k, none⟩ = some (.int .i64 ky) := HKP.out w2 H2.bel
        have d2 : w2.cell? ⟨bq, 0, none⟩ = some (.pointer (some ⟨s, 0, none⟩)) := cellOf (H2.at_tb 5 rfl) rfl
        have HH2 := hide H2
        clear H2 hc d1
        gi_wp2
        gi_region_with_o (refine ⟨trivial, (callsIn_wide.2 (hrpush HH2.out.drew 4 rfl (It.mk ky (k : Int) (k : Int)) (by have := HLN.out; omega))).mono ?_⟩; rintro e w3 ⟨rfl, L', H3⟩)
        all_goals
          have HN : Hid (∃ K Ks, Herd w w3 [(Kp, tb bp (.cells #[.int .i64 ev] 3)), (Kr, tb br (.cells #[.bool false] 4)), (K, tq g ((its keys).take (k + 1)) (k + 1)), (Kh, tb bh (.cells #[.pointer (some ⟨g, 0, none⟩)] 23)), (Ks, tr s ((its keys).take (k + 1))), (Kq, tb bq (.cells #[.pointer (some ⟨s, 0, none⟩)] 25))]) := ⟨K', L', by rw [HT.out]; exact H3⟩
          clear H3
          gi_wp2
          go_roundw
          case rel => exact ⟨k + 1, by go_num, by omega, HN.out⟩
          case measure => simp [intOf]; omega
    · have hlt' : ¬ (k : Int) < (keys.length : Int) := by omega
      obtain rfl : k = keys.length := by omega
      have d1 : wr.cell? ⟨bh, 0, none⟩ = some (.pointer (some ⟨g, 0, none⟩)) := cellOf (H.at_tb 3 rfl) rfl
      have HH := hide H
      clear H HR HF hk hlt hlt'
      have he := fun (w : World) (f : Fn) (x y : Array Value) => eqlFunc (P := Try.prog) w _ (Try.underlying29) f x y
      gi_wp2_with fail
      refine ⟨trivial, (callsIn_wide.2 (drain_any g _)).mono ?_⟩
      rintro e w4 ⟨rfl, hw4⟩
      obtain ⟨KB, H4⟩ := HH.out.box (.cells #[.pointer (some ⟨g, 0, none⟩)] 23)
      rw [← hw4] at H4
      obtain ⟨B, hB⟩ : ∃ B, wr.heap.size = B := ⟨_, rfl⟩
      rw [hB] at H4 ⊢
      obtain ⟨Kt, H5⟩ := H4.box (.cells #[.int .i64 0] 3)
      obtain ⟨bt, hbt⟩ : ∃ bt, w4.heap.size = bt := ⟨_, rfl⟩
      obtain ⟨w5, hw5⟩ : ∃ w5, w4.alloc (.cells #[.int .i64 0] 3) = w5 := ⟨_, rfl⟩
      rw [hbt, hw5] at H5
      have HH5 := hide H5
      have HW5 := hide hw5
      have HBT := hide hbt
      clear H4 H5 hw4 hB HH d1 hw5 hbt
      gi_wp2_with fail
      rw [HW5.out, HBT.out]
      clear HW5 HBT
      refine wp_range (α := Int × Int) keys.length rfl (by decide) (gf := 29) (lb := #[.pointer (some ⟨B, 0, none⟩)]) rfl trivial (enters_of Try.func29 (by kernel_rfl) rfl)
        (encs := fun x => #[.int .i64 x.1, .int .i64 x.2]) (fun _ => rfl) (fun m => InH w w5.heap.size (w5.heap.size + 1) (LftI ev keys.length bp br g bh s bq B bt m)) (fun m x => InH w w5.heap.size (w5.heap.size + 1) (LftY ev keys.length bp br g bh s bq B bt m x)) (InH w w5.heap.size (w5.heap.size + 1) (LftI ev keys.length bp br g bh s bq B bt 0)) (fun _ _ _ => False)
        (fun _ => InH.rec _ _ _ _) (fun _ _ => InH.rec _ _ _ _) (InH.rec _ _ _ _) (fun _ => ⟨fun _ _ h => h.elim, fun _ _ _ h => h.elim⟩) ?start ?seq ?a1 ?assign ?body ?done ?stop
      case start =>
        intro o
        refine InH.start HH5.out ⟨Kp, Kr, K, Kh, Ks, Kq, KB, Kt, _, 0, rfl, ?_, ?_⟩ o
        · rw [take_len keys (Nat.le_refl _)]
        · rw [take_len keys (Nat.le_refl _)]; omega
      case seq =>
        intro o Jx hY W hW
        exact drain_in (w5.heap.size + 1) B g (fun m W => InH w w5.heap.size (w5.heap.size + 1) (LftI ev keys.length bp br g bh s bq B bt m) o W) (fun m x W => InH w w5.heap.size (w5.heap.size + 1) (LftY ev keys.length bp br g bh s bq B bt m x) o W) (InH w w5.heap.size (w5.heap.size + 1) (LftI ev keys.length bp br g bh s bq B bt 0) o) Jx (fun m W h => lft_turn hn h) hY keys.length W hW Fence.wide rfl
      case assign =>
        intro x W K hK
        gi_wp2
        exact hK
      case body =>
        rintro m x o W ⟨xs, Kd, Kl, ⟨Kp, Kr, K, Kh, Ks, Kq, KB, Kt, R, t, rfl, hR0, hm, ht, rfl⟩, H⟩
        have d1 : W.cell? ⟨bq, 0, none⟩ = some (.pointer (some ⟨s, 0, none⟩)) := cellOf (H.at_tb 5 rfl) rfl
        have hb : pkB R = true := by simp [pkB, hR0]
        have hP := hrpop H 4 rfl (by omega)
        rw [hb] at hP
        have hl := rest_len hR0
        have HL := hide (And.intro hl (And.intro hm ht))
        have ht2 : t ≤ 1048576 := by omega
        clear hb hl hm ht hR0 H
        gi_wp2_with fail
        refine ⟨trivial, (CallsIn.inRound _ (callsIn_wide.2 hP)).mono ?_⟩
        rintro e w6 ⟨rfl, L', H6⟩
        have c1 : w6.cell? ⟨bp, 0, none⟩ = some (.int .i64 ev) := cellOf (H6.at_tb 0 rfl) rfl
        have c2 : w6.cell? ⟨bt, 0, none⟩ = some (.int .i64 t) := cellOf (H6.at_tb 7 rfl) rfl
        have c3 : w6.cell? ⟨bh, 0, none⟩ = some (.pointer (some ⟨g, 0, none⟩)) := cellOf (H6.at_tb 3 rfl) rfl
        have c4 : w6.cell? ⟨bq, 0, none⟩ = some (.pointer (some ⟨s, 0, none⟩)) := cellOf (H6.at_tb 5 rfl) rfl
        have f2 : w6.frozen? ⟨bt, 0, none⟩ = false := frozenOf (H6.at_tb 7 rfl)
        have HH6 := hide H6
        have HNO : Hid (∃ m', m' < m ∧ InH w w5.heap.size (w5.heap.size + 1) (LftI ev keys.length bp br g bh s bq B bt m') o (w6.setCell ⟨bt, 0, none⟩ (.int .i64 ((t : Int) + 1)))) := by
          have H7 := H6.setB 7 rfl 0 (.int .i64 ((t : Int) + 1))
          obtain ⟨l1, l2, l3⟩ := HL.out
          exact ⟨(rest R).length, by omega, [_, _, _, _, _, _, _, _], Kd, Kl, ⟨Kp, Kr, K, Kh, L', Kq, KB, Kt, rest R, t + 1, rfl, rfl, by omega⟩, H7⟩
        clear hP d1 H6
        by_cases h1 : 0 < ev
        · by_cases h2 : (t : Int) % ev = 0
          · have hS := step_any HH6.out 2 4 (by decide) rfl rfl ⟨2, 0, 0, false⟩ (by have := HL.out; omega) (by omega)
            have hev : ev ≠ 0 := by omega
            gi_wp2_with fail
            refine ⟨trivial, (CallsIn.inRound _ (callsIn_wide.2 hS)).mono ?_⟩
            rintro e w7 ⟨rfl, K', L2, H7⟩
            have c5 : w7.cell? ⟨bt, 0, none⟩ = some (.int .i64 t) := cellOf (H7.at_tb 7 rfl) rfl
            have f5 : w7.frozen? ⟨bt, 0, none⟩ = false := frozenOf (H7.at_tb 7 rfl)
            have HN : Hid (∃ m', m' < m ∧ InH w w5.heap.size (w5.heap.size + 1) (LftI ev keys.length bp br g bh s bq B bt m') o (w7.setCell ⟨bt, 0, none⟩ (.int .i64 ((t : Int) + 1)))) := by
              have H8 := H7.setB 7 rfl 0 (.int .i64 ((t : Int) + 1))
              obtain ⟨l1, l2, l3⟩ := HL.out
              have l4 := rest_le (rest R)
              exact ⟨(rest (rest R)).length, by omega, [_, _, _, _, _, _, _, _], Kd, Kl, ⟨Kp, Kr, K', Kh, L2, Kq, KB, Kt, rest (rest R), t + 1, rfl, rfl, by omega⟩, H8⟩
            clear H7 hS c1 c2 c3 c4 f2
            gi_wp2
            exact HN.out
          · have hev : ev ≠ 0 := by omega
            have h2' : ((t : Int) % ev == 0) = false := by simpa using h2
            gi_wp2
            exact HNO.out
        · gi_wp2
          exact HNO.out
      case done =>
        rintro o W ⟨xs, Kd, Kl, ⟨Kp, Kr, K, Kh, Ks, Kq, KB, Kt, R, t, rfl, hm, ht⟩, H⟩
        obtain rfl : R = [] := List.eq_nil_of_length_eq_zero hm.symm
        have d1 : W.cell? ⟨bh, 0, none⟩ = some (.pointer (some ⟨g, 0, none⟩)) := cellOf (H.at_tb 3 rfl) rfl
        have d2 : W.cell? ⟨bq, 0, none⟩ = some (.pointer (some ⟨s, 0, none⟩)) := cellOf (H.at_tb 5 rfl) rfl
        have d3 : W.cell? ⟨br, 0, none⟩ = some (.bool false) := cellOf (H.at_tb 1 rfl) rfl
        have f3 : W.frozen? ⟨br, 0, none⟩ = false := frozenOf (H.at_tb 1 rfl)
        have HH := hide H
        clear hm ht H
        gi_wp2_with fail
        refine ⟨trivial, (callsIn_wide.2 (hlen HH.out 2 rfl)).mono ?_⟩
        rintro e w6 ⟨rfl, hw⟩
        subst hw
        gi_wp2_with fail
        refine ⟨trivial, (callsIn_wide.2 (hrlen HH.out 4 rfl)).mono ?_⟩
        rintro e w7 ⟨rfl, hw⟩
        subst hw
        have H8 := HH.out.setB 1 rfl 0 (.bool true)
        have hD := H8.at_tb 8 rfl
        have H9 := H8.putB 8 rfl (.deferred none)
        have hc9 := cellOf (k := 0) (H9.at_tb 1 rfl) rfl
        have HD := hide hD
        have H9B := hide H9.bel
        have HC9 := hide hc9
        clear H8 hD H9 hc9 HH
        gi_wp2
        refine ⟨by simp, .inl ⟨_, _, rfl, run_takeDeferred HD.out, ?_⟩⟩
        have hc := HC9.out
        refine ⟨.bool true, ?_, rfl, H9B.out⟩
        simp [results, Try.f7, go_sem, hc]
      case stop =>
        rintro c o W h
        exact h.elim

end Go.Proofs.Ytjhgjohnfkgleab
