import Derived.Test.YtjhgjohnfkgleabOrd
import Derived.Test.YtjhgjohnfkgleabRord
import Derived.Test.YtjhgjohnfkgleabOpenN
import Derived.Test.YtjhgjohnfkgleabPly
import Derived.Test.YtjhgjohnfkgleabLeft
import Derived.Test.YtjhgjohnfkgleabInh
namespace Go.Proofs.Ytjhgjohnfkgleab
open Go.RowKit Go.Shelf
attribute [local go_sem] Oper.semAt_some
set_option maxRecDepth 20000

/-- The things of the loop. -/
def cmX (am : Option Addr) (M cm bp br g bh s bq B bt : Nat) (Kp Kr K Kh Ks Kq KB Kt : Nat → Nat) (Rh Rr : List (It Int)) (t n : Nat) : List ((Nat → Nat) × Thing) :=
  [(Kp, tb bp (.cells #[.slice am M cm] 22)), (Kr, tb br (.cells #[.bool false] 4)), (K, tq g Rh n), (Kh, tb bh (.cells #[.pointer (some ⟨g, 0, none⟩)] 23)), (Ks, tr s Rr), (Kq, tb bq (.cells #[.pointer (some ⟨s, 0, none⟩)] 25)), (KB, tb B (.cells #[.pointer (some ⟨g, 0, none⟩)] 23)), (Kt, tb bt (.cells #[.int .i64 (t : Nat)] 3))]

/-- What stands between two turns of the loop. -/
def CmI (am : Option Addr) (M cm N bp br g bh s bq B bt m : Nat) (xs : List ((Nat → Nat) × Thing)) : Prop :=
  ∃ Kp Kr K Kh Ks Kq KB Kt R t n, xs = cmX am M cm bp br g bh s bq B bt Kp Kr K Kh Ks Kq KB Kt R R t n ∧ m = R.length + (M - t) ∧ R.length + t = N + min M t ∧ n = N + min M t ∧ (N = 0 → R = [] ∧ t = 0)

def CmE (am : Option Addr) (M cm N bp br g bh s bq B bt : Nat) (xs : List ((Nat → Nat) × Thing)) : Prop :=
  ∃ Kp Kr K Kh Ks Kq KB Kt t n, xs = cmX am M cm bp br g bh s bq B bt Kp Kr K Kh Ks Kq KB Kt [] [] t n ∧ t = N + min M t ∧ (N = 0 → t = 0)

/-- What stands in a turn. -/
def CmY (am : Option Addr) (M cm N bp br g bh s bq B bt m : Nat) (x : Int × Int) (xs : List ((Nat → Nat) × Thing)) : Prop :=
  ∃ Kp Kr K Kh Ks Kq KB Kt R t n, xs = cmX am M cm bp br g bh s bq B bt Kp Kr K Kh Ks Kq KB Kt (rest R) R t n ∧ R ≠ [] ∧ m = R.length + (M - t) ∧ R.length + t = N + min M t ∧ n = N + min M t ∧ (N = 0 → R = [] ∧ t = 0) ∧ x = (pkK R, pkV R)

theorem cm_turn {W0 W : World} {am : Option Addr} {M cm N bp br g bh s bq B bt d lb m : Nat} {o : Obj} (hN : N ≤ 1048576) (hM : M ≤ 1048576) (h : InH W0 d lb (CmI am M cm N bp br g bh s bq B bt m) o W) : Turn g B (fun x W => InH W0 d lb (CmY am M cm N bp br g bh s bq B bt m x) o W) (fun W => InH W0 d lb (CmE am M cm N bp br g bh s bq B bt) o W) W := by
  obtain ⟨xs, Kd, Kl, ⟨Kp, Kr, K, Kh, Ks, Kq, KB, Kt, R, t, n, rfl, hm, ht, hn, h0⟩, H⟩ := h
  refine ⟨W0, _, 2, 6, K, KB, R, n, H, rfl, rfl, by omega, fun W' H' => ⟨fun hnil => ?_, fun hnil => ?_⟩⟩
  · subst hnil
    exact ⟨cmX am M cm bp br g bh s bq B bt Kp Kr K Kh Ks Kq KB Kt [] [] t n, Kd, Kl, ⟨Kp, Kr, K, Kh, Ks, Kq, KB, Kt, t, n, rfl, by simpa using ht, fun h => (h0 h).2⟩, H'⟩
  · exact ⟨cmX am M cm bp br g bh s bq B bt Kp Kr K Kh Ks Kq KB Kt (rest R) R t n, Kd, Kl, ⟨Kp, Kr, K, Kh, Ks, Kq, KB, Kt, R, t, n, rfl, hnil, hm, ht, hn, h0, rfl⟩, H'⟩

set_option maxHeartbeats 2000000 in
theorem come_walk (v vm : Value) (keys more : List Int) (w : World) (hs : SI w v keys) (hms : SI w vm more) (hn : keys.length ≤ 1048576) (hn2 : more.length ≤ 1048576) :
    Calls Try.prog 3 #[v, vm] w fun e w' => e = .returned (.bool true) ∧ Below w.heap.size w w' := by
  obtain ⟨a0, c0, rfl⟩ := hs.len
  obtain ⟨am, cm, rfl⟩ := hms.len
  have HMS := hide hms
  clear hms
  obtain ⟨M, hM⟩ : ∃ M, more.length = M := ⟨_, rfl⟩
  have HM := hide hM
  rw [hM] at hn2 HMS ⊢
  clear hM
  have HS := hide hs
  clear hs
  obtain ⟨Kp, H1⟩ := (Herd.nil w).box (.cells #[.slice am M cm] 22)
  obtain ⟨Kr, H2⟩ := H1.box (.cells #[.bool false] 4)
  obtain ⟨bp, hbp⟩ : ∃ bp, w.heap.size = bp := ⟨_, rfl⟩
  obtain ⟨w1, hw1⟩ : ∃ w1, w.alloc (.cells #[.slice am M cm] 22) = w1 := ⟨_, rfl⟩
  obtain ⟨br, hbr⟩ : ∃ br, w1.heap.size = br := ⟨_, rfl⟩
  obtain ⟨w2, hw2⟩ : ∃ w2, w1.alloc (.cells #[.bool false] 4) = w2 := ⟨_, rfl⟩
  rw [hw1, hw2, hbp, hbr] at H2
  have HH2 := hide H2
  clear H1 H2
  refine (callsIn_wide (n := 3)).1 ?_
  refine callsIn_of_wp_marks Try.func3 rfl trivial ?_ rfl
  simp only [Try.ntmps3, List.size_toArray, List.length_cons, List.length_nil, Nat.reduceAdd, Nat.reduceSub, Array.replicate_succ, Array.replicate_zero, List.push_toArray, List.append_toArray, List.nil_append, List.cons_append]
  refine wpIn_noPanic ?_
  have hmix := mixed
  gi_wp2_with fail
  refine ⟨trivial, (callsIn_wide.2 (hnew HH2.out)).mono ?_⟩
  rintro e w3 ⟨g, K, rfl, H3⟩
  obtain ⟨Kh, H4⟩ := H3.box (.cells #[.pointer (some ⟨g, 0, none⟩)] 23)
  obtain ⟨bh, hbh⟩ : ∃ bh, w3.heap.size = bh := ⟨_, rfl⟩
  obtain ⟨w4, hw4⟩ : ∃ w4, w3.alloc (.cells #[.pointer (some ⟨g, 0, none⟩)] 23) = w4 := ⟨_, rfl⟩
  rw [hbh, hw4] at H4
  have d4 : w4.cell? ⟨bh, 0, none⟩ = some (.pointer (some ⟨g, 0, none⟩)) := cellOf (H4.at_tb 3 rfl) rfl
  have HH4 := hide H4
  clear H3 H4 hw1 hw2 hbp hbr
  gi_wp2_with fail
  refine ⟨trivial, (callsIn_wide.2 (hrnew HH4.out)).mono ?_⟩
  rintro e w5 ⟨s, Ks, rfl, H5⟩
  obtain ⟨Kq, H6⟩ := H5.box (.cells #[.pointer (some ⟨s, 0, none⟩)] 25)
  obtain ⟨bq, hbq⟩ : ∃ bq, w5.heap.size = bq := ⟨_, rfl⟩
  obtain ⟨w6, hw6⟩ : ∃ w6, w5.alloc (.cells #[.pointer (some ⟨s, 0, none⟩)] 25) = w6 := ⟨_, rfl⟩
  rw [hbq, hw6] at H6
  have HF : Hid (∃ K Ks, Herd w w6 [(Kp, tb bp (.cells #[.slice am M cm] 22)), (Kr, tb br (.cells #[.bool false] 4)), (K, tq g ((its keys).take 0) 0), (Kh, tb bh (.cells #[.pointer (some ⟨g, 0, none⟩)] 23)), (Ks, tr s ((its keys).take 0)), (Kq, tb bq (.cells #[.pointer (some ⟨s, 0, none⟩)] 25))]) := ⟨K, Ks, H6⟩
  clear H5 H6 HH4 HH2 d4
  gi_wp2
  clear hbh hw4 hbq hw6
  gi_loopw [7] (fun i wr => ∃ k : Nat, i = .int .i64 k ∧ k ≤ keys.length ∧ Hid (∃ K Ks, Herd w wr [(Kp, tb bp (.cells #[.slice am M cm] 22)), (Kr, tb br (.cells #[.bool false] 4)), (K, tq g ((its keys).take k) k), (Kh, tb bh (.cells #[.pointer (some ⟨g, 0, none⟩)] 23)), (Ks, tr s ((its keys).take k)), (Kq, tb bq (.cells #[.pointer (some ⟨s, 0, none⟩)] 25))])) (fun i _ => keys.length - (intOf i).toNat)
  case atStart => exact ⟨0, rfl, Nat.zero_le _, HF.out⟩
  case round =>
    obtain ⟨k, rfl, hk, HR⟩ := hrel
    obtain ⟨K, Ks, H⟩ := HR.out
    by_cases hlt : k < keys.length
    · have hlt' : (k : Int) < (keys.length : Int) := by omega
      obtain ⟨b, o, hab, hc⟩ := HS.out.cellAt H.bel hlt
      have HT := hide (its_take hlt)
      obtain ⟨ky, hky⟩ : ∃ ky, keys.getD k 0 = ky := ⟨_, rfl⟩
      rw [hky] at hc HT
      have HLN := hide (take_len keys hk)
      have d1 : wr.cell? ⟨bh, 0, none⟩ = some (.pointer (some ⟨g, 0, none⟩)) := cellOf (H.at_tb 3 rfl) rfl
      have HH := hide H
      have HKP : Hid (∀ w2, Below w.heap.size w w2 → w2.cell? ⟨b, o + k, none⟩ = some (.int .i64 ky)) := fun w2 h2 => by
        obtain ⟨b', o', e, q⟩ := HS.out.cellAt h2 hlt
        rw [hab] at e
        simp only [Option.some.injEq, Addr.mk.injEq] at e
        obtain ⟨rfl, rfl, -⟩ := e
        rw [hky] at q
        exact q
      subst hab
      clear hky H HR HF
      gi_wp2
      gi_region_with_o (refine ⟨trivial, (callsIn_wide.2 (hpush HH.out.drew 2 rfl ky k (by have := HLN.out; omega) (by omega))).mono ?_⟩; rintro e w2 ⟨rfl, K', H2⟩)
      all_goals
        have hc2 : w2.cell? ⟨b, o + k, none⟩ = some (.int .i64 ky) := HKP.out w2 H2.bel
        have d2 : w2.cell? ⟨bq, 0, none⟩ = some (.pointer (some ⟨s, 0, none⟩)) := cellOf (H2.at_tb 5 rfl) rfl
        have HH2 := hide H2
        clear H2 hc d1
        gi_wp2
        gi_region_with_o (refine ⟨trivial, (callsIn_wide.2 (hrpush HH2.out.drew 4 rfl (It.mk ky (k : Int) (k : Int)) (by have := HLN.out; omega))).mono ?_⟩; rintro e w3 ⟨rfl, L', H3⟩)
        all_goals
          have HN : Hid (∃ K Ks, Herd w w3 [(Kp, tb bp (.cells #[.slice am M cm] 22)), (Kr, tb br (.cells #[.bool false] 4)), (K, tq g ((its keys).take (k + 1)) (k + 1)), (Kh, tb bh (.cells #[.pointer (some ⟨g, 0, none⟩)] 23)), (Ks, tr s ((its keys).take (k + 1))), (Kq, tb bq (.cells #[.pointer (some ⟨s, 0, none⟩)] 25))]) := ⟨K', L', by rw [HT.out]; exact H3⟩
          clear H3
          gi_wp2
          go_roundw
          case rel => exact ⟨k + 1, by go_num, by omega, HN.out⟩
          case measure => simp [intOf]; omega
    · have hlt' : ¬ (k : Int) < (keys.length : Int) := by omega
      obtain rfl : k = keys.length := by omega
      have d1 : wr.cell? ⟨bh, 0, none⟩ = some (.pointer (some ⟨g, 0, none⟩)) := cellOf (H.at_tb 3 rfl) rfl
      have HH := hide H
      clear H HR HF hk hlt hlt'
      have he := fun (w : World) (f : Fn) (x y : Array Value) => eqlFunc (P := Try.prog) w _ (Try.underlying29) f x y
      gi_wp2_with fail
      refine ⟨trivial, (callsIn_wide.2 (drain_any g _)).mono ?_⟩
      rintro e w4 ⟨rfl, hw4⟩
      obtain ⟨KB, H4⟩ := HH.out.box (.cells #[.pointer (some ⟨g, 0, none⟩)] 23)
      rw [← hw4] at H4
      obtain ⟨B, hB⟩ : ∃ B, wr.heap.size = B := ⟨_, rfl⟩
      rw [hB] at H4 ⊢
      obtain ⟨Kt, H5⟩ := H4.box (.cells #[.int .i64 0] 3)
      obtain ⟨bt, hbt⟩ : ∃ bt, w4.heap.size = bt := ⟨_, rfl⟩
      obtain ⟨w5, hw5⟩ : ∃ w5, w4.alloc (.cells #[.int .i64 0] 3) = w5 := ⟨_, rfl⟩
      rw [hbt, hw5] at H5
      have HH5 := hide H5
      have HW5 := hide hw5
      have HBT := hide hbt
      clear H4 H5 hw4 hB HH d1 hw5 hbt
      gi_wp2_with fail
      rw [HW5.out, HBT.out]
      clear HW5 HBT
      refine wp_range (α := Int × Int) (keys.length + M) rfl (by decide) (gf := 29) (lb := #[.pointer (some ⟨B, 0, none⟩)]) rfl trivial (enters_of Try.func29 (by kernel_rfl) rfl)
        (encs := fun x => #[.int .i64 x.1, .int .i64 x.2]) (fun _ => rfl) (fun m => InH w w5.heap.size (w5.heap.size + 1) (CmI am M cm keys.length bp br g bh s bq B bt m)) (fun m x => InH w w5.heap.size (w5.heap.size + 1) (CmY am M cm keys.length bp br g bh s bq B bt m x)) (InH w w5.heap.size (w5.heap.size + 1) (CmE am M cm keys.length bp br g bh s bq B bt)) (fun _ _ _ => False)
        (fun _ => InH.rec _ _ _ _) (fun _ _ => InH.rec _ _ _ _) (InH.rec _ _ _ _) (fun _ => ⟨fun _ _ h => h.elim, fun _ _ _ h => h.elim⟩) ?start ?seq ?a1 ?assign ?body ?done ?stop
      case start =>
        intro o
        refine InH.start HH5.out ⟨Kp, Kr, K, Kh, Ks, Kq, KB, Kt, _, 0, _, rfl, ?_, ?_, ?_, ?_⟩ o
        · rw [take_len keys (Nat.le_refl _)]; omega
        · rw [take_len keys (Nat.le_refl _)]; omega
        · omega
        · intro h0; exact ⟨List.eq_nil_of_length_eq_zero (by rw [take_len keys (Nat.le_refl _)]; exact h0), rfl⟩
      case seq =>
        intro o Jx hY W hW
        exact drain_in (w5.heap.size + 1) B g (fun m W => InH w w5.heap.size (w5.heap.size + 1) (CmI am M cm keys.length bp br g bh s bq B bt m) o W) (fun m x W => InH w w5.heap.size (w5.heap.size + 1) (CmY am M cm keys.length bp br g bh s bq B bt m x) o W) (InH w w5.heap.size (w5.heap.size + 1) (CmE am M cm keys.length bp br g bh s bq B bt) o) Jx (fun m W h => cm_turn hn hn2 h) hY (keys.length + M) W hW Fence.wide rfl
      case assign =>
        intro x W K hK
        gi_wp2
        exact hK
      case body =>
        rintro m x o W ⟨xs, Kd, Kl, ⟨Kp, Kr, K, Kh, Ks, Kq, KB, Kt, R, t, n, rfl, hR0, hm, ht, hnn, h0, rfl⟩, H⟩
        have d1 : W.cell? ⟨bq, 0, none⟩ = some (.pointer (some ⟨s, 0, none⟩)) := cellOf (H.at_tb 5 rfl) rfl
        have hb : pkB R = true := by simp [pkB, hR0]
        have hP := hrpop H 4 rfl (by omega)
        rw [hb] at hP
        have hl := rest_len hR0
        have hN0 : keys.length ≠ 0 := fun e => hR0 (h0 e).1
        have HL := hide (And.intro hl (And.intro hm (And.intro ht (And.intro hnn hN0))))
        have ht2 : t ≤ 2097152 := by omega
        clear hb hl hm ht hnn hR0 h0 hN0 H
        gi_wp2_with fail
        refine ⟨trivial, (CallsIn.inRound _ (callsIn_wide.2 hP)).mono ?_⟩
        rintro e w6 ⟨rfl, L', H6⟩
        have c1 : w6.cell? ⟨bp, 0, none⟩ = some (.slice am M cm) := cellOf (H6.at_tb 0 rfl) rfl
        have c2 : w6.cell? ⟨bt, 0, none⟩ = some (.int .i64 t) := cellOf (H6.at_tb 7 rfl) rfl
        have c3 : w6.cell? ⟨bh, 0, none⟩ = some (.pointer (some ⟨g, 0, none⟩)) := cellOf (H6.at_tb 3 rfl) rfl
        have f2 : w6.frozen? ⟨bt, 0, none⟩ = false := frozenOf (H6.at_tb 7 rfl)
        have HH6 := hide H6
        clear hP d1
        by_cases htM : t < M
        · have htM' : (t : Int) < (M : Int) := by omega
          obtain ⟨b, o', hab, hc⟩ := HMS.out.cellAt H6.bel (k := t) (by rw [HM.out]; exact htM)
          obtain ⟨ky, hky⟩ : ∃ ky, more.getD t 0 = ky := ⟨_, rfl⟩
          rw [hky] at hc
          obtain ⟨z, hz⟩ : ∃ z, IntKind.i64.wrap (-1 - (t : Int)) = z := ⟨_, rfl⟩
          have HKP : Hid (∀ w2, Below w.heap.size w w2 → w2.cell? ⟨b, o' + t, none⟩ = some (.int .i64 ky)) := fun w2 h2 => by
            obtain ⟨b1, o1, e, q⟩ := HMS.out.cellAt h2 (k := t) (by rw [HM.out]; exact htM)
            rw [hab] at e
            simp only [Option.some.injEq, Addr.mk.injEq] at e
            obtain ⟨rfl, rfl, -⟩ := e
            rw [hky] at q
            exact q
          subst hab
          clear H6 hky
          gi_wp2
          refine wpIn_held_round _ (fun W => W.cell? ⟨bh, 0, none⟩ = some (.pointer (some ⟨g, 0, none⟩)) ∧ W.cell? ⟨bp, 0, none⟩ = some (.slice (some ⟨b, o', none⟩) M cm) ∧ W.cell? ⟨bt, 0, none⟩ = some (.int .i64 t) ∧ W.cell? ⟨b, o' + t, none⟩ = some (.int .i64 ky)) hmix (by kernel_rfl) (fun ⟨_, _, h⟩ => h) ?_
          have hS : w6.drew.cell? ⟨bh, 0, none⟩ = some (.pointer (some ⟨g, 0, none⟩)) ∧ w6.drew.cell? ⟨bp, 0, none⟩ = some (.slice (some ⟨b, o', none⟩) M cm) ∧ w6.drew.cell? ⟨bt, 0, none⟩ = some (.int .i64 t) ∧ w6.drew.cell? ⟨b, o' + t, none⟩ = some (.int .i64 ky) := ⟨c3, c1, c2, hc⟩
          refine wpAnyH_take (i := 0) (v := .pointer (some ⟨g, 0, none⟩)) rfl (by kernel_rfl) (by kernel_rfl) (by kernel_rfl) (fun _ _ _ h => h) (Or.inl ⟨by rfl, fun w hw => by obtain ⟨s1, s2, s3, s4⟩ := hw; go_simp⟩) hS ?_
          refine wpAnyH_take (i := 1) (v := .slice (some ⟨b, o', none⟩) M cm) rfl (by kernel_rfl) (by kernel_rfl) (by kernel_rfl) (fun _ _ _ h => h) (Or.inl ⟨by rfl, fun w hw => by obtain ⟨s1, s2, s3, s4⟩ := hw; go_simp⟩) hS ?_
          refine wpAnyH_take (i := 2) (v := .int .i64 t) rfl (by kernel_rfl) (by kernel_rfl) (by kernel_rfl) (fun _ _ _ h => h) (Or.inl ⟨by rfl, fun w hw => by obtain ⟨s1, s2, s3, s4⟩ := hw; go_simp⟩) hS ?_
          refine wpAnyH_take (i := 3) (v := .pointer (some ⟨b, o' + t, none⟩)) rfl (by kernel_rfl) (by kernel_rfl) (by kernel_rfl) (fun _ _ _ h => h) (Or.inl ⟨by rfl, fun w hw => by obtain ⟨s1, s2, s3, s4⟩ := hw; go_simp⟩) hS ?_
          refine wpAnyH_take (i := 4) (v := .int .i64 ky) rfl (by kernel_rfl) (by kernel_rfl) (by kernel_rfl) (fun _ _ _ h => h) (Or.inl ⟨by rfl, fun w hw => by obtain ⟨s1, s2, s3, s4⟩ := hw; go_simp⟩) hS ?_
          refine wpAnyH_take (i := 5) (v := .int .i64 t) rfl (by kernel_rfl) (by kernel_rfl) (by kernel_rfl) (fun _ _ _ h => h) (Or.inl ⟨by rfl, fun w hw => by obtain ⟨s1, s2, s3, s4⟩ := hw; go_simp⟩) hS ?_
          refine wpAnyH_take (i := 6) (v := .int .i64 z) rfl (by kernel_rfl) (by kernel_rfl) (by kernel_rfl) (fun _ _ _ h => h) (Or.inl ⟨by rfl, fun w hw => by obtain ⟨s1, s2, s3, s4⟩ := hw; go_simp⟩) hS ?_
          refine wpAnyH_all (rs := [7]) (by kernel_rfl) (by simp) (fun i hi => ?_)
          obtain rfl : i = 7 := by simpa using hi
          refine held_call3 rfl rfl (.tmp 69) (.tmp 73) (.tmp 75) 23 3 3 11 rfl Try.call11 (.pointer (some ⟨g, 0, none⟩)) (.int .i64 ky) (.int .i64 z) (by simp [Act.eval, Act.put]) (by simp [Act.eval, Act.put]) (by simp [Act.eval, Act.put]) (hpush HH6.out.drew 2 rfl ky z (by have := HL.out; omega) (by have := HL.out; omega)) ?_
          rintro e w7 ⟨rfl, K', H7⟩
          have e1 : w7.cell? ⟨bh, 0, none⟩ = some (.pointer (some ⟨g, 0, none⟩)) := cellOf (H7.at_tb 3 rfl) rfl
          have e2 : w7.cell? ⟨bp, 0, none⟩ = some (.slice (some ⟨b, o', none⟩) M cm) := cellOf (H7.at_tb 0 rfl) rfl
          have e3 : w7.cell? ⟨bt, 0, none⟩ = some (.int .i64 t) := cellOf (H7.at_tb 7 rfl) rfl
          have e4 : w7.cell? ⟨b, o' + t, none⟩ = some (.int .i64 ky) := HKP.out w7 H7.bel
          refine ⟨_, rfl, ⟨e1, e2, e3, e4⟩, wpAnyH_done (by kernel_rfl) ?_ _⟩
          have e5 : w7.cell? ⟨bq, 0, none⟩ = some (.pointer (some ⟨s, 0, none⟩)) := cellOf (H7.at_tb 5 rfl) rfl
          have HH7 := hide H7
          clear H7 hS c1 c2 c3 hc f2 hi
          simp only [List.getElem_toArray, List.getElem_cons_succ, List.getElem_cons_zero]
          go_frame
          gi_wp2
          refine wpIn_held_round _ (fun W => W.cell? ⟨bq, 0, none⟩ = some (.pointer (some ⟨s, 0, none⟩)) ∧ W.cell? ⟨bp, 0, none⟩ = some (.slice (some ⟨b, o', none⟩) M cm) ∧ W.cell? ⟨bt, 0, none⟩ = some (.int .i64 t) ∧ W.cell? ⟨b, o' + t, none⟩ = some (.int .i64 ky)) hmix (by kernel_rfl) (fun ⟨_, _, h⟩ => h) ?_
          have hS : w7.drew.cell? ⟨bq, 0, none⟩ = some (.pointer (some ⟨s, 0, none⟩)) ∧ w7.drew.cell? ⟨bp, 0, none⟩ = some (.slice (some ⟨b, o', none⟩) M cm) ∧ w7.drew.cell? ⟨bt, 0, none⟩ = some (.int .i64 t) ∧ w7.drew.cell? ⟨b, o' + t, none⟩ = some (.int .i64 ky) := ⟨e5, e2, e3, e4⟩
          refine wpAnyH_take (i := 0) (v := .pointer (some ⟨s, 0, none⟩)) rfl (by kernel_rfl) (by kernel_rfl) (by kernel_rfl) (fun _ _ _ h => h) (Or.inl ⟨by rfl, fun w hw => by obtain ⟨s1, s2, s3, s4⟩ := hw; go_simp⟩) hS ?_
          refine wpAnyH_take (i := 1) (v := .slice (some ⟨b, o', none⟩) M cm) rfl (by kernel_rfl) (by kernel_rfl) (by kernel_rfl) (fun _ _ _ h => h) (Or.inl ⟨by rfl, fun w hw => by obtain ⟨s1, s2, s3, s4⟩ := hw; go_simp⟩) hS ?_
          refine wpAnyH_take (i := 2) (v := .int .i64 t) rfl (by kernel_rfl) (by kernel_rfl) (by kernel_rfl) (fun _ _ _ h => h) (Or.inl ⟨by rfl, fun w hw => by obtain ⟨s1, s2, s3, s4⟩ := hw; go_simp⟩) hS ?_
          refine wpAnyH_take (i := 3) (v := .pointer (some ⟨b, o' + t, none⟩)) rfl (by kernel_rfl) (by kernel_rfl) (by kernel_rfl) (fun _ _ _ h => h) (Or.inl ⟨by rfl, fun w hw => by obtain ⟨s1, s2, s3, s4⟩ := hw; go_simp⟩) hS ?_
          refine wpAnyH_take (i := 4) (v := .int .i64 ky) rfl (by kernel_rfl) (by kernel_rfl) (by kernel_rfl) (fun _ _ _ h => h) (Or.inl ⟨by rfl, fun w hw => by obtain ⟨s1, s2, s3, s4⟩ := hw; go_simp⟩) hS ?_
          refine wpAnyH_take (i := 5) (v := .int .i64 t) rfl (by kernel_rfl) (by kernel_rfl) (by kernel_rfl) (fun _ _ _ h => h) (Or.inl ⟨by rfl, fun w hw => by obtain ⟨s1, s2, s3, s4⟩ := hw; go_simp⟩) hS ?_
          refine wpAnyH_take (i := 6) (v := .int .i64 z) rfl (by kernel_rfl) (by kernel_rfl) (by kernel_rfl) (fun _ _ _ h => h) (Or.inl ⟨by rfl, fun w hw => by obtain ⟨s1, s2, s3, s4⟩ := hw; go_simp⟩) hS ?_
          refine wpAnyH_all (rs := [7]) (by kernel_rfl) (by simp) (fun i hi => ?_)
          obtain rfl : i = 7 := by simpa using hi
          refine held_call3 rfl rfl (.tmp 77) (.tmp 81) (.tmp 83) 25 3 3 12 rfl Try.call12 (.pointer (some ⟨s, 0, none⟩)) (.int .i64 ky) (.int .i64 z) (by simp [Act.eval, Act.put]) (by simp [Act.eval, Act.put]) (by simp [Act.eval, Act.put]) (hrpush HH7.out.drew 4 rfl (It.mk ky (n : Int) z) (by have := HL.out; omega)) ?_
          rintro e w8 ⟨rfl, L2, H8⟩
          have g1 : w8.cell? ⟨bq, 0, none⟩ = some (.pointer (some ⟨s, 0, none⟩)) := cellOf (H8.at_tb 5 rfl) rfl
          have g2 : w8.cell? ⟨bp, 0, none⟩ = some (.slice (some ⟨b, o', none⟩) M cm) := cellOf (H8.at_tb 0 rfl) rfl
          have g3 : w8.cell? ⟨bt, 0, none⟩ = some (.int .i64 t) := cellOf (H8.at_tb 7 rfl) rfl
          have g4 : w8.cell? ⟨b, o' + t, none⟩ = some (.int .i64 ky) := HKP.out w8 H8.bel
          refine ⟨_, rfl, ⟨g1, g2, g3, g4⟩, wpAnyH_done (by kernel_rfl) ?_ _⟩
          have f3 : w8.frozen? ⟨bt, 0, none⟩ = false := frozenOf (H8.at_tb 7 rfl)
          have HN : Hid (∃ m', m' < m ∧ InH w w5.heap.size (w5.heap.size + 1) (CmI (some ⟨b, o', none⟩) M cm keys.length bp br g bh s bq B bt m') o (w8.setCell ⟨bt, 0, none⟩ (.int .i64 ((t : Int) + 1)))) := by
            have H9 := H8.setB 7 rfl 0 (.int .i64 ((t : Int) + 1))
            obtain ⟨l1, l2, l3, l4, l5⟩ := HL.out
            exact ⟨(rest R ++ [It.mk ky (n : Int) z]).length + (M - (t + 1)), by rw [List.length_append]; simp only [List.length_singleton]; omega, cmX (some ⟨b, o', none⟩) M cm bp br g bh s bq B bt Kp Kr K' Kh L2 Kq KB Kt (rest R ++ [It.mk ky (n : Int) z]) (rest R ++ [It.mk ky (n : Int) z]) (t + 1) (n + 1), Kd, Kl, ⟨Kp, Kr, K', Kh, L2, Kq, KB, Kt, rest R ++ [It.mk ky (n : Int) z], t + 1, n + 1, rfl, rfl, by rw [List.length_append]; simp only [List.length_singleton]; omega, by omega, fun e => absurd e l5⟩, H9⟩
          clear H8 hS e1 e2 e3 e4 e5 hi
          simp only [List.getElem_toArray, List.getElem_cons_succ, List.getElem_cons_zero]
          go_frame
          gi_wp2
          exact HN.out
        · have htM' : ¬ (t : Int) < (M : Int) := by omega
          have HNO : Hid (∃ m', m' < m ∧ InH w w5.heap.size (w5.heap.size + 1) (CmI am M cm keys.length bp br g bh s bq B bt m') o (w6.setCell ⟨bt, 0, none⟩ (.int .i64 ((t : Int) + 1)))) := by
            have H7 := H6.setB 7 rfl 0 (.int .i64 ((t : Int) + 1))
            obtain ⟨l1, l2, l3, l4, l5⟩ := HL.out
            exact ⟨(rest R).length + (M - (t + 1)), by omega, cmX am M cm bp br g bh s bq B bt Kp Kr K Kh L' Kq KB Kt (rest R) (rest R) (t + 1) n, Kd, Kl, ⟨Kp, Kr, K, Kh, L', Kq, KB, Kt, rest R, t + 1, n, rfl, rfl, by omega, by omega, fun e => absurd e l5⟩, H7⟩
          clear H6
          gi_wp2
          exact HNO.out
      case done =>
        rintro o W ⟨xs, Kd, Kl, ⟨Kp, Kr, K, Kh, Ks, Kq, KB, Kt, t, n, rfl, ht, h0⟩, H⟩
        have d1 : W.cell? ⟨bh, 0, none⟩ = some (.pointer (some ⟨g, 0, none⟩)) := cellOf (H.at_tb 3 rfl) rfl
        have d2 : W.cell? ⟨bq, 0, none⟩ = some (.pointer (some ⟨s, 0, none⟩)) := cellOf (H.at_tb 5 rfl) rfl
        have d3 : W.cell? ⟨br, 0, none⟩ = some (.bool false) := cellOf (H.at_tb 1 rfl) rfl
        have d4 : W.cell? ⟨bt, 0, none⟩ = some (.int .i64 t) := cellOf (H.at_tb 7 rfl) rfl
        have d5 : W.cell? ⟨bp, 0, none⟩ = some (.slice am M cm) := cellOf (H.at_tb 0 rfl) rfl
        have f3 : W.frozen? ⟨br, 0, none⟩ = false := frozenOf (H.at_tb 1 rfl)
        have HH := hide H
        have HT := hide (And.intro ht h0)
        have ht2 : t ≤ 2097152 := by omega
        clear ht h0 H
        gi_wp2_with fail
        refine ⟨trivial, (callsIn_wide.2 (hlen HH.out 2 rfl)).mono ?_⟩
        rintro e w6 ⟨rfl, hw⟩
        subst hw
        gi_wp2_with fail
        refine ⟨trivial, (callsIn_wide.2 (hrlen HH.out 4 rfl)).mono ?_⟩
        rintro e w7 ⟨rfl, hw⟩
        subst hw
        have H8 := HH.out.setB 1 rfl 0 (.bool true)
        have hD := H8.at_tb 8 rfl
        have H9 := H8.putB 8 rfl (.deferred none)
        have hc9 := cellOf (k := 0) (H9.at_tb 1 rfl) rfl
        have HD := hide hD
        have H9B := hide H9.bel
        have HC9 := hide hc9
        clear H8 hD H9 hc9 HH
        by_cases hk0 : keys.length = 0
        · have ht0 : t = 0 := HT.out.2 hk0
          have hk0' : (keys.length : Int) = 0 := by omega
          subst ht0
          clear hk0
          gi_wp2
          refine ⟨by simp, .inl ⟨_, _, rfl, run_takeDeferred HD.out, ?_⟩⟩
          have hc := HC9.out
          refine ⟨.bool true, ?_, rfl, H9B.out⟩
          simp [results, Try.f3, go_sem, hc]
        · have hk0' : 0 < (keys.length : Int) := by omega
          have hmin : (keys.length : Int) + min (M : Int) (t : Int) = (t : Int) := by have := HT.out.1; omega
          clear hk0
          by_cases hMt : (M : Int) ≤ (t : Int)
          · have e : (t : Int) = (keys.length : Int) + (M : Int) := by omega
            have e2 : ((t : Int) == (keys.length : Int) + (M : Int)) = true := by simpa using e
            clear hmin e
            gi_wp2
            refine ⟨by simp, .inl ⟨_, _, rfl, run_takeDeferred HD.out, ?_⟩⟩
            have hc := HC9.out
            refine ⟨.bool true, ?_, rfl, H9B.out⟩
            simp [results, Try.f3, go_sem, hc]
          · have e : (t : Int) = (keys.length : Int) + (t : Int) := by omega
            omega
      case stop =>
        rintro c o W h
        exact h.elim

end Go.Proofs.Ytjhgjohnfkgleab
