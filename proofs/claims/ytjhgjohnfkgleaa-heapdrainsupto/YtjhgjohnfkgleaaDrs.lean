import Derived.Test.YtjhgjohnfkgleaaOrd
import Derived.Test.YtjhgjohnfkgleaaRord
import Derived.Test.YtjhgjohnfkgleaaOpenN
import Derived.Test.YtjhgjohnfkgleaaInr
namespace Go.Proofs.Ytjhgjohnfkgleaa
open Go.RowKit Go.Shelf Go.BigFrame
attribute [local go_sem] Oper.semAt_some
set_option maxRecDepth 20000

theorem rest_le (R : List (It Int)) : (rest R).length ≤ R.length - 1 := by
  by_cases h : R = []
  · subst h; exact Nat.le_refl _
  · have := rest_len h; omega

/-- The things of the loop. -/
def dsX (st : Int) (N bp br g bh s bq B bt : Nat) (Kp Kr K Kh Ks Kq KB Kt : Nat → Nat) (Rh Rr : List (It Int)) (t : Nat) : List ((Nat → Nat) × Thing) :=
  [(Kp, tb bp (.cells #[.int .i64 st] 3)), (Kr, tb br (.cells #[.bool false] 4)), (K, tq g Rh N), (Kh, tb bh (.cells #[.pointer (some ⟨g, 0, none⟩)] 46)), (Ks, tr s Rr), (Kq, tb bq (.cells #[.pointer (some ⟨s, 0, none⟩)] 53)), (KB, tb B (.cells #[.pointer (some ⟨g, 0, none⟩)] 46)), (Kt, tb bt (.cells #[.int .i64 (t : Nat)] 3))]

/-- What stands between two turns of the loop. -/
def DsI (st : Int) (N bp br g bh s bq B bt m : Nat) (xs : List ((Nat → Nat) × Thing)) : Prop :=
  ∃ Kp Kr K Kh Ks Kq KB Kt R t, xs = dsX st N bp br g bh s bq B bt Kp Kr K Kh Ks Kq KB Kt R R t ∧ m = R.length ∧ R.length + t = N ∧ ¬ (1 ≤ st ∧ st ≤ t)

/-- What stands behind the loop. -/
def DsE (st : Int) (N bp br g bh s bq B bt : Nat) (xs : List ((Nat → Nat) × Thing)) : Prop :=
  ∃ Kp Kr K Kh Ks Kq KB Kt R t, xs = dsX st N bp br g bh s bq B bt Kp Kr K Kh Ks Kq KB Kt R R t ∧ R.length + t = N ∧ (1 ≤ st ∧ st < N → (t : Int) = st) ∧ (¬ (1 ≤ st ∧ st < N) → t = N)

/-- What stands in a turn. -/
def DsY (st : Int) (N bp br g bh s bq B bt m : Nat) (x : Int × Int) (xs : List ((Nat → Nat) × Thing)) : Prop :=
  ∃ Kp Kr K Kh Ks Kq KB Kt R t, xs = dsX st N bp br g bh s bq B bt Kp Kr K Kh Ks Kq KB Kt (rest R) R t ∧ R ≠ [] ∧ m = R.length ∧ R.length + t = N ∧ ¬ (1 ≤ st ∧ st ≤ t) ∧ x = (pkK R, pkV R)

theorem ds_turn {W0 W : World} {st : Int} {N bp br g bh s bq B bt d lb m : Nat} {o : Obj} (hN : N ≤ 1048576) (h : InH W0 d lb (DsI st N bp br g bh s bq B bt m) o W) : Turn g B (fun x W => InH W0 d lb (DsY st N bp br g bh s bq B bt m x) o W) (fun W => InH W0 d lb (DsE st N bp br g bh s bq B bt) o W) W := by
  obtain ⟨xs, Kd, Kl, ⟨Kp, Kr, K, Kh, Ks, Kq, KB, Kt, R, t, rfl, hm, ht, hst⟩, H⟩ := h
  refine ⟨W0, _, 2, 6, K, KB, R, N, H, rfl, rfl, by omega, fun W' H' => ⟨fun hn => ?_, fun hn => ?_⟩⟩
  · subst hn
    have ht' : t = N := by simpa using ht
    exact ⟨dsX st N bp br g bh s bq B bt Kp Kr K Kh Ks Kq KB Kt [] [] t, Kd, Kl, ⟨Kp, Kr, K, Kh, Ks, Kq, KB, Kt, [], t, rfl, ht, fun h => by omega, fun _ => ht'⟩, H'⟩
  · exact ⟨dsX st N bp br g bh s bq B bt Kp Kr K Kh Ks Kq KB Kt (rest R) R t, Kd, Kl, ⟨Kp, Kr, K, Kh, Ks, Kq, KB, Kt, R, t, rfl, hn, hm, ht, hst, rfl⟩, H'⟩

set_option maxHeartbeats 1000000 in
theorem drains_walk (v : Value) (keys : List Int) (st : Int) (w : World) (hs : SI w v keys) (hn : keys.length ≤ 1048576) :
    Calls Try.prog 8 #[v, .int .i64 st] w fun e w' => e = .returned (.bool true) ∧ Below w.heap.size w w' := by
  obtain ⟨a0, c0, rfl⟩ := hs.len
  have HS := hide hs
  clear hs
  obtain ⟨Kp, H1⟩ := (Herd.nil w).box (.cells #[.int .i64 st] 3)
  obtain ⟨Kr, H2⟩ := H1.box (.cells #[.bool false] 4)
  obtain ⟨bp, hbp⟩ : ∃ bp, w.heap.size = bp := ⟨_, rfl⟩
  obtain ⟨w1, hw1⟩ : ∃ w1, w.alloc (.cells #[.int .i64 st] 3) = w1 := ⟨_, rfl⟩
  obtain ⟨br, hbr⟩ : ∃ br, w1.heap.size = br := ⟨_, rfl⟩
  obtain ⟨w2, hw2⟩ : ∃ w2, w1.alloc (.cells #[.bool false] 4) = w2 := ⟨_, rfl⟩
  rw [hw1, hw2, hbp, hbr] at H2
  have HH2 := hide H2
  clear H1 H2
  refine (callsIn_wide (n := 3)).1 ?_
  refine callsIn_of_wp_marks Try.func8 rfl trivial ?_ rfl
  simp only [Try.ntmps8, List.size_toArray, List.length_cons, List.length_nil, Nat.reduceAdd, Nat.reduceSub, Array.replicate_succ, Array.replicate_zero, List.push_toArray, List.append_toArray, List.nil_append, List.cons_append]
  refine wpIn_noPan ?_
  have hmix := mixd
  gi_wp2_with fail
  refine ⟨trivial, (callsIn_wide.2 (hnew HH2.out)).mono ?_⟩
  rintro e w3 ⟨g, K, rfl, H3⟩
  obtain ⟨Kh, H4⟩ := H3.box (.cells #[.pointer (some ⟨g, 0, none⟩)] 46)
  obtain ⟨bh, hbh⟩ : ∃ bh, w3.heap.size = bh := ⟨_, rfl⟩
  obtain ⟨w4, hw4⟩ : ∃ w4, w3.alloc (.cells #[.pointer (some ⟨g, 0, none⟩)] 46) = w4 := ⟨_, rfl⟩
  rw [hbh, hw4] at H4
  have d4 : w4.cell? ⟨bh, 0, none⟩ = some (.pointer (some ⟨g, 0, none⟩)) := cellOf (H4.at_tb 3 rfl) rfl
  have HH4 := hide H4
  clear H3 H4 hw1 hw2 hbp hbr
  gi_wp2_with fail
  refine ⟨trivial, (callsIn_wide.2 (hrnew HH4.out)).mono ?_⟩
  rintro e w5 ⟨s, Ks, rfl, H5⟩
  obtain ⟨Kq, H6⟩ := H5.box (.cells #[.pointer (some ⟨s, 0, none⟩)] 53)
  obtain ⟨bq, hbq⟩ : ∃ bq, w5.heap.size = bq := ⟨_, rfl⟩
  obtain ⟨w6, hw6⟩ : ∃ w6, w5.alloc (.cells #[.pointer (some ⟨s, 0, none⟩)] 53) = w6 := ⟨_, rfl⟩
  rw [hbq, hw6] at H6
  have HF : Hid (∃ K Ks, Herd w w6 [(Kp, tb bp (.cells #[.int .i64 st] 3)), (Kr, tb br (.cells #[.bool false] 4)), (K, tq g ((its keys).take 0) 0), (Kh, tb bh (.cells #[.pointer (some ⟨g, 0, none⟩)] 46)), (Ks, tr s ((its keys).take 0)), (Kq, tb bq (.cells #[.pointer (some ⟨s, 0, none⟩)] 53))]) := ⟨K, Ks, H6⟩
  clear H5 H6 HH4 HH2 d4
  gi_wp2
  clear hbh hw4 hbq hw6
  gi_loopw [7] (fun i wr => ∃ k : Nat, i = .int .i64 k ∧ k ≤ keys.length ∧ Hid (∃ K Ks, Herd w wr [(Kp, tb bp (.cells #[.int .i64 st] 3)), (Kr, tb br (.cells #[.bool false] 4)), (K, tq g ((its keys).take k) k), (Kh, tb bh (.cells #[.pointer (some ⟨g, 0, none⟩)] 46)), (Ks, tr s ((its keys).take k)), (Kq, tb bq (.cells #[.pointer (some ⟨s, 0, none⟩)] 53))])) (fun i _ => keys.length - (intOf i).toNat)
  case atStart => exact ⟨0, rfl, Nat.zero_le _, HF.out⟩
  case round =>
    obtain ⟨k, rfl, hk, HR⟩ := hrel
    obtain ⟨K, Ks, H⟩ := HR.out
    by_cases hlt : k < keys.length
    · have hlt' : (k : Int) < (keys.length : Int) := by omega
      obtain ⟨b, o, hab, hc⟩ := HS.out.cellAt H.bel hlt
      have HT := hide (its_take hlt)
      obtain ⟨ky, hky⟩ : ∃ ky, keys.getD k 0 = ky := ⟨_, rfl⟩
      rw [hky] at hc HT
      have HLN := hide (take_len keys hk)
      have d1 : wr.cell? ⟨bh, 0, none⟩ = some (.pointer (some ⟨g, 0, none⟩)) := cellOf (H.at_tb 3 rfl) rfl
      have HH := hide H
      have HKP : Hid (∀ w2, Below w.heap.size w w2 → w2.cell? ⟨b, o + k, none⟩ = some (.int .i64 ky)) := fun w2 h2 => by
        obtain ⟨b', o', e, q⟩ := HS.out.cellAt h2 hlt
        rw [hab] at e
        simp only [Option.some.injEq, Addr.mk.injEq] at e
        obtain ⟨rfl, rfl, -⟩ := e
        rw [hky] at q
        exact q
      subst hab
      clear hky H HR HF
      gi_wp2
      gi_region_with_o (refine ⟨trivial, (callsIn_wide.2 (hpush HH.out.drw 2 rfl ky k (by have := HLN.out; omega) (by omega))).mono ?_⟩; rintro e w2 ⟨rfl, K', H2⟩)
      all_goals
        have hc2 : w2.cell? ⟨b, o + k, none⟩ = some (.int .i64 ky) := HKP.out w2 H2.bel
        have d2 : w2.cell? ⟨bq, 0, none⟩ = some (.pointer (some ⟨s, 0, none⟩)) := cellOf (H2.at_tb 5 rfl) rfl
        have HH2 := hide H2
        clear H2 hc d1
        gi_wp2
        gi_region_with_o (refine ⟨trivial, (callsIn_wide.2 (hrpush HH2.out.drw 4 rfl (It.mk ky (k : Int) (k : Int)) (by have := HLN.out; omega))).mono ?_⟩; rintro e w3 ⟨rfl, L', H3⟩)
        all_goals
          have HN : Hid (∃ K Ks, Herd w w3 [(Kp, tb bp (.cells #[.int .i64 st] 3)), (Kr, tb br (.cells #[.bool false] 4)), (K, tq g ((its keys).take (k + 1)) (k + 1)), (Kh, tb bh (.cells #[.pointer (some ⟨g, 0, none⟩)] 46)), (Ks, tr s ((its keys).take (k + 1))), (Kq, tb bq (.cells #[.pointer (some ⟨s, 0, none⟩)] 53))]) := ⟨K', L', by rw [HT.out]; exact H3⟩
          clear H3
          gi_wp2
          go_roundw
          case rel => exact ⟨k + 1, by go_num, by omega, HN.out⟩
          case measure => simp [intOf]; omega
    · have hlt' : ¬ (k : Int) < (keys.length : Int) := by omega
      obtain rfl : k = keys.length := by omega
      have d1 : wr.cell? ⟨bh, 0, none⟩ = some (.pointer (some ⟨g, 0, none⟩)) := cellOf (H.at_tb 3 rfl) rfl
      have HH := hide H
      clear H HR HF hk hlt hlt'
      have he := fun (w : World) (f : Fn) (x y : Array Value) => eqlFunc (P := Try.prog) w _ (Try.underlying49) f x y
      gi_wp2_with fail
      refine ⟨trivial, (callsIn_wide.2 (drain_any g _)).mono ?_⟩
      rintro e w4 ⟨rfl, hw4⟩
      obtain ⟨KB, H4⟩ := HH.out.box (.cells #[.pointer (some ⟨g, 0, none⟩)] 46)
      rw [← hw4] at H4
      obtain ⟨B, hB⟩ : ∃ B, wr.heap.size = B := ⟨_, rfl⟩
      rw [hB] at H4 ⊢
      have hL4 := hlen H4 2 rfl
      rw [take_len keys (Nat.le_refl _)] at hL4
      have d4 : w4.cell? ⟨bh, 0, none⟩ = some (.pointer (some ⟨g, 0, none⟩)) := cellOf (H4.at_tb 3 rfl) rfl
      obtain ⟨Kt, H5⟩ := H4.box (.cells #[.int .i64 0] 3)
      obtain ⟨bt, hbt⟩ : ∃ bt, w4.heap.size = bt := ⟨_, rfl⟩
      obtain ⟨w5, hw5⟩ : ∃ w5, w4.alloc (.cells #[.int .i64 0] 3) = w5 := ⟨_, rfl⟩
      rw [hbt, hw5] at H5
      have HH5 := hide H5
      have HW5 := hide hw5
      have HBT := hide hbt
      clear H4 H5 hw4 hB HH d1 hw5 hbt
      gi_wp2_with fail
      refine ⟨trivial, (callsIn_wide.2 hL4).mono ?_⟩
      rintro e w4' ⟨rfl, hw⟩
      subst hw
      clear hL4 d4
      gi_wp2_with fail
      rw [HW5.out, HBT.out]
      clear HW5 HBT
      refine wp_range (α := Int × Int) keys.length rfl (by decide) (gf := 38) (lb := #[.pointer (some ⟨B, 0, none⟩)]) rfl trivial (enters_of Try.func38 (by kernel_rfl) rfl)
        (encs := fun x => #[.int .i64 x.1, .int .i64 x.2]) (fun _ => rfl) (fun m => InH w w5.heap.size (w5.heap.size + 1) (DsI st keys.length bp br g bh s bq B bt m)) (fun m x => InH w w5.heap.size (w5.heap.size + 1) (DsY st keys.length bp br g bh s bq B bt m x)) (InH w w5.heap.size (w5.heap.size + 1) (DsE st keys.length bp br g bh s bq B bt)) (fun c o W => c = .exit 2 ∧ InH w w5.heap.size (w5.heap.size + 1) (DsE st keys.length bp br g bh s bq B bt) o W)
        (fun _ => InH.rec _ _ _ _) (fun _ _ => InH.rec _ _ _ _) (InH.rec _ _ _ _) (fun _ => ⟨fun o W h => (InH.rec _ _ _ _).get o W h.2, fun o o' W h => ⟨h.1, (InH.rec _ _ _ _).put o o' W h.2⟩⟩) ?start ?seq ?a1 ?assign ?body ?done ?stop
      case start =>
        intro o
        refine InH.start HH5.out ⟨Kp, Kr, K, Kh, Ks, Kq, KB, Kt, _, 0, rfl, ?_, ?_, ?_⟩ o
        · rw [take_len keys (Nat.le_refl _)]
        · rw [take_len keys (Nat.le_refl _)]; omega
        · omega
      case seq =>
        intro o Jx hY W hW
        exact drain_in (w5.heap.size + 1) B g (fun m W => InH w w5.heap.size (w5.heap.size + 1) (DsI st keys.length bp br g bh s bq B bt m) o W) (fun m x W => InH w w5.heap.size (w5.heap.size + 1) (DsY st keys.length bp br g bh s bq B bt m x) o W) (InH w w5.heap.size (w5.heap.size + 1) (DsE st keys.length bp br g bh s bq B bt) o) Jx (fun m W h => ds_turn hn h) hY keys.length W hW Fence.wide rfl
      case assign =>
        intro x W K hK
        gi_wp2
        exact hK
      case body =>
        rintro m x o W ⟨xs, Kd, Kl, ⟨Kp, Kr, K, Kh, Ks, Kq, KB, Kt, R, t, rfl, hR0, hm, ht, hst, rfl⟩, H⟩
        have d1 : W.cell? ⟨bq, 0, none⟩ = some (.pointer (some ⟨s, 0, none⟩)) := cellOf (H.at_tb 5 rfl) rfl
        have hb : pkB R = true := by simp [pkB, hR0]
        have hP := hrpop H 4 rfl (by omega)
        rw [hb] at hP
        have hl := rest_len hR0
        have HL := hide (And.intro hl (And.intro hm (And.intro ht hst)))
        have ht2 : t ≤ 1048576 := by omega
        clear hb hl hm ht hR0 H hst
        gi_wp2_with fail
        refine ⟨trivial, (CallsIn.inRound _ (callsIn_wide.2 hP)).mono ?_⟩
        rintro e w6 ⟨rfl, L', H6⟩
        have c1 : w6.cell? ⟨bp, 0, none⟩ = some (.int .i64 st) := cellOf (H6.at_tb 0 rfl) rfl
        have c2 : w6.cell? ⟨bt, 0, none⟩ = some (.int .i64 t) := cellOf (H6.at_tb 7 rfl) rfl
        have c3 : w6.cell? ⟨bh, 0, none⟩ = some (.pointer (some ⟨g, 0, none⟩)) := cellOf (H6.at_tb 3 rfl) rfl
        have c4 : w6.cell? ⟨bq, 0, none⟩ = some (.pointer (some ⟨s, 0, none⟩)) := cellOf (H6.at_tb 5 rfl) rfl
        have f2 : w6.frozen? ⟨bt, 0, none⟩ = false := frozenOf (H6.at_tb 7 rfl)
        have HL1 : Hid (∀ k, CallsIn Fence.wide 0 Try.prog 27 #[.pointer (some ⟨g, 0, none⟩)] (w6.drewN k) fun e w'' => e = .returned (.int .i64 (rest R).length) ∧ ∃ m, w'' = w6.drewN m) := fun k => (callsIn_wide.2 (hlen (H6.drewN k) 2 rfl)).mono fun _ _ ⟨h1, h2⟩ => ⟨h1, k, h2⟩
        have HL2 : Hid (∀ k, CallsIn Fence.wide 0 Try.prog 31 #[.pointer (some ⟨s, 0, none⟩)] (w6.drewN k) fun e w'' => e = .returned (.int .i64 (rest R).length) ∧ ∃ m, w'' = w6.drewN m) := fun k => (callsIn_wide.2 (hrlen (H6.drewN k) 4 rfl)).mono fun _ _ ⟨h1, h2⟩ => ⟨h1, k, h2⟩
        have HH6 := hide H6
        clear hP d1 H6
        gi_wp2
        refine wpIn_quiet_round (F := Fence.wide) (n := 1) _ rfl hmix (by kernel_rfl) (by kernel_rfl) ?_
        have hfw : ∀ f, Fence.wide.fn f = True := fun _ => rfl
        repeat (gi_big_quiet_step (first | (gi_at_call 27; exact HL1.out _) | (gi_at_call 31; exact HL2.out _)))
        refine wpQuietIn_nil ?_
        intro _ hw'
        obtain ⟨nq, hw''⟩ := hw'
        subst hw''
        have H7 := HH6.out.drewN nq
        obtain ⟨w7, hw7⟩ : ∃ w7, w6.drewN nq = w7 := ⟨_, rfl⟩
        rw [hw7] at H7 ⊢
        have c1 : w7.cell? ⟨bp, 0, none⟩ = some (.int .i64 st) := cellOf (H7.at_tb 0 rfl) rfl
        have c2 : w7.cell? ⟨bt, 0, none⟩ = some (.int .i64 t) := cellOf (H7.at_tb 7 rfl) rfl
        have f2 : w7.frozen? ⟨bt, 0, none⟩ = false := frozenOf (H7.at_tb 7 rfl)
        have nbp : ¬ bp = bt := fun e => by
          have h1 := H7.at_tb 0 rfl
          have h2 := H7.at_tb 7 rfl
          have q := H7.sep 0 7 _ _ rfl rfl (by decide) bp (by have : (tb bp (.cells #[.int .i64 st] 3)).P w7 Kp := H7.rep 0 _ rfl; exact this.2.1)
          have q2 : (tb bt (.cells #[.int .i64 (t : Int)] 3)).P w7 Kt := H7.rep 7 _ rfl
          exact q2.2.1 (by rw [← e]; exact q)
        have H8 := hide (H7.setB 7 rfl 0 (.int .i64 ((t : Int) + 1)))
        clear hw7 H7 HH6 HL1 HL2 hfw
        by_cases hq : (t : Int) + 1 = st
        · gi_wp2
          have e8 : w7.setCell ⟨bt, 0, none⟩ (.int .i64 st) = w7.setCell ⟨bt, 0, none⟩ (.int .i64 ((t : Int) + 1)) := by rw [hq]
          rw [e8]
          refine ⟨rfl, dsX st keys.length bp br g bh s bq B bt Kp Kr K Kh L' Kq KB Kt (rest R) (rest R) (t + 1), Kd, Kl, ⟨Kp, Kr, K, Kh, L', Kq, KB, Kt, rest R, t + 1, rfl, ?_, ?_, ?_⟩, H8.out⟩
          all_goals (obtain ⟨l1, l2, l3, l4⟩ := HL.out; omega)
        · gi_wp2
          obtain ⟨l1, l2, l3, l4⟩ := HL.out
          exact ⟨(rest R).length, by omega, dsX st keys.length bp br g bh s bq B bt Kp Kr K Kh L' Kq KB Kt (rest R) (rest R) (t + 1), Kd, Kl, ⟨Kp, Kr, K, Kh, L', Kq, KB, Kt, rest R, t + 1, rfl, rfl, by omega, by omega⟩, H8.out⟩
      case' stop =>
        rintro c o W ⟨rfl, hE⟩
      case' done =>
        rintro o W hE
      all_goals
        obtain ⟨xs, Kd, Kl, ⟨Kp, Kr, K, Kh, Ks, Kq, KB, Kt, R, t, rfl, ht, hs1, hs2⟩, H⟩ := hE
        have c1 : W.cell? ⟨bp, 0, none⟩ = some (.int .i64 st) := cellOf (H.at_tb 0 rfl) rfl
        have c2 : W.cell? ⟨bt, 0, none⟩ = some (.int .i64 t) := cellOf (H.at_tb 7 rfl) rfl
        have ht2 : t ≤ keys.length := by omega
        have HST : Hid (∃ K Ks R', Herd w W (dsX st keys.length bp br g bh s bq B bt Kp Kr K Kh Ks Kq KB Kt R' R' t ++ [(Kd, tb w5.heap.size (.deferred (some []))), (Kl, tb (w5.heap.size + 1) o)]) ∧ R'.length ≤ 1048576) := ⟨K, Ks, R, H, by omega⟩
        clear H ht HH5
        by_cases h1 : 1 ≤ st
        · by_cases h2 : st < (keys.length : Int)
          · have e := hs1 ⟨h1, h2⟩
            have HE := hide e
            clear hs1 hs2
            gi_wp2
            clear e h1
            gi_loopw [15] (fun i wr => ∃ j : Nat, i = .int .i64 j ∧ j ≤ keys.length + 1 ∧ Hid (∃ K Ks R', Herd w wr (dsX st keys.length bp br g bh s bq B bt Kp Kr K Kh Ks Kq KB Kt R' R' t ++ [(Kd, tb w5.heap.size (.deferred (some []))), (Kl, tb (w5.heap.size + 1) o)]) ∧ R'.length ≤ 1048576)) (fun i _ => keys.length + 1 - (intOf i).toNat)
            case atStart => exact ⟨t, by first | rfl | rw [HE.out], by omega, HST.out⟩
            case round =>
              obtain ⟨j, rfl, hj, HR⟩ := hrel
              obtain ⟨K, Ks, R, H, hR⟩ := HR.out
              by_cases hlt : j ≤ keys.length
              · have hlt' : (j : Int) ≤ (keys.length : Int) := by omega
                have c3 : wr.cell? ⟨bh, 0, none⟩ = some (.pointer (some ⟨g, 0, none⟩)) := cellOf (H.at_tb 3 rfl) rfl
                have HH := hide H
                clear H HR
                gi_wp2_with fail
                refine ⟨trivial, (callsIn_wide.2 (hpop HH.out 2 rfl (by omega))).mono ?_⟩
                rintro e w6 ⟨rfl, H6⟩
                have c4 : w6.cell? ⟨bq, 0, none⟩ = some (.pointer (some ⟨s, 0, none⟩)) := cellOf (H6.at_tb 5 rfl) rfl
                have HH6 := hide H6
                clear H6
                gi_wp2_with fail
                refine ⟨trivial, (callsIn_wide.2 (hrpop HH6.out 4 rfl (by omega))).mono ?_⟩
                rintro e w7 ⟨rfl, L', H7⟩
                have HN : Hid (∃ K Ks R', Herd w w7 (dsX st keys.length bp br g bh s bq B bt Kp Kr K Kh Ks Kq KB Kt R' R' t ++ [(Kd, tb w5.heap.size (.deferred (some []))), (Kl, tb (w5.heap.size + 1) o)]) ∧ R'.length ≤ 1048576) := ⟨K, L', rest R, H7, by have := rest_le R; omega⟩
                clear H7 c3 c4
                gi_wp2
                go_roundw
                case rel => exact ⟨j + 1, by go_num, by omega, HN.out⟩
                case measure => simp [intOf]; omega
              · have hlt' : ¬ (j : Int) ≤ (keys.length : Int) := by omega
                have d3 : wr.cell? ⟨br, 0, none⟩ = some (.bool false) := cellOf (H.at_tb 1 rfl) rfl
                have f3 : wr.frozen? ⟨br, 0, none⟩ = false := frozenOf (H.at_tb 1 rfl)
                have H8 := H.setB 1 rfl 0 (.bool true)
                have hD := H8.at_tb 8 rfl
                have H9 := H8.putB 8 rfl (.deferred none)
                have hc9 := cellOf (k := 0) (H9.at_tb 1 rfl) rfl
                have HD := hide hD
                have H9B := hide H9.bel
                have HC9 := hide hc9
                clear H8 hD H9 hc9 H HR
                gi_wp2
                refine ⟨by simp, .inl ⟨_, _, rfl, run_takeDeferred HD.out, ?_⟩⟩
                have hc := HC9.out
                refine ⟨.bool true, ?_, rfl, H9B.out⟩
                simp [results, Try.f8, go_sem, hc]
          · have e : (t : Int) = (keys.length : Int) := by have := hs2 (by omega); omega
            have HE := hide e
            clear hs1 hs2
            gi_wp2
            clear e h1
            gi_loopw [15] (fun i wr => ∃ j : Nat, i = .int .i64 j ∧ j ≤ keys.length + 1 ∧ Hid (∃ K Ks R', Herd w wr (dsX st keys.length bp br g bh s bq B bt Kp Kr K Kh Ks Kq KB Kt R' R' t ++ [(Kd, tb w5.heap.size (.deferred (some []))), (Kl, tb (w5.heap.size + 1) o)]) ∧ R'.length ≤ 1048576)) (fun i _ => keys.length + 1 - (intOf i).toNat)
            case atStart => exact ⟨t, by first | rfl | rw [HE.out], by omega, HST.out⟩
            case round =>
              obtain ⟨j, rfl, hj, HR⟩ := hrel
              obtain ⟨K, Ks, R, H, hR⟩ := HR.out
              by_cases hlt : j ≤ keys.length
              · have hlt' : (j : Int) ≤ (keys.length : Int) := by omega
                have c3 : wr.cell? ⟨bh, 0, none⟩ = some (.pointer (some ⟨g, 0, none⟩)) := cellOf (H.at_tb 3 rfl) rfl
                have HH := hide H
                clear H HR
                gi_wp2_with fail
                refine ⟨trivial, (callsIn_wide.2 (hpop HH.out 2 rfl (by omega))).mono ?_⟩
                rintro e w6 ⟨rfl, H6⟩
                have c4 : w6.cell? ⟨bq, 0, none⟩ = some (.pointer (some ⟨s, 0, none⟩)) := cellOf (H6.at_tb 5 rfl) rfl
                have HH6 := hide H6
                clear H6
                gi_wp2_with fail
                refine ⟨trivial, (callsIn_wide.2 (hrpop HH6.out 4 rfl (by omega))).mono ?_⟩
                rintro e w7 ⟨rfl, L', H7⟩
                have HN : Hid (∃ K Ks R', Herd w w7 (dsX st keys.length bp br g bh s bq B bt Kp Kr K Kh Ks Kq KB Kt R' R' t ++ [(Kd, tb w5.heap.size (.deferred (some []))), (Kl, tb (w5.heap.size + 1) o)]) ∧ R'.length ≤ 1048576) := ⟨K, L', rest R, H7, by have := rest_le R; omega⟩
                clear H7 c3 c4
                gi_wp2
                go_roundw
                case rel => exact ⟨j + 1, by go_num, by omega, HN.out⟩
                case measure => simp [intOf]; omega
              · have hlt' : ¬ (j : Int) ≤ (keys.length : Int) := by omega
                have d3 : wr.cell? ⟨br, 0, none⟩ = some (.bool false) := cellOf (H.at_tb 1 rfl) rfl
                have f3 : wr.frozen? ⟨br, 0, none⟩ = false := frozenOf (H.at_tb 1 rfl)
                have H8 := H.setB 1 rfl 0 (.bool true)
                have hD := H8.at_tb 8 rfl
                have H9 := H8.putB 8 rfl (.deferred none)
                have hc9 := cellOf (k := 0) (H9.at_tb 1 rfl) rfl
                have HD := hide hD
                have H9B := hide H9.bel
                have HC9 := hide hc9
                clear H8 hD H9 hc9 H HR
                gi_wp2
                refine ⟨by simp, .inl ⟨_, _, rfl, run_takeDeferred HD.out, ?_⟩⟩
                have hc := HC9.out
                refine ⟨.bool true, ?_, rfl, H9B.out⟩
                simp [results, Try.f8, go_sem, hc]
        · have e : (t : Int) = (keys.length : Int) := by have := hs2 (by omega); omega
          have HE := hide e
          clear hs1 hs2
          gi_wp2
          clear e h1
          gi_loopw [15] (fun i wr => ∃ j : Nat, i = .int .i64 j ∧ j ≤ keys.length + 1 ∧ Hid (∃ K Ks R', Herd w wr (dsX st keys.length bp br g bh s bq B bt Kp Kr K Kh Ks Kq KB Kt R' R' t ++ [(Kd, tb w5.heap.size (.deferred (some []))), (Kl, tb (w5.heap.size + 1) o)]) ∧ R'.length ≤ 1048576)) (fun i _ => keys.length + 1 - (intOf i).toNat)
          case atStart => exact ⟨t, by first | rfl | rw [HE.out], by omega, HST.out⟩
          case round =>
            obtain ⟨j, rfl, hj, HR⟩ := hrel
            obtain ⟨K, Ks, R, H, hR⟩ := HR.out
            by_cases hlt : j ≤ keys.length
            · have hlt' : (j : Int) ≤ (keys.length : Int) := by omega
              have c3 : wr.cell? ⟨bh, 0, none⟩ = some (.pointer (some ⟨g, 0, none⟩)) := cellOf (H.at_tb 3 rfl) rfl
              have HH := hide H
              clear H HR
              gi_wp2_with fail
              refine ⟨trivial, (callsIn_wide.2 (hpop HH.out 2 rfl (by omega))).mono ?_⟩
              rintro e w6 ⟨rfl, H6⟩
              have c4 : w6.cell? ⟨bq, 0, none⟩ = some (.pointer (some ⟨s, 0, none⟩)) := cellOf (H6.at_tb 5 rfl) rfl
              have HH6 := hide H6
              clear H6
              gi_wp2_with fail
              refine ⟨trivial, (callsIn_wide.2 (hrpop HH6.out 4 rfl (by omega))).mono ?_⟩
              rintro e w7 ⟨rfl, L', H7⟩
              have HN : Hid (∃ K Ks R', Herd w w7 (dsX st keys.length bp br g bh s bq B bt Kp Kr K Kh Ks Kq KB Kt R' R' t ++ [(Kd, tb w5.heap.size (.deferred (some []))), (Kl, tb (w5.heap.size + 1) o)]) ∧ R'.length ≤ 1048576) := ⟨K, L', rest R, H7, by have := rest_le R; omega⟩
              clear H7 c3 c4
              gi_wp2
              go_roundw
              case rel => exact ⟨j + 1, by go_num, by omega, HN.out⟩
              case measure => simp [intOf]; omega
            · have hlt' : ¬ (j : Int) ≤ (keys.length : Int) := by omega
              have d3 : wr.cell? ⟨br, 0, none⟩ = some (.bool false) := cellOf (H.at_tb 1 rfl) rfl
              have f3 : wr.frozen? ⟨br, 0, none⟩ = false := frozenOf (H.at_tb 1 rfl)
              have H8 := H.setB 1 rfl 0 (.bool true)
              have hD := H8.at_tb 8 rfl
              have H9 := H8.putB 8 rfl (.deferred none)
              have hc9 := cellOf (k := 0) (H9.at_tb 1 rfl) rfl
              have HD := hide hD
              have H9B := hide H9.bel
              have HC9 := hide hc9
              clear H8 hD H9 hc9 H HR
              gi_wp2
              refine ⟨by simp, .inl ⟨_, _, rfl, run_takeDeferred HD.out, ?_⟩⟩
              have hc := HC9.out
              refine ⟨.bool true, ?_, rfl, H9B.out⟩
              simp [results, Try.f8, go_sem, hc]

end Go.Proofs.Ytjhgjohnfkgleaa
