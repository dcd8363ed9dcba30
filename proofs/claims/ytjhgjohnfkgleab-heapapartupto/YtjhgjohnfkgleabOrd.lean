import Derived.Test.YtjhgjohnfkgleabRng2
import Derived.Test.YtjhgjohnfkgleabDrm
namespace Go.Proofs.Ytjhgjohnfkgleab
open Go.RowKit Go.Shelf
attribute [local go_sem] Oper.semAt_some
set_option maxRecDepth 20000

/-- What stands between two turns of Order's loop. -/
def OrdI (keys : List Int) (g B bo n m : Nat) (xs : List ((Nat → Nat) × Thing)) : Prop :=
  ∃ K KB Ko Kv R ad cap l, xs = [(K, tq g R n), (Kv, tl (.slice ad l.length cap) l), (Ko, tb bo (.cells #[.slice ad l.length cap] 22)), (KB, tb B (.cells #[.pointer (some ⟨g, 0, none⟩)] 23))] ∧ m = R.length ∧ R.length ≤ 5864062014805 ∧ l ++ (drainAll R).map (·.val) = orderOf keys

/-- What stands in a turn of it. -/
def OrdY (keys : List Int) (g B bo n m : Nat) (x : Int × Int) (xs : List ((Nat → Nat) × Thing)) : Prop :=
  ∃ K KB Ko Kv R ad cap l, xs = [(K, tq g R n), (Kv, tl (.slice ad l.length cap) l), (Ko, tb bo (.cells #[.slice ad l.length cap] 22)), (KB, tb B (.cells #[.pointer (some ⟨g, 0, none⟩)] 23))] ∧ m = R.length + 1 ∧ R.length ≤ 5864062014805 ∧ l ++ x.2 :: (drainAll R).map (·.val) = orderOf keys

theorem ord_turn {W0 W : World} {keys : List Int} {g B bo n d lb m : Nat} {o : Obj} (h : InH W0 d lb (OrdI keys g B bo n m) o W) : Turn g B (fun x W => InH W0 d lb (OrdY keys g B bo n m x) o W) (fun W => InH W0 d lb (OrdI keys g B bo n 0) o W) W := by
  obtain ⟨xs, Kd, Kl, ⟨K, KB, Ko, Kv, R, ad, cap, l, rfl, hm, hR, he⟩, H⟩ := h
  refine ⟨W0, _, 0, 3, K, KB, R, n, H, rfl, rfl, by omega, fun W' H' => ⟨fun hn => ?_, fun hn => ?_⟩⟩
  · subst hn
    exact ⟨_, Kd, Kl, ⟨K, KB, Ko, Kv, [], ad, cap, l, rfl, rfl, Nat.zero_le _, he⟩, H'⟩
  · have hl := rest_len hn
    rw [drainAll_step hn] at he
    refine ⟨_, Kd, Kl, ⟨K, KB, Ko, Kv, rest R, ad, cap, l, rfl, by omega, by omega, ?_⟩, H'⟩
    rw [pkV_eq hn]
    exact he

set_option maxHeartbeats 1000000 in
theorem order_in (v : Value) (keys : List Int) (w : World) (hs : SI w v keys) (hn : keys.length ≤ 5864062014805) :
    Calls Try.prog 19 #[v] w fun e w' => ∃ a c, e = .returned (.slice a keys.length c) ∧ OI w' w.heap.size (.slice a keys.length c) (orderOf keys) ∧ Below w.heap.size w w' := by
  obtain ⟨a0, c0, rfl, h1, h2, h3, h4⟩ := hs
  unfold maxLen at h2
  have HC := hide h4
  clear h4
  refine (callsIn_wide (n := 3)).1 ?_
  refine callsIn_of_wp_marks Try.func19 rfl trivial ?_ rfl
  simp only [Try.ntmps19, List.size_toArray, List.length_cons, List.length_nil, Nat.reduceAdd, Nat.reduceSub, Array.replicate_succ, Array.replicate_zero, List.push_toArray, List.append_toArray, List.nil_append, List.cons_append]
  gi_wp2_with fail
  refine ⟨trivial, (callsIn_wide.2 (hnew (Herd.nil w))).mono ?_⟩
  rintro e w1 ⟨g, K, rfl, H1⟩
  have HF : Hid (∃ K, Herd w w1 [(K, tq g ((its keys).take 0) 0)]) := ⟨K, H1⟩
  clear H1
  gi_wp2
  gi_loopw [12] (fun i wr => ∃ k : Nat, i = .int .i64 k ∧ k ≤ keys.length ∧ Hid (∃ K, Herd w wr [(K, tq g ((its keys).take k) k)])) (fun i _ => keys.length - (intOf i).toNat)
  case atStart => exact ⟨0, rfl, Nat.zero_le _, HF.out⟩
  case round =>
    obtain ⟨k, rfl, hk, HR⟩ := hrel
    obtain ⟨K, H⟩ := HR.out
    by_cases hlt : k < keys.length
    · have hlt' : (k : Int) < (keys.length : Int) := by omega
      have hcell : ∃ b o, a0 = some ⟨b, o, none⟩ ∧ wr.cell? ⟨b, o + k, none⟩ = some (.int .i64 (keys.getD k 0)) := by
        cases a0 with
        | none => exact absurd (h3 rfl) (by omega)
        | some x =>
          obtain ⟨b, o, rfl⟩ := addr_lit (HC.out x rfl 0 (by omega))
          have := HC.out _ rfl k hlt
          rw [Addr.add_lit] at this
          exact ⟨b, o, rfl, (H.bel.cell (World.block_lt_of_cell? _ _ this)).trans this⟩
      obtain ⟨b, o, rfl, hc⟩ := hcell
      clear h3
      have HT := hide (its_take hlt)
      obtain ⟨ky, hky⟩ : ∃ ky, keys.getD k 0 = ky := ⟨_, rfl⟩
      rw [hky] at hc HT
      clear hky
      have hln := take_len keys hk
      have HLN := hide hln
      clear hln
      gi_wp2_with fail
      refine ⟨trivial, (callsIn_wide.2 (hpush H 0 rfl ky k (by have := HLN.out; omega) (by omega))).mono ?_⟩
      rintro e w2 ⟨rfl, K', H2⟩
      have HN : Hid (∃ K, Herd w w2 [(K, tq g ((its keys).take (k + 1)) (k + 1))]) := ⟨K', by rw [HT.out]; exact H2⟩
      clear H2
      gi_wp2
      go_roundw
      case rel => exact ⟨k + 1, by go_num, by omega, HN.out⟩
      case measure => simp [intOf]; omega
    · have hlt' : ¬ (k : Int) < (keys.length : Int) := by omega
      obtain rfl : k = keys.length := by omega
      obtain ⟨i0, hi0, hz0, hz1, hz2⟩ := info_parts infoInt
      gi_wp2_with (gi_at_make; refine wpListIn_make_own _ rfl _ _ 22 rfl wr.heap.size 3 i0 _ 1 Try.underlying22 hi0 hz0 hz1 .i64 .i64 _ keys.length rfl rfl rfl (by rw [hz2]; omega) (by unfold maxLen; omega) (Nat.le_refl _) ?_)
      intro w2 hown2 hg2
      have hb2 : Below wr.heap.size wr w2 := ⟨hg2.os, hg2.tape, hg2.output, hg2.size, fun k hk => hg2.block k hk (by simp)⟩
      obtain ⟨Kv, H2⟩ := H.list (v := .slice (some ⟨wr.heap.size, 0, none⟩) 0 keys.length) (l := []) hb2 hown2
      obtain ⟨Ko, H3⟩ := H2.box (.cells #[.slice (some ⟨wr.heap.size, 0, none⟩) 0 keys.length] 22)
      obtain ⟨bo, hbo⟩ : ∃ bo, w2.heap.size = bo := ⟨_, rfl⟩
      have HH3 := hide H3
      rw [hbo] at HH3
      have HW := hide hg2.size
      clear H HR hown2 hg2 hb2 H2 H3 hi0 hz0 hz1 hz2 hk hlt hlt'
      gi_wp2_with fail
      refine ⟨trivial, (callsIn_wide.2 (drain_any g _)).mono ?_⟩
      rintro e w4 ⟨rfl, hw4⟩
      obtain ⟨w3, hw3⟩ : ∃ w3, w2.alloc (.cells #[.slice (some ⟨wr.heap.size, 0, none⟩) 0 keys.length] 22) = w3 := ⟨_, rfl⟩
      rw [hw3] at HH3 hw4 ⊢
      obtain ⟨KB, H4⟩ := HH3.out.box (.cells #[.pointer (some ⟨g, 0, none⟩)] 23)
      rw [← hw4] at H4
      obtain ⟨B, hB⟩ : ∃ B, w3.heap.size = B := ⟨_, rfl⟩
      rw [hB] at H4 ⊢
      have HH4 := hide H4
      clear H4 HH3 hw3 hw4 hB
      gi_wp2_with fail
      refine wp_range (α := Int × Int) keys.length rfl (by decide) (gf := 29) (lb := #[.pointer (some ⟨B, 0, none⟩)]) rfl trivial (enters_of Try.func29 (by kernel_rfl) rfl)
        (encs := fun x => #[.int .i64 x.1, .int .i64 x.2]) (fun _ => rfl) (fun m => InH w w4.heap.size (w4.heap.size + 1) (OrdI keys g B bo keys.length m)) (fun m x => InH w w4.heap.size (w4.heap.size + 1) (OrdY keys g B bo keys.length m x)) (InH w w4.heap.size (w4.heap.size + 1) (OrdI keys g B bo keys.length 0)) (fun _ _ _ => False)
        (fun _ => InH.rec _ _ _ _) (fun _ _ => InH.rec _ _ _ _) (InH.rec _ _ _ _) (fun _ => ⟨fun _ _ h => h.elim, fun _ _ _ h => h.elim⟩) ?start ?seq ?a1 ?assign ?body ?done ?stop
      case start =>
        intro o
        refine InH.start HH4.out ⟨K, KB, Ko, Kv, _, _, _, [], rfl, ?_, ?_, ?_⟩ o
        · rw [take_len keys (Nat.le_refl _)]
        · rw [take_len keys (Nat.le_refl _)]; omega
        · rw [its_all]; rfl
      case seq =>
        intro o Jx hY W hW
        exact drain_in (w4.heap.size + 1) B g (fun m W => InH w w4.heap.size (w4.heap.size + 1) (OrdI keys g B bo keys.length m) o W) (fun m x W => InH w w4.heap.size (w4.heap.size + 1) (OrdY keys g B bo keys.length m x) o W) (InH w w4.heap.size (w4.heap.size + 1) (OrdI keys g B bo keys.length 0) o) Jx (fun m W h => ord_turn h) hY keys.length W hW Fence.wide rfl
      case assign =>
        intro x W K hK
        gi_wp2
        exact hK
      case body =>
        rintro m x o W ⟨xs, Kd, Kl, ⟨K, KB, Ko, Kv, R, ad, cap, l, rfl, hm, hR, he⟩, H⟩
        have c0 : W.cell? ⟨bo, 0, none⟩ = some (.slice ad l.length cap) := cellOf (H.at_tb 2 rfl) rfl
        have HE := hide he
        have hln : l.length ≤ 10000000000000 := by
          have := orderOf_len keys
          rw [← he] at this
          simp at this
          omega
        clear he
        obtain ⟨xk, xv⟩ := x
        gi_wp2_with (gi_at_builtin; refine wpListIn_int rfl _ _ rfl H 1 rfl xv _ rfl rfl hln ?_)
        intro ad' cap' w' K' H'
        have c1 : w'.cell? ⟨bo, 0, none⟩ = some (.slice ad l.length cap) := cellOf (H'.at_tb 2 rfl) rfl
        have f1 : w'.frozen? ⟨bo, 0, none⟩ = false := frozenOf (H'.at_tb 2 rfl)
        have H'' := hide (H'.setB 2 rfl 0 (.slice ad' (l.length + 1) cap'))
        clear H'
        gi_wp2
        refine ⟨R.length, by omega, [(K, tq g R keys.length), (K', tl (.slice ad' (l.length + 1) cap') (l ++ [xv])), (Ko, tb bo (.cells #[.slice ad' (l.length + 1) cap'] 22)), (KB, tb B (.cells #[.pointer (some ⟨g, 0, none⟩)] 23))], Kd, Kl, ⟨K, KB, Ko, K', R, ad', cap', l ++ [xv], ?_, rfl, hR, ?_⟩, H''.out⟩
        · rw [List.length_append]; rfl
        · rw [← HE.out]; simp
      case done =>
        rintro o W ⟨xs, Kd, Kl, ⟨K, KB, Ko, Kv, R, ad, cap, l, rfl, hm, hR, he⟩, H⟩
        obtain rfl : R = [] := List.eq_nil_of_length_eq_zero hm.symm
        have c0 : W.cell? ⟨bo, 0, none⟩ = some (.slice ad l.length cap) := cellOf (H.at_tb 2 rfl) rfl
        have hD : W.heap[w4.heap.size]? = some (.deferred (some [])) := H.at_tb 4 rfl
        have H5 := H.putB 4 rfl (.deferred none)
        have el : l = orderOf keys := by simpa [drainAll_nil] using he
        have HEL := hide el
        clear el he hm hR
        gi_wp2
        refine ⟨by simp, .inl ⟨_, _, rfl, run_takeDeferred hD, ?_⟩⟩
        refine ⟨_, results_tmp rfl _ _ _, ad, cap, ?_, ?_, H5.bel⟩
        · rw [← orderOf_len keys, ← HEL.out]; rfl
        · have := H5.oi 1 rfl
          rw [← orderOf_len keys, ← HEL.out]
          exact this
      case stop =>
        rintro c o W h
        exact h.elim

end Go.Proofs.Ytjhgjohnfkgleab
