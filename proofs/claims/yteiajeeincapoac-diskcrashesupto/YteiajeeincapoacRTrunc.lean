import Derived.Test.YteiajeeincapoacRSync
import Derived.Deep.OwnRows
namespace Go.Proofs.Yteiajeeincapoac
open Go.RowKit Go.Maps

def rtErr (st : RSt) (n : Int) : Int := if st.live = false then 12 else if n < 0 then 1 else if (st.room : Int) < n then 10 else if st.fuse = 0 then 12 else 0

def RTr (st : RSt) (n : Int) (st' : RSt) : Prop :=
  if st.live = false ∨ n < 0 ∨ (st.room : Int) < n then st' = st else if st.fuse = 0 ∨ n = st.now.length then st' = carrySt st else
  if (st.now.length : Int) < n then ∃ qs, RP st.now.length (List.replicate (n.toNat - st.now.length) 0) (List.replicate (n.toNat - st.now.length) (0 : Int)).length qs ∧ qs.length ≤ 40000 ∧ st' = layR (carrySt st) st.now.length (List.replicate (n.toNat - st.now.length) 0) qs
  else st' = { carrySt st with now := st.now.take n.toNat, sizes := st.sizes ++ [n.toNat] }

theorem step_call3 {P : Program} {ops : Array Oper} {o : Oper} {a : Act} {w : World} {K : Act → World → Prop} {Q : Exit → Act → World → Prop} {E : Prop} (hgd : o.guard = none) (x y z : Operand) (t u s : TypeId) (f : FuncId)
    (ho : o.op = .call { callee := .value (.func f), args := #[x, y, z], argTypes := #[t, u, s] }) (hcall : ∀ args w, (callFunc f args).run P w = .ok (.enter f args) w) (v1 v2 v3 : Value) (hx : a.eval x = v1) (hy : a.eval y = v2) (hz : a.eval z = v3) {R : Value → World → Prop}
    (hc : Calls P f #[v1, v2, v3] w fun e w' => ∃ u, e = .returned u ∧ R u w') (h : ∀ v w', R v w' → K (a.put o.dst v) w') :
    if Region.wanted o (yielded ops a.tmps) = true then Oper.wp P o a w K Q else E := by
  have hw : Region.wanted o (yielded ops a.tmps) = true := by simp [Region.wanted, hgd]
  rw [if_pos hw]
  have hrun : (execOp a.eval o).run P w = .ok (.enter f #[v1, v2, v3]) w := by
    obtain ⟨dst, op, type, pos, after, guard⟩ := o
    simp only [] at ho
    subst ho
    rw [execOp_call_go, hcall]
    simp [hx, hy, hz]
  unfold Oper.wp
  rw [hrun, Oper.upon_enter]
  refine hc.mono fun e w'' hh => ?_
  obtain ⟨v, rfl, hr⟩ := hh
  exact h _ _ hr

set_option linter.unusedSimpArgs false in
set_option maxRecDepth 20000 in
set_option maxHeartbeats 4000000 in
theorem rtrunc_any {w : World} {K : Nat → Nat} {g : Nat} {st : RSt} (n : Int) (h : RRep w K g st) (hI : RInv st) :
    Calls Try.prog 28 #[.pointer (some ⟨g, 0, none⟩), .int .i64 n] w fun e w' => e = .returned (.int .i64 (rtErr st n)) ∧ ∃ K' st', RRep w' K' g st' ∧ Fr K K' w w' ∧ RTr st n st' := by
  have HR := hide h
  obtain ⟨vn, vd, vp, vs, hV⟩ := h
  obtain ⟨c0, _, _, _, _, _, _, c7⟩ := hV.rc.at
  have h1 := hI.room
  have h2 := hI.now
  have h3 := hI.calls
  have h4 := hI.f1
  have h5 := hI.f2
  have h6 := hI.rps
  have h7 := hI.sizes
  clear hV hI
  cases hd : st.live
  case false =>
    have HE : Hid (rtErr st n = 12 ∧ RTr st n st) := ⟨by unfold rtErr; rw [if_pos hd], by unfold RTr; rw [if_pos (.inl hd)]⟩
    rw [hd] at c7
    clear hd
    go_enter Try.func28, Try.ntmps28
    go_wp2
    go_ret
    rw [HE.out.1]
    exact ⟨rfl, K, st, HR.out, Fr.refl _ _, HE.out.2⟩
  case true =>
    rw [hd] at c7
    have hd' : ¬ st.live = false := by rw [hd]; simp
    have HD := hide hd'
    clear hd hd'
    by_cases hn0 : n < 0
    · have HE : Hid (rtErr st n = 1 ∧ RTr st n st) := ⟨by unfold rtErr; rw [if_neg HD.out, if_pos hn0], by unfold RTr; rw [if_pos (.inr (.inl hn0))]⟩
      go_enter Try.func28, Try.ntmps28
      go_wp2
      go_ret
      rw [HE.out.1]
      exact ⟨rfl, K, st, HR.out, Fr.refl _ _, HE.out.2⟩
    · by_cases hnc : (st.room : Int) < n
      · have HE : Hid (rtErr st n = 10 ∧ RTr st n st) := ⟨by unfold rtErr; rw [if_neg HD.out, if_neg hn0, if_pos hnc], by unfold RTr; rw [if_pos (.inr (.inr hnc))]⟩
        go_enter Try.func28, Try.ntmps28
        go_wp2
        go_ret
        rw [HE.out.1]
        exact ⟨rfl, K, st, HR.out, Fr.refl _ _, HE.out.2⟩
      · obtain ⟨k, rfl⟩ := Int.eq_ofNat_of_zero_le (show 0 ≤ n by omega)
        have hbad : ¬ (st.live = false ∨ (k : Int) < 0 ∨ (st.room : Int) < (k : Int)) := by
          rintro (e | e | e)
          · exact HD.out e
          · omega
          · exact hnc e
        by_cases hf : st.fuse = 0
        · have HE : Hid (rtErr st k = 12 ∧ RTr st k (carrySt st)) := ⟨by unfold rtErr; rw [if_neg HD.out, if_neg hn0, if_neg hnc, if_pos hf], by unfold RTr; rw [if_neg hbad, if_pos (.inl hf)]⟩
          have HC : Hid ((!carryNo st) = false) := by show _ = _; simp [carryNo, hf]
          clear hbad hf
          go_enter Try.func28, Try.ntmps28
          go_wp2_with fail
          refine (carried_any HR.out (by omega) h4 h5).mono ?_
          rintro e w2 ⟨rfl, hR2, hF2⟩
          rw [HC.out]
          have HR2 := hide hR2
          have HF2 := hide hF2
          clear hR2 hF2 c0 c7
          go_wp2
          go_ret
          rw [HE.out.1]
          exact ⟨rfl, K, _, HR2.out, HF2.out, HE.out.2⟩
        · have HE1 : Hid (rtErr st k = 0) := by show _ = _; unfold rtErr; rw [if_neg HD.out, if_neg hn0, if_neg hnc, if_neg hf]
          have HC : Hid ((!carryNo st) = true) := by show _ = _; simp [carryNo, hf]
          have HCAR := hide (carry_same st)
          have HE2 : Hid (RTr st k = fun st' => if (k : Int) = st.now.length then st' = carrySt st else if (st.now.length : Int) < k then ∃ qs, RP st.now.length (List.replicate (k - st.now.length) 0) (k - st.now.length) qs ∧ qs.length ≤ 40000 ∧ st' = layR (carrySt st) st.now.length (List.replicate (k - st.now.length) 0) qs else st' = { carrySt st with now := st.now.take k, sizes := st.sizes ++ [k] }) := by
            show _ = _
            funext st'
            unfold RTr
            rw [if_neg hbad]
            have e : (st.fuse = 0 ∨ (k : Int) = st.now.length) = ((k : Int) = st.now.length) := by simp [hf]
            simp only [e, Int.toNat_natCast, List.length_replicate]
          clear hbad hf
          go_enter Try.func28, Try.ntmps28
          go_wp2_with fail
          refine (carried_any HR.out (by omega) h4 h5).mono ?_
          rintro e w2 ⟨rfl, hR2, hF2⟩
          rw [HC.out]
          have HR2 := hide hR2
          have HF2 := hide hF2
          obtain ⟨vn2, vd2, vp2, vs2, hV2⟩ := hR2
          obtain ⟨_, q1, _, _, q4, _⟩ := hV2.rc.at
          have hfz := hV2.rc.free
          obtain ⟨a2, c2, hvn2⟩ := hV2.hn.shape
          rw [HCAR.out.2.1] at hvn2
          subst hvn2
          have HV2 := hide hV2
          clear hF2 c0 c7 hV2
          by_cases hke : k = st.now.length
          · have hke' : ((k : Int) == (st.now.length : Int)) = true := beq_iff_eq.2 (by omega)
            have HFIN : Hid (RTr st k (carrySt st)) := by show RTr _ _ _; rw [HE2.out]; simp only; rw [if_pos (by omega)]; trivial
            clear hke
            go_wp2
            go_ret
            rw [HE1.out]
            exact ⟨rfl, K, _, HR2.out, HF2.out, HFIN.out⟩
          · have hke' : ((k : Int) == (st.now.length : Int)) = false := beq_eq_false_iff_ne.2 (by omega)
            by_cases hg : st.now.length < k
            · have hg' : (st.now.length : Int) < (k : Int) := by omega
              obtain ⟨Z, hZ⟩ : ∃ Z, Z = k - st.now.length := ⟨_, rfl⟩
              have hZi : (k : Int) - (st.now.length : Int) = (Z : Int) := by omega
              have HE3 : Hid (∀ qs, RP st.now.length (List.replicate Z 0) (List.replicate Z (0 : Int)).length qs → qs.length ≤ 40000 → RTr st k (layR (carrySt st) st.now.length (List.replicate Z 0) qs)) := by
                intro qs a1 a2
                rw [HE2.out]
                simp only
                rw [if_neg (by omega), if_pos hg', ← hZ]
                rw [List.length_replicate] at a1
                exact ⟨qs, a1, a2, rfl⟩
              have hmk := run_make_row' (P := Try.prog) 22 5 (.int .u8 0) 1 Try.underlying22 info5 rfl .i64 .i64 Z (by omega) (by omega)
              have k1 : (w2.alloc (.cells (madeCells #[.int .u8 0] Z) 5)).cell? ⟨g, 1, none⟩ = some (.slice a2 st.now.length c2) := keep1 ((Below.refl w2.heap.size w2).alloc (Nat.le_refl _) _) q1
              have hb3 : Below w2.heap.size w2 (w2.alloc (.cells (madeCells #[.int .u8 0] Z) 5)).drew := ((Below.refl w2.heap.size w2).alloc (Nat.le_refl _) _).drew
              have hob3 : OB (w2.alloc (.cells (madeCells #[.int .u8 0] Z) 5)).drew w2.heap.size (.slice (some ⟨w2.heap.size, 0, none⟩) (List.replicate Z (0 : Int)).length (List.replicate Z (0 : Int)).length) (List.replicate Z 0) := by
                refine OB.of_full ?_ (Nat.le_refl _) (by rw [List.length_replicate]; unfold maxLen; omega)
                have h : (w2.alloc (.cells (madeCells #[.int .u8 0] Z) 5)).heap[w2.heap.size]? = some (.cells (madeCells #[.int .u8 0] Z) 5 (0, 0)) := heap_alloc_new _ _
                have e : madeCells #[.int .u8 0] Z = ((List.replicate Z (0 : Int)).map (Value.int .u8)).toArray := by
                  apply Array.ext'
                  rw [madeBytes, List.map_replicate]
                rw [← e]
                exact h
              rw [List.length_replicate] at hob3
              have hk3 : Role K (.slice (some ⟨w2.heap.size, 0, none⟩) Z Z) 0 := fun q hq => by
                simp only [Value.ownBlock, Option.some.injEq] at hq
                by_cases e : K q = 0
                · exact e
                · have := HR2.out.sup q e; omega
              have HCL : Hid (Calls Try.prog 48 #[.pointer (some ⟨g, 0, none⟩), .int .i64 st.now.length, .slice (some ⟨w2.heap.size, 0, none⟩) Z Z] (w2.alloc (.cells (madeCells #[.int .u8 0] Z) 5)).drew fun e w' => ∃ u, e = .returned u ∧ u = .tuple #[] ∧ ∃ K4 qs, RP st.now.length (List.replicate Z 0) (List.replicate Z (0 : Int)).length qs ∧ qs.length ≤ 40000 ∧ RRep w' K4 g { carrySt st with now := splice (resz (carrySt st).now (max (carrySt st).now.length (st.now.length + (List.replicate Z (0 : Int)).length))) st.now.length (List.replicate Z 0), rps := (carrySt st).rps ++ qs } ∧ Fr K K4 w w') := by
                refine (rlay_any st.now.length (HR2.out.below hb3) (by rw [HCAR.out.2.1]; omega) (by rw [HCAR.out.2.1]; exact Nat.le_refl _) (by rw [List.length_replicate]; omega) (by rw [HCAR.out.2.2.2.1]; omega) hob3.sb hk3 (by rw [List.length_replicate]; omega)).mono ?_
                rintro e w' ⟨rfl, K4, qs, b1, b2, b3, b4⟩
                exact ⟨_, rfl, rfl, K4, qs, b1, b2, b3, (HF2.out.trans (Fr.of_below hb3)).trans b4⟩
              have HZZ := hide hZ
              have hwz : IntKind.i64.wrap (Z : Int) = (Z : Int) := by rw [IntKind.wrap_i64]; omega
              obtain ⟨i3, hi3, hz30, hz31, hz32⟩ := info_parts info3
              clear hke hg hb3 hob3 hk3 q4 hZ
              go_wp2_with fail
              go_region_law (refine step_call3 rfl (.tmp 39) (.tmp 44) (.tmp 52) 28 3 22 48 rfl Try.call48 (.pointer (some ⟨g, 0, none⟩)) (.int .i64 st.now.length) (.slice (some ⟨w2.heap.size, 0, none⟩) Z Z) (by simp [Act.eval, Act.put]) (by simp [Act.eval, Act.put]) (by simp [Act.eval, Act.put]) HCL.out ?_; rintro v w4 ⟨rfl, K4, qs, b1, b2, b3, b4⟩; have HB1 := hide b1; have HB2 := hide b2; have HB3 := hide b3; have HB4 := hide b4; clear b1 b2 b3 b4)
              all_goals
                have HFIN : Hid (RTr st k { carrySt st with now := splice (resz (carrySt st).now (max (carrySt st).now.length (st.now.length + (List.replicate Z (0 : Int)).length))) st.now.length (List.replicate Z 0), rps := (carrySt st).rps ++ qs, sizes := (carrySt st).sizes ++ [k] }) := by
                  have h := HE3.out qs HB1.out HB2.out
                  unfold layR at h
                  have ez : st.now.length + (List.replicate Z (0 : Int)).length = k := by rw [List.length_replicate, HZZ.out]; omega
                  rw [if_pos (by rw [HCAR.out.2.1, ez]; omega)] at h
                  rw [ez] at h ⊢
                  exact h
                obtain ⟨vn4, vd4, vp4, vs4, hR4⟩ := HB3.out
                obtain ⟨az, cz, hvs4⟩ := OI.shape hR4.hs
                simp only [HCAR.out.2.2.2.2] at hvs4
                subst hvs4
                obtain ⟨_, _, _, _, u4, _⟩ := hR4.rc.at
                have hf4 := hR4.rc.free
                have HSO : Hid (w4.ownsRow 0 3 1 (.slice az st.sizes.length cz) st.sizes.length (st.sizes.map fun (n : Nat) => Value.int .i64 n)) := by
                  have := hR4.hs
                  unfold OI at this
                  simp only [HCAR.out.2.2.2.2] at this
                  exact this
                have HR4 := hide hR4
                clear hR4 q1 hfz k1 hmk hwz hZi
                go_wp2_with (at_builtin; go_must (refine wpList_append_own_at _ rfl _ _ 24 rfl 0 3 i3 (.int .i64 0) 1 8 Try.underlying24 hi3 hz30 hz31 hz32 rfl (by decide) _ _ _ rfl (HSO.out.alloc _) ⟨w4.heap.size, 0, none⟩ 1 1 [.int .i64 k] rfl rfl (cell_one_new _ _ _) (ints_oneCell .i64 [(k : Int)]) (by unfold maxLen; omega) (by omega) (Nat.zero_le _) ?_))
                intro v' w6 hown hgrow _ hloc
                have hfin := rsizes_fin (n := k) (v' := v') HR4.out HB4.out (by simp only [HCAR.out.2.2.2.2]; exact hown) hgrow hloc
                have hoi : OI w6 v' (st.sizes ++ [k]) := by
                  show w6.ownsRow 0 3 1 v' (st.sizes ++ [k]).length _
                  rw [List.length_append, List.map_append]
                  exact hown
                obtain ⟨a6, c6, hv6⟩ := hoi.shape
                rw [List.length_append, List.length_singleton] at hv6
                have gl := HR4.out.rc.lt
                have hgne : some g ≠ (Value.slice az st.sizes.length cz).ownBlock := fun e => by have := HR4.out.ks g e.symm; rw [HR4.out.kg] at this; omega
                have hrc6 := HR4.out.rc.of_heap (w' := w6) ((hgrow.block g (by rw [size_alloc']; omega) hgne).trans (Below.heap_alloc _ _ g gl))
                obtain ⟨_, _, _, _, y4, _⟩ := hrc6.at
                have hf6 := hrc6.free
                have HFI := hide hfin
                clear hown hgrow hloc hfin hoi hrc6 hgne u4 hf4
                rw [hv6] at HFI ⊢
                clear hv6
                go_wp2
                go_ret
                rw [HE1.out]
                obtain ⟨K7, hR7, hF7⟩ := HFI.out
                exact ⟨rfl, K7, _, hR7, hF7, HFIN.out⟩
            · have hg' : ¬ (st.now.length : Int) < (k : Int) := by omega
              have HFIN : Hid (RTr st k { carrySt st with now := st.now.take k, sizes := (carrySt st).sizes ++ [k] }) := by
                show RTr _ _ _
                rw [HE2.out]
                simp only
                rw [if_neg (by omega), if_neg hg', HCAR.out.2.2.2.2]
              have hcc : st.now.length ≤ c2 ∧ c2 ≤ maxLen := by
                obtain ⟨a, c, e, k1, k2, _⟩ := HV2.out.hn.sb
                rw [HCAR.out.2.1] at e k1
                simp only [Value.slice.injEq] at e
                obtain ⟨-, -, rfl⟩ := e
                exact ⟨k1, k2⟩
              have hcc1 : (k : Int) ≤ (c2 : Int) := by omega
              have HSB : Hid (SB w2 (.slice a2 k c2) (st.now.take k)) := by
                have := HV2.out.hn.sb
                rw [HCAR.out.2.1] at this
                exact this.pre (by omega)
              have hlk : (st.now.take k).length = k := by simp; omega
              have HLK := hide hlk
              obtain ⟨i3, hi3, hz30, hz31, hz32⟩ := info_parts info3
              clear hcc hke hg hlk q4
              go_wp2_with fail
              refine (rClone_any _ (st.now.take k) _ HSB.out (by rw [HLK.out]; omega)).mono ?_
              rintro e w3 ⟨_, rfl, rfl, hn, hb3⟩
              rw [HLK.out] at hn ⊢
              have ho3 : OB w3 w2.heap.size (.slice (some ⟨w2.heap.size, 0, none⟩) k k) (st.now.take k) := hn
              have hgr3 : w2.grownBy w3 (Value.slice a2 st.now.length c2).ownBlock := ⟨hb3.os, hb3.tape, hb3.output, hb3.size, fun q hq _ => hb3.block q hq⟩
              obtain ⟨K4, hR4, hF4⟩ := HV2.out.setNow (ho3.base (Nat.zero_le _)) hgr3 (.inr fun q hq => (ho3.lt q hq).1)
              have hrc3 := HV2.out.rc.of_heap (hb3.block g HV2.out.rc.lt)
              obtain ⟨_, t1, _⟩ := hrc3.at
              have hf3 := hrc3.free
              obtain ⟨w4, hw4⟩ : ∃ w4, w4 = w3.setCell ⟨g, 1, none⟩ (.slice (some ⟨w2.heap.size, 0, none⟩) k k) := ⟨_, rfl⟩
              rw [← hw4] at hR4 hF4
              obtain ⟨az, cz, hvs4⟩ := OI.shape hR4.hs
              simp only [HCAR.out.2.2.2.2] at hvs4
              subst hvs4
              obtain ⟨_, _, _, _, u4, _⟩ := hR4.rc.at
              have hf4 := hR4.rc.free
              have HSO : Hid (w4.ownsRow 0 3 1 (.slice az st.sizes.length cz) st.sizes.length (st.sizes.map fun (n : Nat) => Value.int .i64 n)) := by
                have := hR4.hs
                unfold OI at this
                simp only [HCAR.out.2.2.2.2] at this
                exact this
              have HR4 := hide hR4
              have HF4 := hide (HF2.out.trans hF4)
              have HW4 := hide hw4
              rw [hw4] at u4 hf4
              clear hn hb3 ho3 hgr3 hR4 hF4 hrc3 q1 hfz hw4
              go_wp2_with (at_builtin; rw [← HW4.out]; go_must (refine wpList_append_own_at _ rfl _ _ 24 rfl 0 3 i3 (.int .i64 0) 1 8 Try.underlying24 hi3 hz30 hz31 hz32 rfl (by decide) _ _ _ rfl (HSO.out.alloc _) ⟨w3.heap.size, 0, none⟩ 1 1 [.int .i64 k] rfl rfl ?cc (ints_oneCell .i64 [(k : Int)]) (by unfold maxLen; omega) (by omega) (Nat.zero_le _) ?_))
              case cc =>
                have h := cell_one_new w4 (.int .i64 k) 3
                rw [show w4.heap.size = w3.heap.size by rw [HW4.out, size_setCell]] at h
                exact h
              intro v' w6 hown hgrow _ hloc
              have hfin := rsizes_fin (n := k) (v' := v') HR4.out HF4.out (by simp only [HCAR.out.2.2.2.2]; exact hown) hgrow hloc
              have hoi : OI w6 v' (st.sizes ++ [k]) := by
                show w6.ownsRow 0 3 1 v' (st.sizes ++ [k]).length _
                rw [List.length_append, List.map_append]
                exact hown
              obtain ⟨a6, c6, hv6⟩ := hoi.shape
              rw [List.length_append, List.length_singleton] at hv6
              have gl := HR4.out.rc.lt
              have hgne : some g ≠ (Value.slice az st.sizes.length cz).ownBlock := fun e => by have := HR4.out.ks g e.symm; rw [HR4.out.kg] at this; omega
              have hrc6 := HR4.out.rc.of_heap (w' := w6) ((hgrow.block g (by rw [size_alloc']; omega) hgne).trans (Below.heap_alloc _ _ g gl))
              obtain ⟨_, _, _, _, y4, _⟩ := hrc6.at
              have hf6 := hrc6.free
              have HFI := hide hfin
              clear hown hgrow hloc hfin hoi hrc6 hgne u4 hf4 t1 hf3
              rw [hv6] at HFI ⊢
              clear hv6
              go_wp2
              go_ret
              rw [HE1.out]
              obtain ⟨K7, hR7, hF7⟩ := HFI.out
              exact ⟨rfl, K7, _, hR7, hF7, HFIN.out⟩
end Go.Proofs.Yteiajeeincapoac
