import Derived.Test.YthjgabncifghaabWr2
namespace Go.Proofs.Ythjgabncifghaab
open Go.RowKit Go.Maps
set_option maxRecDepth 20000

set_option maxHeartbeats 4000000 in
theorem writes_walk (vo : Value) (ops : List BOp) (lim : Int) (w : World) (h1 : lim ≤ 9223372036854775807) (ho : BSc w vo ops) (hB : BOk ops) (hn : ops.length ≤ 1048576) :
    Calls Try.prog 8 #[.int .i64 lim, vo] w fun e w' => e = .returned (.bool true) ∧ Below w.heap.size w w' := by
  obtain ⟨ao, cap, rfl, hoc, hom, hops⟩ := ho
  unfold maxLen at hom
  have HOPS := hide hops
  have HB := hide hB
  obtain ⟨i8, hi8, hz80, hz81, hz82⟩ := info_parts info28
  have HI8 := hide hi8
  have HZ80 := hide hz80
  have HZ81 := hide hz81
  have HZ82 := hide hz82
  clear hops hB hi8 hz80 hz81 hz82
  go_enter Try.func8, Try.ntmps8
  go_wp2_with fail
  refine (newBuffer_any lim h1 w).mono ?_
  rintro e w1 ⟨g, K1, rfl, hb1, hu1, hbel1⟩
  have HH1 : Hid (Herd w w1 [(K1, g, .b (newSt lim))]) := (Herd.nil w).push hbel1 hb1 hu1
  clear hb1 hu1 hbel1
  go_wp2_with fail
  refine (rnewBuffer_any lim h1 w1).mono ?_
  rintro e w2 ⟨r, K2, rfl, hb2, hu2, hbel2⟩
  have HH2 : Hid (Herd w w2 [(K1, g, .b (newSt lim)), (K2, r, .r (rnewSt lim))]) := HH1.out.push hbel2 hb2 hu2
  have HR0 : Hid (Rnd w w2 g r 0 0 (.slice none 0 0) (.slice none 0 0) K1 K2 (fun _ => 0) (fun _ => 0) (newSt lim) (rnewSt lim) []) := by
    have hrow : RepX w2 (fun _ => 0) 0 (.row (.slice none 0 0) []) := ⟨World.ownsRow_nil _ _ _ _, (fun k hk => by simp [Value.ownBlock] at hk), fun k hk => absurd rfl hk⟩
    have h3 := HH2.out.push (Below.refl _ _) hrow (fun k hk => absurd rfl hk)
    have h4 := h3.push (Below.refl _ _) hrow (fun k hk => absurd rfl hk)
    exact ⟨rfl, h4, eqv_new lim, by unfold Short newSt; split <;> exact Nat.zero_le _, fun p hp => by cases hp⟩
  clear hb2 hu2 hbel2 HH1 HH2
  go_wp2
  go_loopw [7, 8, 9] (fun kv wv i wq => ∃ (k n : Nat) (ak aw : Option Addr) (ck cw : Nat), kv = .slice ak n ck ∧ wv = .slice aw n cw ∧ i = .int .i64 k ∧ k ≤ ops.length ∧ n ≤ k ∧ Hid (∃ K1 K2 K3 K4 s1 s2 ps, Rnd w wq g r k n (.slice ak n ck) (.slice aw n cw) K1 K2 K3 K4 s1 s2 ps)) (fun _ _ i _ => ops.length - (intOf i).toNat)
  case atStart => exact ⟨0, 0, none, none, 0, 0, rfl, rfl, rfl, Nat.zero_le _, Nat.le_refl _, K1, K2, _, _, _, _, [], HR0.out⟩
  case round =>
    clear HR0
    obtain ⟨k, n, ak, aw, ck, cw, rfl, rfl, rfl, hk, hnk, HQ⟩ := hrel
    obtain ⟨K1, K2, K3, K4, s1, s2, ps, hR⟩ := HQ.out
    have HR := hide hR
    clear HQ hR
    by_cases hlt : k < ops.length
    case pos =>
      obtain ⟨o, hoo⟩ : ∃ o, ops[k]? = some o := ⟨ops[k], by simp [hlt]⟩
      obtain ⟨b, of, hab, hc0, hc1, hc2, hc3⟩ := HOPS.out k o hoo
      obtain ⟨hk1, hk2, hk3⟩ := HB.out o (List.mem_of_getElem? hoo)
      subst hab
      have q0 : wr.cell? ⟨b, of + k * 4, none⟩ = some (.int .i64 o.kind) := (HR.out.herd.bel.cell (World.block_lt_of_cell? _ _ hc0)).trans hc0
      have q1 : wr.cell? ⟨b, of + k * 4 + 1, none⟩ = some (.int .i64 o.n) := (HR.out.herd.bel.cell (World.block_lt_of_cell? _ _ hc1)).trans hc1
      have q2 : wr.cell? ⟨b, of + k * 4 + 2, none⟩ = some (.int .i64 o.at') := (HR.out.herd.bel.cell (World.block_lt_of_cell? _ _ hc2)).trans hc2
      have q3 : wr.cell? ⟨b, of + k * 4 + 3, none⟩ = some (.string o.s) := (HR.out.herd.bel.cell (World.block_lt_of_cell? _ _ hc3)).trans hc3
      clear hc0 hc1 hc2 hc3 hoo
      by_cases hkd : o.kind = 8
      case neg =>
        have hkd' : (o.kind == 8) = false := by simpa using hkd
        go_wp2_with fail
        refine (bufStep_any 0 1 HR.out.herd rfl rfl (by decide) HR.out.eqv o.kind o.n o.at' o.s hk1 hk2 hk3 (HR.out.short.le (by omega))).mono ?_
        rintro e wq ⟨rfl, K1', K2', s1', s2', hH', hE', hl'⟩
        have HF : Hid (Rnd w wq g r (k + 1) n (.slice ak n ck) (.slice aw n cw) K1' K2' K3 K4 s1' s2' ps) := ⟨HR.out.len, hH', hE', HR.out.short.step hl', HR.out.few⟩
        clear hH' hE' hl' q0 q1 q2 q3
        go_wp2
        go_roundw
        case rel => exact ⟨k + 1, n, ak, aw, ck, cw, rfl, rfl, by go_num, by omega, by omega, K1', K2', K3, K4, s1', s2', ps, HF.out⟩
        case measure => simp [intOf]; omega
      case pos =>
        have hkd' : (o.kind == 8) = true := by simpa using hkd
        have hlm1 : s1.l.length ≤ 140737488351232 := Nat.le_trans (HR.out.short.le (by omega)) (by omega)
        have hlm2 : s2.l.length ≤ 140737488351232 := by rw [← HR.out.eqv.l]; exact hlm1
        obtain ⟨t, ht⟩ : ∃ t, t = if s1.e = 0 then s1.l else [] := ⟨_, rfl⟩
        have HT1 := hide ht
        have HT2 : Hid (t = if s2.e = 0 then s2.l else []) := by show _ = _; rw [ht, HR.out.eqv.l, HR.out.eqv.e]
        have htl : t.length ≤ 100000000000000 := by
          rw [ht]
          split
          · exact HR.out.short.le (by omega)
          · simp
        clear ht
        obtain ⟨u1, HU1⟩ : ∃ u, Hid (BuV true wr K1 g u s1) := HR.out.herd.rep 0 _ rfl
        go_wp2_with fail
        refine (btake_any HU1.out hlm1 t HT1.out).mono ?_
        rintro e w3 ⟨a3, c3, rfl, ho3, hb3⟩
        have HH3 := hide (HR.out.herd.push hb3 (list_rep ho3) (list_up ho3))
        obtain ⟨u2, HU2⟩ : ∃ u, Hid (BuV false w3 K2 r u s2) := HH3.out.rep 1 _ rfl
        clear ho3 hb3
        go_wp2_with fail
        refine (rbtake_any HU2.out hlm2 t HT2.out).mono ?_
        rintro e w4 ⟨a4, c4, rfl, ho4, hb4⟩
        have HH4 := hide (HH3.out.below hb4)
        have HO4 := hide ho4
        clear ho4 hb4
        go_wp2_with fail
        refine (copied_any _ t w4 HO4.out.sb (by omega)).mono ?_
        rintro e w5 ⟨rfl, ho5, hb5⟩
        obtain ⟨lv, hlv⟩ : ∃ lv, lv = Value.slice a3 t.length c3 := ⟨_, rfl⟩
        obtain ⟨mv, hmv⟩ : ∃ mv, mv = Value.slice (some ⟨w4.heap.size, 0, none⟩) t.length (t.length + 8) := ⟨_, rfl⟩
        have HLV := hide hlv
        have HMV := hide hmv
        have HH5 : Hid (Herd w w5 (front K1 K2 K3 K4 g r s1 s2 (.slice ak n ck) (.slice aw n cw) ps ++ tail (ps ++ [(lv, mv, t)]))) := by
          have h := HH4.out.push hb5 (list_rep ho5) (list_up ho5)
          rw [← hlv, ← hmv] at h
          rw [tail_snoc, ← List.append_assoc, ← List.append_assoc]
          exact h
        have HOl : Hid (OB w5 0 (.slice a3 t.length c3) t) := by
          have h := (HH4.out.below hb5).rep (front K1 K2 K3 K4 g r s1 s2 (.slice ak n ck) (.slice aw n cw) ps ++ tail ps).length _ (by rw [List.getElem?_append_right (Nat.le_refl _), Nat.sub_self]; rfl)
          exact h.1
        have HOm : Hid (OB w5 0 (.slice (some ⟨w4.heap.size, 0, none⟩) t.length (t.length + 8)) t) := ho5.base (Nat.zero_le _)
        obtain ⟨u5, HU5⟩ : ∃ u, Hid (BuV true w5 K1 g u s1) := HH5.out.rep 0 _ rfl
        clear ho5 hb5 hlv hmv HH3 HH4
        go_wp2_with fail
        refine (btake_any HU5.out hlm1 t HT1.out).mono ?_
        rintro e w6 ⟨a6, c6, rfl, ho6, hb6⟩
        have HH6 := hide (HH5.out.below hb6)
        have HO6 := hide ho6
        have HOl6 := hide (HOl.out.below hb6 (Nat.le_refl _))
        have HSz6 := hide hb6.size
        have HOm6 := hide (HOm.out.below hb6 (Nat.le_refl _))
        obtain ⟨u6, HU6⟩ : ∃ u, Hid (BuV false w6 K2 r u s2) := HH6.out.rep 1 _ rfl
        clear ho6 hb6
        go_wp2_with fail
        refine (rbtake_any HU6.out hlm2 t HT2.out).mono ?_
        rintro e w7 ⟨a7, c7, rfl, ho7, hb7⟩
        have HH7 := hide (HH6.out.below hb7)
        have HO6b := hide (HO6.out.below hb7 (Nat.le_refl _))
        have HO7 := hide ho7
        have HOl7 := hide (HOl6.out.below hb7 (Nat.le_refl _))
        have HSz7 := hide hb7.size
        have HOm7 := hide (HOm6.out.below hb7 (Nat.le_refl _))
        clear ho7 hb7
        go_wp2_with fail
        refine (same_any _ _ t t _ HOl7.out.sb HOm7.out.sb).mono ?_
        rintro e w8 ⟨rfl, n8, hw8⟩
        rw [eqB_self]
        have hb8 : Below w7.heap.size w7 w8 := by rw [hw8]; exact below_drewN (Below.refl _ _) _
        have HH8 := hide (HH7.out.below hb8)
        have HO6c := hide (HO6b.out.below hb8 (Nat.le_refl _))
        have HSz8 := hide hb8.size
        have HO7c := hide (HO7.out.below hb8 (Nat.le_refl _))
        clear hb8 hw8
        go_wp2_with fail
        refine (same_any _ _ t t _ HO6c.out.sb HO7c.out.sb).mono ?_
        rintro e w9 ⟨rfl, n9, hw9⟩
        rw [eqB_self]
        have hb9 : Below w8.heap.size w8 w9 := by rw [hw9]; exact below_drewN (Below.refl _ _) _
        have HH9 := hide (HH8.out.below hb9)
        have HO6d := hide (HO6c.out.below hb9 (Nat.le_refl _))
        have HS9 : Hid (w5.heap.size ≤ w9.heap.size) := by
          show _ ≤ _
          exact Nat.le_trans HSz6.out (Nat.le_trans HSz7.out (Nat.le_trans HSz8.out hb9.size))
        clear hb9 hw9
        go_wp2_with fail
        refine (spoil_any _ t _ w5.heap.size w9 HO6d.out (by omega) HS9.out).mono ?_
        rintro e wA ⟨rfl, hgA⟩
        have HHA : Hid (Herd w wA (front K1 K2 K3 K4 g r s1 s2 (.slice ak n ck) (.slice aw n cw) ps ++ tail (ps ++ [(lv, mv, t)]))) := HH9.out.aside hgA (fun x hx => by
          have hge := (HO6d.out.lt x hx).1
          exact ⟨Nat.le_trans HH5.out.bel.size hge, fun i d hd => HH5.out.zero hge i d hd⟩)
        have HRowK : Hid (wA.ownsRow 0 28 1 (.slice ak n ck) (ps.map (·.1)).length (ps.map (·.1))) := (HHA.out.rep 2 _ rfl).1
        have HNl : Hid ((ps.map (·.1)).length = n) := by show _ = _; rw [List.length_map]; exact HR.out.len
        have HN1 : Hid ((ps.map (·.1)).length + 1 ≤ maxLen) := by show _ ≤ _; rw [HNl.out]; unfold maxLen; omega
        have HN2 : Hid (((ps.map (·.1)).length + 1) * 24 ≤ 140737488355328) := by show _ ≤ _; rw [HNl.out]; omega
        clear hgA
        go_wp2_with (at_builtin; go_must (refine wpList_append_own_at _ rfl _ _ 61 rfl 0 28 i8 (.slice none 0 0) 1 24 Try.underlying61 HI8.out HZ80.out HZ81.out HZ82.out rfl (by decide) _ _ _ rfl (ownsRow_alloc HRowK.out _) ⟨wA.heap.size, 0, none⟩ 1 1 [.slice a3 t.length c3] rfl rfl (cell_one_new _ _ _) (fun u hu => by rw [List.mem_singleton.1 hu]; rfl) HN1.out HN2.out (Nat.zero_le _) ?_))
        intro vB wB hownB hgrowB _ hlocB
        have hownB' : wB.ownsRow 0 28 1 vB ((ps.map (·.1)).length + 1) (ps.map (·.1) ++ [.slice a3 t.length c3]) := by rw [List.length_map]; exact hownB
        obtain ⟨K3', hHB⟩ := HHA.out.rowApp 2 rfl hownB' hgrowB hlocB
        have hshB : ∃ aB cB, vB = .slice aB (n + 1) cB := by
          rcases hownB'.2 with ⟨_, h0⟩ | ⟨g8, c8, cur, hv, _⟩
          · omega
          · rw [HNl.out] at hv
            exact ⟨_, _, hv⟩
        obtain ⟨aB, cB, rfl⟩ := hshB
        have HHB : Hid (Herd w wB ([(K1, g, .b s1), (K2, r, .r s2), (K3', 0, .row (.slice aB (n + 1) cB) (ps.map (·.1) ++ [.slice a3 t.length c3])), (K4, 0, .row (.slice aw n cw) (ps.map (·.2.1)))] ++ tail (ps ++ [(lv, mv, t)]))) := hHB
        have HRowW : Hid (wB.ownsRow 0 28 1 (.slice aw n cw) (ps.map (·.2.1)).length (ps.map (·.2.1))) := (HHB.out.rep 3 _ rfl).1
        have HNw : Hid ((ps.map (·.2.1)).length = n) := by show _ = _; rw [List.length_map]; exact HR.out.len
        have HM1 : Hid ((ps.map (·.2.1)).length + 1 ≤ maxLen) := by show _ ≤ _; rw [HNw.out]; unfold maxLen; omega
        have HM2 : Hid (((ps.map (·.2.1)).length + 1) * 24 ≤ 140737488355328) := by show _ ≤ _; rw [HNw.out]; omega
        clear hownB hownB' hgrowB hlocB hHB HHA HRowK HN1 HN2
        go_wp2_with (at_builtin; go_must (refine wpList_append_own_at _ rfl _ _ 61 rfl 0 28 i8 (.slice none 0 0) 1 24 Try.underlying61 HI8.out HZ80.out HZ81.out HZ82.out rfl (by decide) _ _ _ rfl (ownsRow_alloc HRowW.out _) ⟨wB.heap.size, 0, none⟩ 1 1 [.slice (some ⟨w4.heap.size, 0, none⟩) t.length (t.length + 8)] rfl rfl (cell_one_new _ _ _) (fun u hu => by rw [List.mem_singleton.1 hu]; rfl) HM1.out HM2.out (Nat.zero_le _) ?_))
        intro vC wC hownC hgrowC _ hlocC
        have hownC' : wC.ownsRow 0 28 1 vC ((ps.map (·.2.1)).length + 1) (ps.map (·.2.1) ++ [.slice (some ⟨w4.heap.size, 0, none⟩) t.length (t.length + 8)]) := by rw [List.length_map]; exact hownC
        obtain ⟨K4', hHC⟩ := HHB.out.rowApp 3 rfl hownC' hgrowC hlocC
        have hshC : ∃ aC cC, vC = .slice aC (n + 1) cC := by
          rcases hownC'.2 with ⟨_, h0⟩ | ⟨g8, c8, cur, hv, _⟩
          · omega
          · rw [HNw.out] at hv
            exact ⟨_, _, hv⟩
        obtain ⟨aC, cC, rfl⟩ := hshC
        have HF : Hid (Rnd w wC g r (k + 1) (n + 1) (.slice aB (n + 1) cB) (.slice aC (n + 1) cC) K1 K2 K3' K4' s1 s2 (ps ++ [(lv, mv, t)])) := by
          have e : front K1 K2 K3' K4' g r s1 s2 (.slice aB (n + 1) cB) (.slice aC (n + 1) cC) (ps ++ [(lv, mv, t)]) = [(K1, g, .b s1), (K2, r, .r s2), (K3', 0, .row (.slice aB (n + 1) cB) (ps.map (·.1) ++ [.slice a3 t.length c3])), (K4', 0, .row (.slice aC (n + 1) cC) (ps.map (·.2.1) ++ [.slice (some ⟨w4.heap.size, 0, none⟩) t.length (t.length + 8)]))] := by
            unfold front
            rw [List.map_append, List.map_append, ← HLV.out, ← HMV.out]
            rfl
          refine ⟨by rw [List.length_append, HR.out.len]; rfl, ?_, HR.out.eqv, HR.out.short.more, fun p hp => ?_⟩
          · rw [e]
            exact hHC
          · rcases List.mem_append.1 hp with hp | hp
            · exact HR.out.few p hp
            · rw [List.mem_singleton.1 hp]
              exact htl
        clear hownC hownC' hgrowC hlocC hHC HHB HRowW HM1 HM2
        go_wp2
        go_roundw
        case rel => exact ⟨k + 1, n + 1, aB, aC, cB, cC, rfl, rfl, by go_num, by omega, by omega, K1, K2, K3', K4', s1, s2, _, HF.out⟩
        case measure => simp [intOf]; omega
    case neg =>
      have hlt' : ¬ (k : Int) < (ops.length : Int) := by omega
      have hn6 : n ≤ 1048576 := by omega
      have HNn : Hid (ps.length = n) := HR.out.len
      have hlm1 : s1.l.length ≤ 140737488351232 := Nat.le_trans (HR.out.short.le (by omega)) (by omega)
      have hlm2 : s2.l.length ≤ 140737488351232 := by rw [← HR.out.eqv.l]; exact hlm1
      obtain ⟨Wf, hWf⟩ : ∃ Wf, Wf = wr := ⟨_, rfl⟩
      subst hWf
      go_wp2
      go_loopw [15] (fun i wq => ∃ j q : Nat, i = .int .i64 j ∧ j ≤ n ∧ wq = Wf.drewN q) (fun i _ => n - (intOf i).toNat)
      case atStart => exact ⟨0, 0, rfl, Nat.zero_le _, rfl⟩
      case round =>
        obtain ⟨j, q, rfl, hj, hw⟩ := hrel
        subst hw
        by_cases hl : j < n
        · have hl' : (j : Int) < (n : Int) := by omega
          obtain ⟨p, hp⟩ : ∃ p, ps[j]? = some p := ⟨ps[j]'(by rw [HNn.out]; exact hl), by simp⟩
          obtain ⟨⟨gk, hgk, hck⟩, ⟨gw, hgw, hcw⟩, ho1, ho2⟩ := HR.out.kept hp
          subst hgk hgw
          have HS : Hid (∀ x, SB (Wf.drewN (q + x)) p.1 p.2.2 ∧ SB (Wf.drewN (q + x)) p.2.1 p.2.2) := fun x => ⟨ho1.sb.same fun _ _ => rfl, ho2.sb.same fun _ _ => rfl⟩
          obtain ⟨a1, c1, hv1⟩ := ho1.shape
          obtain ⟨a2, c2, hv2⟩ := ho2.shape
          obtain ⟨lv, mv, t⟩ := p
          simp only [] at hv1 hv2 hck hcw
          subst hv1 hv2
          have HCall : Hid (∀ x, Calls Try.prog 33 #[.slice a1 t.length c1, .slice a2 t.length c2] (Wf.drewN (q + x)) fun e w'' => e = .returned (.bool true) ∧ ∃ n1, w'' = Wf.drewN (q + n1)) := fun x => (same_any _ _ t t (Wf.drewN (q + x)) (HS.out x).1 (HS.out x).2).mono fun e w'' h => by
            obtain ⟨rfl, n1, hw1⟩ := h
            rw [eqB_self]
            refine ⟨rfl, x + n1, ?_⟩
            rw [hw1, World.drewN_drewN, Nat.add_assoc]
          clear hp ho1 ho2 HS
          go_wp2
          go_quiet (first | (go_at_call 33; exact HCall.out _))
          go_wp2
          go_roundw
          case rel => exact ⟨j + 1, _, by go_num, by omega, rfl⟩
          case measure => simp [intOf]; omega
        · have hl' : ¬ (j : Int) < (n : Int) := by omega
          obtain ⟨w1, hw1⟩ : ∃ w1, w1 = Wf.drewN q := ⟨_, rfl⟩
          have HR1 : Hid (Rnd w w1 g r k n (.slice ak n ck) (.slice aw n cw) K1 K2 K3 K4 s1 s2 ps) := HR.out.below (by rw [hw1]; exact below_drewN (Below.refl _ _) _)
          have HA : Hid (Calls Try.prog 46 #[.slice ak n ck] w1 fun e w' => e = .returned (.bool true) ∧ Keep (pairs ps) w1 w') := by
            obtain ⟨gR, hL, hne⟩ := HR1.out.lists hn6
            have h := apart_walk w1 0 gR ck ak (pairs ps) hL hne
            rw [show (pairs ps).length = n by unfold pairs; rw [List.length_map]; exact HNn.out] at h
            exact h
          rw [← hw1]
          clear hw1
          obtain ⟨t, HT1⟩ : ∃ t, Hid (t = if s1.e = 0 then s1.l else []) := ⟨_, rfl⟩
          have HT2 : Hid (t = if s2.e = 0 then s2.l else []) := by show _ = _; rw [HT1.out, HR.out.eqv.l, HR.out.eqv.e]
          go_wp2_with fail
          refine HA.out.mono ?_
          rintro e w2 ⟨rfl, hk2⟩
          have HH2 := hide (HR1.out.after hk2)
          clear hk2
          obtain ⟨u2, HU2⟩ : ∃ u, Hid (BuV true w2 K1 g u s1) := HH2.out.rep 0 _ rfl
          go_wp2_with fail
          refine (btake_any HU2.out hlm1 t HT1.out).mono ?_
          rintro e w3 ⟨a3, c3, rfl, ho3, hb3⟩
          have HH3 := hide (HH2.out.below hb3)
          have HO3 := hide ho3
          obtain ⟨u3, HU3⟩ : ∃ u, Hid (BuV false w3 K2 r u s2) := HH3.out.rep 1 _ rfl
          clear ho3 hb3
          go_wp2_with fail
          refine (rbtake_any HU3.out hlm2 t HT2.out).mono ?_
          rintro e w4 ⟨a4, c4, rfl, ho4, hb4⟩
          have HH4 := hide (HH3.out.below hb4)
          have HO3b := hide (HO3.out.below hb4 (Nat.le_refl _))
          have HO4 := hide ho4
          clear ho4 hb4
          go_wp2_with fail
          refine (same_any _ _ t t _ HO3b.out.sb HO4.out.sb).mono ?_
          rintro e w8 ⟨rfl, n8, hw8⟩
          rw [eqB_self]
          have hb8 : Below w4.heap.size w4 w8 := by rw [hw8]; exact below_drewN (Below.refl _ _) _
          have HH8 := hide (HH4.out.below hb8)
          clear hb8 hw8
          obtain ⟨v1, HV1⟩ : ∃ u, Hid (BuV true w8 K1 g u s1) := HH8.out.rep 0 _ rfl
          obtain ⟨v3, HV3⟩ : ∃ u, Hid (BuV false w8 K2 r u s2) := HH8.out.rep 1 _ rfl
          have el1 : s2.l.length = s1.l.length := by rw [HR.out.eqv.l]
          have ee1 : s2.e = s1.e := HR.out.eqv.e.symm
          go_wp2_with fail
          refine (blen_any HV1.out).mono ?_
          rintro e w' ⟨rfl, hw⟩
          subst hw
          go_wp2_with fail
          refine (rblen_any HV3.out).mono ?_
          rintro e w' ⟨rfl, hw⟩
          subst hw
          go_wp2_with fail
          refine (berr_any HV1.out).mono ?_
          rintro e w' ⟨rfl, hw⟩
          subst hw
          go_wp2_with fail
          refine (num_any _ _).mono ?_
          rintro e w' ⟨rfl, hw⟩
          subst hw
          go_wp2_with fail
          refine (rberr_any HV3.out).mono ?_
          rintro e w' ⟨rfl, hw⟩
          subst hw
          go_wp2
          go_ret
          exact ⟨rfl, HH8.out.bel⟩
end Go.Proofs.Ythjgabncifghaab
