import Derived.Test.YteiajeeincapoacRBoth
namespace Go.Proofs.Yteiajeeincapoac
open Go.RowKit Go.Maps

theorem SI.fr {w w' : World} {K K' : Nat → Nat} {v : Value} {l : List Int} (h : SI w v l) (hF : Fr K K' w w') (h0 : Role K v 0) : SI w' v l := by
  obtain ⟨ao, cap, rfl, h1, h2, h3, h4⟩ := h
  refine ⟨ao, cap, rfl, h1, h2, h3, fun x hx i hi => ?_⟩
  have := h4 x hx i hi
  rw [World.cell?_of_block (w := w) (hF.block (x.add i).block (World.block_lt_of_cell? _ _ this) (.inl (h0 _ (by subst hx; simp [Value.ownBlock, add_block]))))]
  exact this

theorem Herd.take {W w : World} {xs ys : List ((Nat → Nat) × Nat × Thing)} (h : Herd W w (xs ++ ys)) : Herd W w xs := by
  have e : ∀ (i : Nat) (d : (Nat → Nat) × Nat × Thing), xs[i]? = some d → (xs ++ ys)[i]? = some d := fun i d hd => by
    rw [List.getElem?_append_left (List.getElem?_eq_some_iff.1 hd).1]; exact hd
  exact ⟨h.bel, fun i d hd => h.rep i d (e i d hd), fun i d hd => h.up i d (e i d hd), fun i j d f hd hf => h.sep i j d f (e i d hd) (e j f hf)⟩

def one (b : Nat) : Nat → Nat := fun k => if k = b then 1 else 0

theorem box_rep {w : World} {b : Nat} {o : Obj} (h : w.heap[b]? = some o) : RepX w (one b) b (.box o) := ⟨h, by simp [one], fun k hk => by by_cases e : k = b; exact e; simp [one, e] at hk⟩

theorem one_up {b n : Nat} (h : n ≤ b) : ∀ k, one b k ≠ 0 → n ≤ k := fun k hk => by
  by_cases e : k = b
  · omega
  · simp [one, e] at hk

theorem opAt {w : World} {b : Nat} {o : OpP} {av : Option Addr} {cv : Nat} {asec : Option Addr} {csec : Nat} (h : w.heap[b]? = some (.cells #[.int .i64 o.kind, .int .i64 o.a, .int .i64 o.b, .slice av o.data.length cv, .int .i64 o.size, .slice asec o.sec.length csec, .int .i64 o.rest] 33 (0, 0))) :
    w.cell? ⟨b, 0, none⟩ = some (.int .i64 o.kind) ∧ w.cell? ⟨b, 1, none⟩ = some (.int .i64 o.a) ∧ w.cell? ⟨b, 2, none⟩ = some (.int .i64 o.b) ∧ w.cell? ⟨b, 3, none⟩ = some (.slice av o.data.length cv) ∧ w.cell? ⟨b, 4, none⟩ = some (.int .i64 o.size) ∧
    w.cell? ⟨b, 5, none⟩ = some (.slice asec o.sec.length csec) ∧ w.cell? ⟨b, 6, none⟩ = some (.int .i64 o.rest) := by
  simp [World.cell?, h]

set_option maxRecDepth 20000 in
set_option maxHeartbeats 4000000 in
theorem plays_walk (v vo : Value) (l : List Int) (ops : List OpP) (c : Int) (w : World) (hs : SB w v l) (hsl : l.length ≤ 140737488351232) (ho : SO w vo ops) (hB : OpsB ops) (hn1 : ops.length ≤ 1048576) (ha : ∀ o ∈ ops, o.a ≤ 9223372036854775807) :
    Calls Try.prog 5 #[v, .int .i64 c, vo] w fun e w' => e = .returned (.bool true) ∧ Below w.heap.size w w' := by
  have HS := hide hs
  have HO := hide ho
  obtain ⟨ao, k, hv, _, hk, _⟩ := hs
  subst hv
  obtain ⟨oo, ko, rfl, hko, hkm, hops⟩ := ho
  unfold maxLen at hk hkm
  have HH : Hid (Herd w w []) := ⟨Below.refl _ _, (fun i d hd => by simp at hd), (fun i d hd => by simp at hd), (fun i j d e hd => by simp at hd)⟩
  have HOPS := hide hops
  have HB := hide hB
  have HA := hide ha
  clear hops hB ha
  by_cases hc : (0 ≤ c ∧ c ≤ 16777216) ∧ (l.length : Int) ≤ c
  case neg =>
    go_enter Try.func5, Try.ntmps5
    go_wp2_with fail
    refine (made_none _ l c HH.out HS.out hsl hc).mono ?_
    rintro e w1 ⟨rfl, h1⟩
    have HH1 := hide h1
    clear h1 hc
    go_wp2
    refine wp_loop_rounds 1 ?_
    rw [rounds_succ]
    go_wp2
    all_goals go_ret
    all_goals exact ⟨rfl, HH1.out.bel⟩
  case pos =>
    obtain ⟨⟨hc0, hc1⟩, hc2⟩ := hc
    obtain ⟨cn, rfl⟩ := Int.eq_ofNat_of_zero_le hc0
    go_enter Try.func5, Try.ntmps5
    go_wp2_with fail
    refine (made_herd _ l cn HH.out HS.out (by omega) (by omega)).mono ?_
    rintro e w1 ⟨g, gr, K1, KR1, rfl, h1⟩
    have HH1 : Hid (Herd w w1 [(K1, g, .inl (stNew l cn)), (KR1, gr, .inr (rsNew l cn))]) := h1
    have HPN := hide (pair_new l cn (by omega) (by omega))
    clear h1
    go_wp2
    go_loopw [7, 8, 10] (fun sd sr i wr => ∃ k g gr : Nat, sd = .pointer (some ⟨g, 0, none⟩) ∧ sr = .pointer (some ⟨gr, 0, none⟩) ∧ i = .int .i64 k ∧ k ≤ ops.length ∧ Hid (∃ K KR st rs, Herd w wr [(K, g, .inl st), (KR, gr, .inr rs)] ∧ Pair st rs k)) (fun _ _ i _ => ops.length - (intOf i).toNat)
    case atStart => exact ⟨0, g, gr, rfl, rfl, rfl, Nat.zero_le _, K1, KR1, _, _, HH1.out, HPN.out⟩
    case round =>
      clear HH1 HPN
      obtain ⟨k, g, gr, rfl, rfl, rfl, hk, HQ⟩ := hrel
      obtain ⟨K, KR, st, rs, hH, hP⟩ := HQ.out
      have HD := hide hH
      have HP := hide hP
      clear HQ hH hP
      by_cases hlt : k < ops.length
      case neg =>
        go_wp2
        go_ret
        exact ⟨rfl, HD.out.bel⟩
      case pos =>
      have hlt' : (k : Int) < (ops.length : Int) := by omega
      obtain ⟨o, hoo⟩ : ∃ o, ops[k]? = some o := ⟨ops[k], by simp [hlt]⟩
      obtain ⟨b, of, av, cv, asec, csec, hab, hat⟩ := HOPS.out k o hoo
      have hdl := HB.out.data o (List.mem_of_getElem? hoo)
      have hsl2 := HB.out.sec o (List.mem_of_getElem? hoo)
      have hoa := HA.out o (List.mem_of_getElem? hoo)
      have HAT := hide hat
      rw [hab]
      clear hat hoo hab
      obtain ⟨q0, q1, q2, q3, q4, q5, q6, -, -⟩ := HAT.out.below HD.out.bel
      obtain ⟨V0, hV0⟩ : ∃ V0, V0 = wr.alloc (.cells #[.int .i64 o.kind, .int .i64 o.a, .int .i64 o.b, .slice av o.data.length cv, .int .i64 o.size, .slice asec o.sec.length csec, .int .i64 o.rest] 33) := ⟨_, rfl⟩
      have hb0 : Below wr.heap.size wr V0 := by rw [hV0]; exact (Below.refl _ _).alloc (Nat.le_refl _) _
      have HZ0 : Hid (V0.heap.size = wr.heap.size + 1) := by show _ = _; rw [hV0]; exact size_alloc' _ _
      have HX0 : Hid (V0.heap[wr.heap.size]? = some (.cells #[.int .i64 o.kind, .int .i64 o.a, .int .i64 o.b, .slice av o.data.length cv, .int .i64 o.size, .slice asec o.sec.length csec, .int .i64 o.rest] 33 (0, 0))) := by show _ = _; rw [hV0]; exact heap_alloc_new _ _
      have HD0 := hide (HD.out.below hb0)
      have HKz : Hid (∀ k, wr.heap.size ≤ k → K k = 0 ∧ KR k = 0) := fun k hk => ⟨(HD.out.rep 0 _ rfl).zero hk, (HD.out.rep 1 _ rfl).zero hk⟩
      have HV0 := hide hV0
      clear hV0 hb0
      have HSec0 : Hid (SI V0 (.slice asec o.sec.length csec) o.sec) := (HAT.out.sec.below HD.out.bel).below (by rw [HV0.out]; exact (Below.refl _ _).alloc (Nat.le_refl _) _)
      by_cases hkd : o.kind = 6
      case neg =>
        have hkd' : (o.kind == 6) = false := by simpa using hkd
        have HDB : Hid (Herd w V0 [(K, g, .inl st), (KR, gr, .inr rs), (one wr.heap.size, wr.heap.size, .box (.cells #[.int .i64 o.kind, .int .i64 o.a, .int .i64 o.b, .slice av o.data.length cv, .int .i64 o.size, .slice asec o.sec.length csec, .int .i64 o.rest] 33 (0, 0)))]) :=
          HD.out.push (by rw [HV0.out]; exact (Below.refl _ _).alloc (Nat.le_refl _) _) (box_rep HX0.out) (one_up (Nat.le_refl _))
        go_wp2_with fail
        rw [← HV0.out]
        refine (changes_any 0 1 o HDB.out rfl rfl (by decide) HP.out (by omega) HAT.out.data hdl hoa).mono ?_
        rintro e w2 ⟨rfl, K2, KR2, st2, rs2, hH2, hP2, -⟩
        have HD2 : Hid (Herd w w2 [(K2, g, .inl st2), (KR2, gr, .inr rs2), (one wr.heap.size, wr.heap.size, .box (.cells #[.int .i64 o.kind, .int .i64 o.a, .int .i64 o.b, .slice av o.data.length cv, .int .i64 o.size, .slice asec o.sec.length csec, .int .i64 o.rest] 33 (0, 0)))]) := hH2
        have HP2 := hide hP2
        obtain ⟨y0, y1, y2, y3, y4, y5, y6⟩ := opAt (HD2.out.rep 2 _ rfl).1
        clear hH2 hP2 q0 q1 q2 q3 q4 q5 q6
        go_wp2_with fail
        refine (asks_any 0 1 o HD2.out rfl rfl HP2.out).mono ?_
        rintro e w3 ⟨rfl, hH3⟩
        have HD3 : Hid (Herd w w3 [(K2, g, .inl st2), (KR2, gr, .inr rs2)]) := Herd.take (ys := [(one wr.heap.size, wr.heap.size, .box (.cells #[.int .i64 o.kind, .int .i64 o.a, .int .i64 o.b, .slice av o.data.length cv, .int .i64 o.size, .slice asec o.sec.length csec, .int .i64 o.rest] 33 (0, 0)))]) hH3
        clear hH3 y0 y1 y2 y3 y4 y5 y6
        go_wp2
        go_roundw
        case rel => exact ⟨k + 1, g, gr, rfl, rfl, by go_num, by omega, K2, KR2, st2, rs2, HD3.out, HP2.out⟩
        case measure => simp [intOf]; omega
      case pos =>
        have hkd' : (o.kind == 6) = true := by simpa using hkd
        have HKD := hide hkd
        rw [hkd] at HV0
        go_wp2_with fail
        rw [← HV0.out]
        refine (choice_any o.size o.rest (.slice asec o.sec.length csec) o.sec V0 HSec0.out hsl2).mono ?_
        rintro e w1 ⟨bc, rfl, hsc, hbc, hb1⟩
        obtain ⟨V1, hV1⟩ : ∃ V1, V1 = w1.alloc (.cells #[.int .i64 o.size, .slice (some ⟨bc, 0, none⟩) o.sec.length o.sec.length, .int .i64 o.rest] 26) := ⟨_, rfl⟩
        have hb2 : Below w1.heap.size w1 V1 := by rw [hV1]; exact (Below.refl _ _).alloc (Nat.le_refl _) _
        have HZ1 : Hid (wr.heap.size < w1.heap.size) := by show _ < _; have := hb1.size; rw [HZ0.out] at this; omega
        have HZ2 : Hid (V1.heap.size = w1.heap.size + 1) := by show _ = _; rw [hV1]; exact size_alloc' _ _
        have HXc : Hid (V1.heap[w1.heap.size]? = some (.cells #[.int .i64 o.size, .slice (some ⟨bc, 0, none⟩) o.sec.length o.sec.length, .int .i64 o.rest] 26 (0, 0))) := by show _ = _; rw [hV1]; exact heap_alloc_new _ _
        have HXo : Hid (V1.heap[wr.heap.size]? = some (.cells #[.int .i64 o.kind, .int .i64 o.a, .int .i64 o.b, .slice av o.data.length cv, .int .i64 o.size, .slice asec o.sec.length csec, .int .i64 o.rest] 33 (0, 0))) :=
          ((hb2.block wr.heap.size HZ1.out).trans (hb1.block wr.heap.size (by rw [HZ0.out]; omega))).trans HX0.out
        have HD1 := hide ((HD0.out.below hb1).below hb2)
        have HSc := hide (hsc.below hb2)
        have HSo := hide ((HSec0.out.below hb1).below hb2)
        have HBC : Hid (wr.heap.size ≤ bc) := by show _ ≤ _; have := HZ0.out; omega
        have HV1 := hide hV1
        clear hV1 hb1 hb2 hsc hbc q0 q1 q2 q3 q4 q5 q6
        have HRc : Hid (Role K (.slice (some ⟨bc, 0, none⟩) o.sec.length o.sec.length) 0 ∧ Role KR (.slice (some ⟨bc, 0, none⟩) o.sec.length o.sec.length) 0) := by
          have hz := HKz.out bc HBC.out
          exact ⟨fun q hq => by simp [Value.ownBlock] at hq; rw [← hq]; exact hz.1, fun q hq => by simp [Value.ownBlock] at hq; rw [← hq]; exact hz.2⟩
        go_wp2_with fail
        rw [← HV1.out]
        refine (dcrash_herd 0 o.size o.rest HD1.out rfl HP.out.inv HSc.out HRc.out.1).mono ?_
        rintro e w3 ⟨g2, K2, rfl, hH3, hF3⟩
        have HD3 : Hid (Herd w w3 [(K, g, .inl { st with dead := true }), (KR, gr, .inr rs), (K2, g2, .inl (stNew (outcomeL st (o.size, o.sec, o.rest)) st.cap))]) := hH3
        have HXo3 : Hid (w3.heap[wr.heap.size]? = some (.cells #[.int .i64 o.kind, .int .i64 o.a, .int .i64 o.b, .slice av o.data.length cv, .int .i64 o.size, .slice asec o.sec.length csec, .int .i64 o.rest] 33 (0, 0))) :=
          (hF3.block wr.heap.size (by have := HZ2.out; have := HZ1.out; omega) (.inl (HKz.out _ (Nat.le_refl _)).1)).trans HXo.out
        have HXc3 : Hid (w3.heap[w1.heap.size]? = some (.cells #[.int .i64 o.size, .slice (some ⟨bc, 0, none⟩) o.sec.length o.sec.length, .int .i64 o.rest] 26 (0, 0))) :=
          (hF3.block w1.heap.size (by have := HZ2.out; omega) (.inl (HKz.out _ (Nat.le_of_lt HZ1.out)).1)).trans HXc.out
        have HSc3 := hide (HSc.out.fr hF3 HRc.out.1)
        have HSo3 : Hid (SI w3 (.slice asec o.sec.length csec) o.sec) := HAT.out.sec.below HD3.out.bel
        have HS3 := hide hF3.size
        clear hH3 hF3
        obtain ⟨y0, y1, y2, y3, y4, y5, y6⟩ := opAt HXo3.out
        go_wp2_with fail
        refine (rcrash_herd 1 o.size o.rest HD3.out rfl HP.out (by omega) HSo3.out).mono ?_
        rintro e w4 ⟨g3, K3, rfl, hH4, hF4⟩
        have HD4 : Hid (Herd w w4 [(K, g, .inl { st with dead := true }), (KR, gr, .inr { rs with live := false }), (K2, g2, .inl (stNew (outcomeL st (o.size, o.sec, o.rest)) st.cap)), (K3, g3, .inr (rsNew (outcomeL st (o.size, o.sec, o.rest)) st.cap))]) := hH4
        have HXo4 : Hid (w4.heap[wr.heap.size]? = some (.cells #[.int .i64 o.kind, .int .i64 o.a, .int .i64 o.b, .slice av o.data.length cv, .int .i64 o.size, .slice asec o.sec.length csec, .int .i64 o.rest] 33 (0, 0))) :=
          (hF4.block wr.heap.size (by have := HZ2.out; have := HZ1.out; have := HS3.out; omega) (.inl (HKz.out _ (Nat.le_refl _)).2)).trans HXo3.out
        have HXc4 : Hid (w4.heap[w1.heap.size]? = some (.cells #[.int .i64 o.size, .slice (some ⟨bc, 0, none⟩) o.sec.length o.sec.length, .int .i64 o.rest] 26 (0, 0))) :=
          (hF4.block w1.heap.size (by have := HZ2.out; have := HS3.out; omega) (.inl (HKz.out _ (Nat.le_of_lt HZ1.out)).2)).trans HXc3.out
        have HSc4 := hide (HSc3.out.fr hF4 HRc.out.2)
        have HSo4 : Hid (SI w4 (.slice asec o.sec.length csec) o.sec) := HAT.out.sec.below HD4.out.bel
        clear hH4 hF4 y0 y1 y2 y3 y4 y5 y6
        obtain ⟨y0, y1, y2, y3, y4, y5, y6⟩ := opAt HXo4.out
        have z1 : w4.cell? ⟨w1.heap.size, 1, none⟩ = some (.slice (some ⟨bc, 0, none⟩) o.sec.length o.sec.length) := by have h := HXc4.out; simp [World.cell?, h]
        go_wp2_with fail
        refine (num_any _ _).mono ?_
        rintro e w4 ⟨rfl, rfl⟩
        go_wp2_with fail
        refine (equal_any _ _ o.sec _ HSc4.out HSo4.out).mono ?_
        rintro e w5 ⟨rfl, n5, hw5⟩
        have HFIN : Hid (∃ K KR st rs, Herd w w5 [(K, g2, .inl st), (KR, g3, .inr rs)] ∧ Pair st rs (k + 1)) := by
          have h2 : Herd w w5 [(K2, g2, .inl (stNew (outcomeL st (o.size, o.sec, o.rest)) st.cap)), (K3, g3, .inr (rsNew (outcomeL st (o.size, o.sec, o.rest)) st.cap))] := by
            rw [hw5]
            exact (HD4.out.drop 2).below (below_drewN (Below.refl _ _) _)
          refine ⟨_, _, _, _, h2, (pair_new _ _ HP.out.inv.p.cap ?_).upTo (Nat.zero_le _)⟩
          rw [length_outcomeL]
          exact HP.out.inv.p.behind _
        clear hw5
        go_wp2
        go_roundw
        case rel => exact ⟨k + 1, g2, g3, rfl, rfl, by go_num, by omega, HFIN.out⟩
        case measure => simp [intOf]; omega
end Go.Proofs.Yteiajeeincapoac
