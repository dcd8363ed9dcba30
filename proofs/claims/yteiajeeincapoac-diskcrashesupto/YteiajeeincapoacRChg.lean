import Derived.Test.YteiajeeincapoacRHerd
namespace Go.Proofs.Yteiajeeincapoac
open Go.RowKit Go.Maps

theorem set_same {α : Type} {l : List α} {x : α} {i : Nat} (h : l[i]? = some x) : l.set i x = l := by
  apply List.ext_getElem?
  intro k
  by_cases e : i = k
  · subst e
    rw [List.getElem?_set_self', h]
    rfl
  · rw [List.getElem?_set_ne e]

set_option linter.unusedSimpArgs false in
set_option maxRecDepth 20000 in
set_option maxHeartbeats 4000000 in
theorem changes_any {W w : World} {xs : List ((Nat → Nat) × Nat × Thing)} (i j : Nat) {K KR : Nat → Nat} {g gr n : Nat} {st : St} {rs : RSt} {av : Option Addr} {cv : Nat} {asec : Option Addr} {csec : Nat} (o : OpP) (h : Herd W w xs) (hi : xs[i]? = some (K, g, .inl st)) (hj : xs[j]? = some (KR, gr, .inr rs)) (hij : i ≠ j) (hP : Pair st rs n) (hn : n + 1 ≤ 2000000)
    (hv : SB W (.slice av o.data.length cv) o.data) (hr : o.data.length ≤ 140737488351232) (ha : o.a ≤ 9223372036854775807) :
    Calls Try.prog 7 #[.pointer (some ⟨g, 0, none⟩), .pointer (some ⟨gr, 0, none⟩), .agg #[.int .i64 o.kind, .int .i64 o.a, .int .i64 o.b, .slice av o.data.length cv, .int .i64 o.size, .slice asec o.sec.length csec, .int .i64 o.rest]] w
      fun e w' => e = .returned (.bool true) ∧ ∃ K' KR' st' rs', Herd W w' ((xs.set i (K', g, .inl st')).set j (KR', gr, .inr rs')) ∧ Pair st' rs' (n + 1) ∧ st'.cap = st.cap := by
  obtain ⟨kind, a, b, data, size, sec, rest⟩ := o
  simp only [] at hv hr ha ⊢
  obtain ⟨W0, hW0⟩ : ∃ W0, W0 = w.alloc (.cells #[.int .i64 kind, .int .i64 a, .int .i64 b, .slice av data.length cv, .int .i64 size, .slice asec sec.length csec, .int .i64 rest] 33) := ⟨_, rfl⟩
  have HW0 := hide hW0
  have hb0 : Below w.heap.size w W0 := by rw [hW0]; exact (Below.refl _ _).alloc (Nat.le_refl _) _
  have HZ0 : Hid (W0.heap.size = w.heap.size + 1) := by show _ = _; rw [hW0]; exact size_alloc' _ _
  have hbx0 : W0.heap[w.heap.size]? = some (.cells #[.int .i64 kind, .int .i64 a, .int .i64 b, .slice av data.length cv, .int .i64 size, .slice asec sec.length csec, .int .i64 rest] 33 (0, 0)) := by rw [hW0]; exact heap_alloc_new _ _
  have HBOX : Hid (∀ w' : World, w'.heap[w.heap.size]? = W0.heap[w.heap.size]? → w'.cell? ⟨w.heap.size, 0, none⟩ = some (.int .i64 kind) ∧ w'.cell? ⟨w.heap.size, 1, none⟩ = some (.int .i64 a) ∧ w'.cell? ⟨w.heap.size, 3, none⟩ = some (.slice av data.length cv)) := fun w' e => by
    rw [hbx0] at e
    simp [World.cell?, e]
  have HH0 := hide (h.below hb0)
  have HV := hide hv
  have HP := hide hP
  have HKB : Hid (K w.heap.size = 0 ∧ KR w.heap.size = 0) := ⟨(h.rep i _ hi).zero (Nat.le_refl _), (h.rep j _ hj).zero (Nat.le_refl _)⟩
  have HI := hide hi
  have HJ := hide hj
  have HIJ := hide hij
  obtain ⟨x0, x1, x3⟩ := HBOX.out W0 rfl
  clear hW0 hb0 hbx0 h hv hP hi hj hij
  by_cases h2 : kind = 2
  · subst h2
    go_enter Try.func7, Try.ntmps7
    go_wp2_with fail
    rw [← HW0.out]
    go_wp2_with fail
    refine (clone_any _ data _ (HV.out.below HH0.out.bel) hr).mono ?_
    rintro e w1 ⟨_, rfl, rfl, hg, hb1⟩
    have HO1 : Hid (OB w1 W0.heap.size (.slice (some ⟨W0.heap.size, 0, none⟩) data.length data.length) data) := hg
    have HH1 := hide (HH0.out.below hb1)
    have HS1 : Hid (w.heap.size < w1.heap.size) := by show _ < _; have := hb1.size; rw [HZ0.out] at this; omega
    have HX1 : Hid (w1.heap[w.heap.size]? = W0.heap[w.heap.size]?) := hb1.block w.heap.size (by rw [HZ0.out]; omega)
    clear hg hb1 x0 x1 x3
    obtain ⟨x0, x1, x3⟩ := HBOX.out w1 HX1.out
    go_wp2_with fail
    refine (write_any a (HH1.out.rep i _ HI.out) HP.out.inv.p HP.out.inv.s HO1.out.sb (HH0.out.role HI.out (Nat.le_refl _) HO1.out)).mono ?_
    rintro e w2 ⟨rfl, K2, hR2, hF2⟩
    have HH2 := hide (HH1.out.op i HI.out (x' := .inl (writeSt st a data)) hR2 hF2)
    have HO2 := hide (HO1.out.fr (HH0.out.role HI.out (Nat.le_refl _) HO1.out) hF2).1
    have HS2 : Hid (w.heap.size < w2.heap.size) := Nat.lt_of_lt_of_le HS1.out hF2.size
    have HX2 : Hid (w2.heap[w.heap.size]? = W0.heap[w.heap.size]?) := (hF2.block w.heap.size HS1.out (.inl HKB.out.1)).trans HX1.out
    have HJ2 := hide (set_other (x := (K2, g, Thing.inl (writeSt st a data))) HJ.out HIJ.out)
    clear hR2 hF2 x0 x1 x3
    obtain ⟨x0, x1, x3⟩ := HBOX.out w2 HX2.out
    go_wp2_with fail
    refine (rwrite_any a (HH2.out.rep j _ HJ2.out) (HP.out.rinv (by omega)) (HV.out.below HH2.out.bel) (arg_role HV.out (HH2.out.up j _ HJ2.out))).mono ?_
    rintro e w3 ⟨rfl, KR3, rs3, hR3, hF3, hW3⟩
    have HE3 := hide (HP.out.sim.write a data hW3).2
    have HP3 := hide (HP.out.write hn a data hW3)
    have HH3 := hide (HH2.out.op j HJ2.out (x' := .inr rs3) hR3 hF3)
    have HO3 := hide (HO2.out.fr (HH0.out.role HJ.out (Nat.le_refl _) HO1.out) hF3).1
    have HX3 : Hid (w3.heap[w.heap.size]? = W0.heap[w.heap.size]?) := (hF3.block w.heap.size HS2.out (.inl HKB.out.2)).trans HX2.out
    rw [HE3.out]
    clear hR3 hF3 hW3 x0 x1 x3
    obtain ⟨x0, x1, x3⟩ := HBOX.out w3 HX3.out
    obtain ⟨ee, hee⟩ : ∃ ee, ee = writeErr st a data.length := ⟨_, rfl⟩
    rw [← hee]
    have hself : (ee == ee) = true := by simp
    clear hee
    go_wp2_with fail
    refine (num_any _ _).mono ?_
    rintro e w3 ⟨rfl, rfl⟩
    go_wp2_with fail
    refine (same_any _ _ data data _ HO3.out.sb (HV.out.below HH3.out.bel)).mono ?_
    rintro e w4 ⟨rfl, n4, hw4⟩
    rw [eqB_self]
    have HH4 := hide (HH3.out.below (show Below w3.heap.size w3 w4 by rw [hw4]; exact below_drewN (Below.refl _ _) _))
    clear hw4
    go_wp2
    go_ret
    exact ⟨rfl, K2, KR3, _, rs3, HH4.out, HP3.out, (HP.out.inv.write a data).cap⟩
  · by_cases h3 : kind = 3
    · subst h3
      clear h2
      go_enter Try.func7, Try.ntmps7
      go_wp2_with fail
      rw [← HW0.out]
      go_wp2_with fail
      refine (truncate_any a (HH0.out.rep i _ HI.out) HP.out.inv.p HP.out.inv.s).mono ?_
      rintro e w2 ⟨rfl, K2, hR2, hF2⟩
      have HH2 := hide (HH0.out.op i HI.out (x' := .inl (truncSt st a)) hR2 hF2)
      have HX2 : Hid (w2.heap[w.heap.size]? = W0.heap[w.heap.size]?) := hF2.block w.heap.size (by rw [HZ0.out]; omega) (.inl HKB.out.1)
      have HJ2 := hide (set_other (x := (K2, g, Thing.inl (truncSt st a))) HJ.out HIJ.out)
      clear hR2 hF2 x0 x1 x3
      obtain ⟨x0, x1, x3⟩ := HBOX.out w2 HX2.out
      go_wp2_with fail
      refine (rtrunc_any a (HH2.out.rep j _ HJ2.out) (HP.out.rinv (by omega))).mono ?_
      rintro e w3 ⟨rfl, KR3, rs3, hR3, hF3, hW3⟩
      have HE3 := hide (HP.out.sim.trunc a hW3).2
      have HP3 := hide (HP.out.trunc hn a hW3)
      have HH3 := hide (HH2.out.op j HJ2.out (x' := .inr rs3) hR3 hF3)
      rw [HE3.out]
      clear hR3 hF3 hW3 x0 x1 x3
      obtain ⟨ee, hee⟩ : ∃ ee, ee = truncErr st a := ⟨_, rfl⟩
      rw [← hee]
      have hself : (ee == ee) = true := by simp
      clear hee
      go_wp2_with fail
      refine (num_any _ _).mono ?_
      rintro e w3 ⟨rfl, rfl⟩
      go_wp2
      go_ret
      exact ⟨by simp, K2, KR3, _, rs3, HH3.out, HP3.out, (HP.out.inv.trunc a).cap⟩
    · by_cases h4 : kind = 4
      · subst h4
        clear h2 h3
        go_enter Try.func7, Try.ntmps7
        go_wp2_with fail
        rw [← HW0.out]
        go_wp2_with fail
        refine (sync_any (HH0.out.rep i _ HI.out) HP.out.inv.p HP.out.inv.s HP.out.inv.k.dinv).mono ?_
        rintro e w2 ⟨rfl, K2, hR2, hF2⟩
        have HH2 := hide (HH0.out.op i HI.out (x' := .inl (syncSt st)) hR2 hF2)
        have HJ2 := hide (set_other (x := (K2, g, Thing.inl (syncSt st))) HJ.out HIJ.out)
        clear hR2 hF2 x0 x1 x3
        go_wp2_with fail
        refine (rsync_any (HH2.out.rep j _ HJ2.out) (HP.out.rinv (by omega))).mono ?_
        rintro e w3 ⟨rfl, KR3, hR3, hF3⟩
        have HE3 := hide HP.out.sim.sync.2
        have HP3 := hide (HP.out.sync hn)
        have HH3 := hide (HH2.out.op j HJ2.out (x' := .inr (rsyncSt rs)) hR3 hF3)
        rw [HE3.out]
        clear hR3 hF3
        obtain ⟨ee, hee⟩ : ∃ ee, ee = syncErr st := ⟨_, rfl⟩
        rw [← hee]
        have hself : (ee == ee) = true := by simp
        clear hee
        go_wp2_with fail
        refine (num_any _ _).mono ?_
        rintro e w3 ⟨rfl, rfl⟩
        go_wp2
        go_ret
        exact ⟨by simp, K2, KR3, _, _, HH3.out, HP3.out, HP.out.inv.sync.cap⟩
      · by_cases h5 : kind = 5
        · subst h5
          clear h2 h3 h4
          go_enter Try.func7, Try.ntmps7
          go_wp2_with fail
          rw [← HW0.out]
          go_wp2_with fail
          refine (fuse_any a (HH0.out.rep i _ HI.out)).mono ?_
          rintro e w2 ⟨rfl, hR2, hF2⟩
          have HH2 := hide (HH0.out.op i HI.out (x' := .inl (fuseSt st a)) hR2 hF2)
          have HX2 : Hid (w2.heap[w.heap.size]? = W0.heap[w.heap.size]?) := hF2.block w.heap.size (by rw [HZ0.out]; omega) (.inl HKB.out.1)
          have HJ2 := hide (set_other (x := (K, g, Thing.inl (fuseSt st a))) HJ.out HIJ.out)
          clear hR2 hF2 x0 x1 x3
          obtain ⟨x0, x1, x3⟩ := HBOX.out w2 HX2.out
          go_wp2_with fail
          refine (rfuse_any a (HH2.out.rep j _ HJ2.out)).mono ?_
          rintro e w3 ⟨rfl, hR3, hF3⟩
          have HH3 := hide (HH2.out.op j HJ2.out (x' := .inr (rfuseSt rs a)) hR3 hF3)
          have HP3 := hide (HP.out.fuse a ha)
          clear hR3 hF3 x0 x1 x3
          go_wp2
          go_ret
          exact ⟨rfl, K, KR, _, _, HH3.out, HP3.out, by unfold fuseSt; split <;> rfl⟩
        · have h2' : (kind == 2) = false := beq_eq_false_iff_ne.2 h2
          have h3' : (kind == 3) = false := beq_eq_false_iff_ne.2 h3
          have h4' : (kind == 4) = false := beq_eq_false_iff_ne.2 h4
          have h5' : (kind == 5) = false := beq_eq_false_iff_ne.2 h5
          go_enter Try.func7, Try.ntmps7
          go_wp2_with fail
          rw [← HW0.out]
          go_wp2
          go_ret
          refine ⟨rfl, K, KR, st, rs, ?_, HP.out.more, rfl⟩
          have e : (xs.set i (K, g, Thing.inl st)).set j (KR, gr, Thing.inr rs) = xs := by
            rw [set_same HI.out, set_same HJ.out]
          rw [e]
          exact HH0.out
end Go.Proofs.Yteiajeeincapoac
