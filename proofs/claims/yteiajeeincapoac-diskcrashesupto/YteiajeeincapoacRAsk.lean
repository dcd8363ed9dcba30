import Derived.Test.YteiajeeincapoacRChg
namespace Go.Proofs.Yteiajeeincapoac
open Go.RowKit Go.Maps

theorem cap_rep {w : World} {K : Nat → Nat} {g : Nat} {st : St} (h : Rep w K g st) :
    Calls Try.prog 16 #[.pointer (some ⟨g, 0, none⟩)] w fun e w' => e = .returned (.int .i64 st.cap) ∧ w' = w := by
  obtain ⟨vn, vd, m, vs, D, h⟩ := h
  obtain ⟨c0, _⟩ := h.dc.at
  clear h
  go_enter Try.func16, Try.ntmps16
  go_wp2
  go_ret
  exact ⟨rfl, rfl⟩

set_option linter.unusedSimpArgs false in
set_option maxRecDepth 20000 in
set_option maxHeartbeats 4000000 in
theorem asks_any {W w : World} {xs : List ((Nat → Nat) × Nat × Thing)} (i j : Nat) {K KR : Nat → Nat} {g gr n : Nat} {st : St} {rs : RSt} {av : Option Addr} {cv : Nat} {asec : Option Addr} {csec : Nat} (o : OpP) (h : Herd W w xs) (hi : xs[i]? = some (K, g, .inl st)) (hj : xs[j]? = some (KR, gr, .inr rs)) (hP : Pair st rs n) :
    Calls Try.prog 21 #[.pointer (some ⟨g, 0, none⟩), .pointer (some ⟨gr, 0, none⟩), .agg #[.int .i64 o.kind, .int .i64 o.a, .int .i64 o.b, .slice av o.data.length cv, .int .i64 o.size, .slice asec o.sec.length csec, .int .i64 o.rest]] w
      fun e w' => e = .returned (.bool true) ∧ Herd W w' xs := by
  obtain ⟨kind, a, b, data, size, sec, rest⟩ := o
  simp only []
  obtain ⟨W0, hW0⟩ : ∃ W0, W0 = w.alloc (.cells #[.int .i64 kind, .int .i64 a, .int .i64 b, .slice av data.length cv, .int .i64 size, .slice asec sec.length csec, .int .i64 rest] 33) := ⟨_, rfl⟩
  have HW0 := hide hW0
  have hb0 : Below w.heap.size w W0 := by rw [hW0]; exact (Below.refl _ _).alloc (Nat.le_refl _) _
  have HZ0 : Hid (W0.heap.size = w.heap.size + 1) := by show _ = _; rw [hW0]; exact size_alloc' _ _
  have hbx0 : W0.heap[w.heap.size]? = some (.cells #[.int .i64 kind, .int .i64 a, .int .i64 b, .slice av data.length cv, .int .i64 size, .slice asec sec.length csec, .int .i64 rest] 33 (0, 0)) := by rw [hW0]; exact heap_alloc_new _ _
  have HBOX : Hid (∀ w' : World, w'.heap[w.heap.size]? = W0.heap[w.heap.size]? → w'.cell? ⟨w.heap.size, 0, none⟩ = some (.int .i64 kind) ∧ w'.cell? ⟨w.heap.size, 1, none⟩ = some (.int .i64 a) ∧ w'.cell? ⟨w.heap.size, 2, none⟩ = some (.int .i64 b)) := fun w' e => by
    rw [hbx0] at e
    simp [World.cell?, e]
  have HH0 := hide (h.below hb0)
  have HP := hide hP
  have HI := hide hi
  have HJ := hide hj
  have hnl : st.now.length ≤ 16777216 := by have := hP.inv.p.cap; have := hP.inv.p.now; omega
  have HS := hide hP.sim
  have hnl2 : rs.now.length ≤ 16777216 := by rw [hP.sim.now]; exact hnl
  obtain ⟨x0, x1, x2⟩ := HBOX.out W0 rfl
  clear hW0 hb0 hbx0 h hP hi hj
  by_cases h1 : kind = 1
  · subst h1
    go_enter Try.func21, Try.ntmps21
    go_wp2_with fail
    rw [← HW0.out]
    go_wp2_with fail
    refine (read_any a b (HH0.out.rep i _ HI.out) hnl).mono ?_
    rintro e w1 ⟨a1, c1, rfl, ho1, hb1⟩
    have HO1 := hide ho1
    have HH1 := hide (HH0.out.below hb1)
    have HX1 : Hid (w1.heap[w.heap.size]? = W0.heap[w.heap.size]?) := hb1.block w.heap.size (by rw [HZ0.out]; omega)
    clear ho1 hb1 x0 x1 x2
    obtain ⟨x0, x1, x2⟩ := HBOX.out w1 HX1.out
    go_wp2_with fail
    refine (rread_any a b (HH1.out.rep j _ HJ.out) hnl2).mono ?_
    rintro e w2 ⟨a2, c2, rfl, ho2, hb2⟩
    rw [(HS.out.read a b).1, (HS.out.read a b).2] at *
    have HO2 := hide ho2
    have HO12 := hide (HO1.out.below hb2 (Nat.le_refl _))
    have HH2 := hide (HH1.out.below hb2)
    clear ho2 hb2 x0 x1 x2
    obtain ⟨ee, hee⟩ : ∃ ee, ee = readErr st a b := ⟨_, rfl⟩
    rw [← hee]
    have hself : (ee == ee) = true := by simp
    clear hee
    go_wp2_with fail
    refine (num_any _ _).mono ?_
    rintro e w2 ⟨rfl, rfl⟩
    go_wp2_with fail
    refine (same_any _ _ (readL st a b) (readL st a b) _ HO12.out.sb HO2.out.sb).mono ?_
    rintro e w4 ⟨rfl, n4, hw4⟩
    rw [eqB_self]
    have HH4 := hide (HH2.out.below (show Below w2.heap.size w2 w4 by rw [hw4]; exact below_drewN (Below.refl _ _) _))
    clear hw4
    go_wp2
    go_ret
    exact ⟨rfl, HH4.out⟩
  · by_cases h7 : kind = 7
    · subst h7
      clear h1
      have hz1 := hide (size_rep (HH0.out.rep i _ HI.out))
      have hz2 := hide (rsize_any (HH0.out.rep j _ HJ.out))
      rw [HS.out.now] at hz2
      have hself : ((st.now.length : Int) == (st.now.length : Int)) = true := by simp
      go_enter Try.func21, Try.ntmps21
      go_wp2_with fail
      rw [← HW0.out]
      go_wp2_with fail
      refine hz1.out.mono ?_
      rintro e W0 ⟨rfl, rfl⟩
      go_wp2_with fail
      refine hz2.out.mono ?_
      rintro e W0 ⟨rfl, rfl⟩
      go_wp2
      go_ret
      exact ⟨by simp, HH0.out⟩
    · by_cases h8 : kind = 8
      · subst h8
        clear h1 h7
        have hz1 := hide (cap_rep (HH0.out.rep i _ HI.out))
        have hz2 := hide (rcap_any (HH0.out.rep j _ HJ.out))
        rw [HS.out.room] at hz2
        have hself : ((st.cap : Int) == (st.cap : Int)) = true := by simp
        go_enter Try.func21, Try.ntmps21
        go_wp2_with fail
        rw [← HW0.out]
        go_wp2_with fail
        refine hz1.out.mono ?_
        rintro e W0 ⟨rfl, rfl⟩
        go_wp2_with fail
        refine hz2.out.mono ?_
        rintro e W0 ⟨rfl, rfl⟩
        go_wp2
        go_ret
        exact ⟨by simp, HH0.out⟩
      · by_cases h9 : kind = 9
        · subst h9
          clear h1 h7 h8
          have hz1 := hide (calls_rep (HH0.out.rep i _ HI.out))
          have hz2 := hide (rcalls_any (HH0.out.rep j _ HJ.out))
          rw [HS.out.calls] at hz2
          have hself : ((st.calls : Int) == (st.calls : Int)) = true := by simp
          go_enter Try.func21, Try.ntmps21
          go_wp2_with fail
          rw [← HW0.out]
          go_wp2_with fail
          refine hz1.out.mono ?_
          rintro e W0 ⟨rfl, rfl⟩
          go_wp2_with fail
          refine hz2.out.mono ?_
          rintro e W0 ⟨rfl, rfl⟩
          go_wp2
          go_ret
          exact ⟨by simp, HH0.out⟩
        · by_cases h10 : kind = 10
          · subst h10
            clear h1 h7 h8 h9
            have hz1 := hide (alive_rep (HH0.out.rep i _ HI.out))
            have hz2 := hide (ralive_any (HH0.out.rep j _ HJ.out))
            rw [HS.out.live] at hz2
            obtain ⟨bb, hbb⟩ : ∃ bb, bb = !st.dead := ⟨_, rfl⟩
            rw [← hbb] at hz1 hz2
            have hself : (bb == bb) = true := by simp
            clear hbb
            go_enter Try.func21, Try.ntmps21
            go_wp2_with fail
            rw [← HW0.out]
            go_wp2_with fail
            refine hz1.out.mono ?_
            rintro e W0 ⟨rfl, rfl⟩
            go_wp2_with fail
            refine hz2.out.mono ?_
            rintro e W0 ⟨rfl, rfl⟩
            go_wp2
            go_ret
            exact ⟨by simp, HH0.out⟩
          · by_cases h11 : kind = 11
            · subst h11
              clear h1 h7 h8 h9 h10
              go_enter Try.func21, Try.ntmps21
              go_wp2_with fail
              rw [← HW0.out]
              go_wp2_with fail
              refine (image_rep (HH0.out.rep i _ HI.out) hnl).mono ?_
              rintro e w1 ⟨a1, c1, rfl, ho1, hb1⟩
              have HO1 := hide ho1
              have HH1 := hide (HH0.out.below hb1)
              clear ho1 hb1 x0 x1 x2
              go_wp2_with fail
              refine (rimage_any (HH1.out.rep j _ HJ.out) hnl2).mono ?_
              rintro e w2 ⟨a2, c2, rfl, ho2, hb2⟩
              rw [HS.out.now] at *
              have HO2 := hide ho2
              have HO12 := hide (HO1.out.below hb2 (Nat.le_refl _))
              have HH2 := hide (HH1.out.below hb2)
              clear ho2 hb2
              go_wp2_with fail
              refine (same_any _ _ st.now st.now _ HO12.out.sb HO2.out.sb).mono ?_
              rintro e w4 ⟨rfl, n4, hw4⟩
              rw [eqB_self]
              have HH4 := hide (HH2.out.below (show Below w2.heap.size w2 w4 by rw [hw4]; exact below_drewN (Below.refl _ _) _))
              clear hw4
              go_wp2
              go_ret
              exact ⟨rfl, HH4.out⟩
            · have q1 : (kind == 1) = false := beq_eq_false_iff_ne.2 h1
              have q7 : (kind == 7) = false := beq_eq_false_iff_ne.2 h7
              have q8 : (kind == 8) = false := beq_eq_false_iff_ne.2 h8
              have q9 : (kind == 9) = false := beq_eq_false_iff_ne.2 h9
              have q10 : (kind == 10) = false := beq_eq_false_iff_ne.2 h10
              have q11 : (kind == 11) = false := beq_eq_false_iff_ne.2 h11
              go_enter Try.func21, Try.ntmps21
              go_wp2_with fail
              rw [← HW0.out]
              go_wp2
              go_ret
              exact ⟨rfl, HH0.out⟩
end Go.Proofs.Yteiajeeincapoac
