import Derived.Test.YteiajeeincapoabPure
import Derived.Test.YteiajeeincapoabFresh
namespace Go.Proofs.Yteiajeeincapoab
open Go.RowKit Go.Maps

structure OpP where
  kind : Int
  a : Int
  b : Int
  data : List Int
  size : Int
  sec : List Int
  rest : Int

def opSt (st : St) (o : OpP) : St := if o.kind = 2 then writeSt st o.a o.data else if o.kind = 3 then truncSt st o.a else if o.kind = 4 then syncSt st else st

def opErr (st : St) (o : OpP) : Int := if o.kind = 2 then writeErr st o.a o.data.length else if o.kind = 3 then truncErr st o.a else if o.kind = 4 then syncErr st else 0

def refN (o : OpP) (cap : Nat) : Int := if o.kind = 2 then (if o.a < 0 then 1 else if (cap : Int) < o.a + o.data.length then 10 else 0) else if o.kind = 3 then (if o.a < 0 then 1 else if (cap : Int) < o.a then 10 else 0) else 0

theorem Inv.op {st : St} (h : Inv st) (o : OpP) : Inv1 st (opSt st o) := by
  unfold opSt
  split
  · exact h.write _ _
  · split
    · exact h.trunc _
    · split
      · exact h.sync
      · exact h.same

theorem fresh_role {w : World} {K : Nat → Nat} {g : Nat} {st : St} (h : Rep w K g st) {v : Value} {l : List Int} {w1 : World} {base : Nat} (hb : w.heap.size ≤ base) (ho : OB w1 base v l) : Role K v 0 := by
  obtain ⟨_, _, _, _, _, h⟩ := h
  intro k hk
  by_cases e : K k = 0
  · exact e
  · have := h.sup k e; have := (ho.lt k hk).1; omega

theorem keepF {W w' : World} {K K' : Nat → Nat} {k o : Nat} {v : Value} (hb : Fr K K' W w') (h0 : K k = 0) (h : W.cell? ⟨k, o, none⟩ = some v) : w'.cell? ⟨k, o, none⟩ = some v :=
  (World.cell?_of_block (hb.block k (World.block_lt_of_cell? _ _ h) (.inl h0))).trans h

theorem Rep.top {w : World} {K : Nat → Nat} {g : Nat} {st : St} (h : Rep w K g st) : K w.heap.size = 0 := by
  obtain ⟨_, _, _, _, _, h⟩ := h
  by_cases e : K w.heap.size = 0
  · exact e
  · have := h.sup _ e; omega

theorem change_any {w : World} {K : Nat → Nat} {g : Nat} {st : St} {av : Option Addr} {cv : Nat} {asec : Option Addr} {csec : Nat} (o : OpP) (h : Rep w K g st) (hI : Inv st) (hv : SB w (.slice av o.data.length cv) o.data) (hr : o.data.length ≤ 140737488351232) :
    Calls Try.prog 11 #[.pointer (some ⟨g, 0, none⟩), .agg #[.int .i64 o.kind, .int .i64 o.a, .int .i64 o.b, .slice av o.data.length cv, .int .i64 o.size, .slice asec o.sec.length csec, .int .i64 o.rest]] w fun e w' => e = .returned (.int .i64 (opErr st o)) ∧ ∃ K', Rep w' K' g (opSt st o) ∧ Fr K K' w w' := by
  obtain ⟨kind, a, b, data, size, sec, rest⟩ := o
  simp only [] at hv hr ⊢
  obtain ⟨W0, hW0⟩ : ∃ W0, W0 = w.alloc (.cells #[.int .i64 kind, .int .i64 a, .int .i64 b, .slice av data.length cv, .int .i64 size, .slice asec sec.length csec, .int .i64 rest] 32) := ⟨_, rfl⟩
  have HW0 := hide hW0
  have hb0 : Below w.heap.size w W0 := by rw [hW0]; exact (Below.refl _ _).alloc (Nat.le_refl _) _
  have hbx0 : W0.heap[w.heap.size]? = some (.cells #[.int .i64 kind, .int .i64 a, .int .i64 b, .slice av data.length cv, .int .i64 size, .slice asec sec.length csec, .int .i64 rest] 32 (0, 0)) := by rw [hW0]; exact heap_alloc_new _ _
  have x0 : W0.cell? ⟨w.heap.size, 0, none⟩ = some (.int .i64 kind) := by simp [World.cell?, hbx0]
  have x1 : W0.cell? ⟨w.heap.size, 1, none⟩ = some (.int .i64 a) := by simp [World.cell?, hbx0]
  have x3 : W0.cell? ⟨w.heap.size, 3, none⟩ = some (.slice av data.length cv) := by simp [World.cell?, hbx0]
  have HR := hide (h.below hb0)
  have HF := hide (Fr.of_below (K := K) hb0)
  have HV := hide (hv.below hb0)
  have HI := hide hI
  have HZ := hide h.top
  clear hW0 hb0 hbx0 h hI hv
  by_cases h2 : kind = 2
  · have HE : Hid (opErr st ⟨kind, a, b, data, size, sec, rest⟩ = writeErr st a data.length ∧ opSt st ⟨kind, a, b, data, size, sec, rest⟩ = writeSt st a data) := ⟨if_pos h2, if_pos h2⟩
    subst h2
    go_enter Try.func11, Try.ntmps11
    go_wp2_with fail
    rw [← HW0.out]
    go_wp2_with fail
    have HRd : Hid (Rep W0.drew K g st) := HR.out.below (Below.refl _ _).drew
    have HVd : Hid (SB W0.drew (.slice av data.length cv) data) := HV.out
    have HS0 : Hid (W0.drew.heap.size = w.heap.size + 1) := by show W0.heap.size = _; rw [HW0.out, size_alloc']
    have HK0 : Hid (K w.heap.size = 0) := HZ
    have HFd : Hid (Fr K K w W0.drew) := HF.out.trans (Fr.of_below (Below.refl W0.heap.size W0).drew)
    go_region_held3 (fun w' => w'.cell? ⟨w.heap.size, 1, none⟩ = some (.int .i64 a) ∧ w'.cell? ⟨w.heap.size, 3, none⟩ = some (.slice av data.length cv)) (go_keep)
      (first
        | (go_at_call 23; refine (clone_any _ data _ HVd.out hr).mono ?_; rintro e w1 ⟨_, rfl, rfl, hg, hb1⟩; have ho : OB w1 W0.drew.heap.size (.slice (some ⟨W0.drew.heap.size, 0, none⟩) data.length data.length) data := hg; have n1 := keep1 hb1 x1; have n3 := keep1 hb1 x3)
        | (go_at_call 21; refine (write_any a (HRd.out.below hb1) HI.out.p HI.out.s ho.sb (fresh_role HRd.out (Nat.le_refl _) ho)).mono ?_; rintro e w2 ⟨rfl, K2, hR2, hF2⟩; have m1 := keepF hF2 HK0.out n1; have m3 := keepF hF2 HK0.out n3)
        | (go_at_call 31; refine (num_any _ _).mono ?_; rintro e w2 ⟨rfl, rfl⟩))
    go_wp2
    go_ret
    have HR2 := hide hR2
    have HF2 := hide (HFd.out.trans ((Fr.of_below hb1).trans hF2))
    rw [HE.out.1, HE.out.2]
    exact ⟨rfl, K2, HR2.out, HF2.out⟩
  · by_cases h3 : kind = 3
    · have HE : Hid (opErr st ⟨kind, a, b, data, size, sec, rest⟩ = truncErr st a ∧ opSt st ⟨kind, a, b, data, size, sec, rest⟩ = truncSt st a) := ⟨(if_neg h2).trans (if_pos h3), (if_neg h2).trans (if_pos h3)⟩
      subst h3
      clear h2
      go_enter Try.func11, Try.ntmps11
      go_wp2_with fail
      rw [← HW0.out]
      go_wp2_with fail
      refine (truncate_any a HR.out HI.out.p HI.out.s).mono ?_
      rintro e w2 ⟨rfl, K2, hR2, hF2⟩
      have HR2 := hide hR2
      have HF2 := hide (HF.out.trans hF2)
      clear hR2 hF2 x0 x1 x3
      go_wp2_with fail
      refine (num_any _ _).mono ?_
      rintro e w2 ⟨rfl, rfl⟩
      go_wp2
      go_ret
      rw [HE.out.1, HE.out.2]
      exact ⟨rfl, K2, HR2.out, HF2.out⟩
    · by_cases h4 : kind = 4
      · have HE : Hid (opErr st ⟨kind, a, b, data, size, sec, rest⟩ = syncErr st ∧ opSt st ⟨kind, a, b, data, size, sec, rest⟩ = syncSt st) := ⟨(if_neg h2).trans ((if_neg h3).trans (if_pos h4)), (if_neg h2).trans ((if_neg h3).trans (if_pos h4))⟩
        subst h4
        clear h2 h3
        go_enter Try.func11, Try.ntmps11
        go_wp2_with fail
        rw [← HW0.out]
        go_wp2_with fail
        refine (sync_any HR.out HI.out.p HI.out.s HI.out.k.dinv).mono ?_
        rintro e w2 ⟨rfl, K2, hR2, hF2⟩
        have HR2 := hide hR2
        have HF2 := hide (HF.out.trans hF2)
        clear hR2 hF2 x0 x1 x3
        go_wp2_with fail
        refine (num_any _ _).mono ?_
        rintro e w2 ⟨rfl, rfl⟩
        go_wp2
        go_ret
        rw [HE.out.1, HE.out.2]
        exact ⟨rfl, K2, HR2.out, HF2.out⟩
      · have HE : Hid (opErr st ⟨kind, a, b, data, size, sec, rest⟩ = 0 ∧ opSt st ⟨kind, a, b, data, size, sec, rest⟩ = st) := ⟨(if_neg h2).trans ((if_neg h3).trans (if_neg h4)), (if_neg h2).trans ((if_neg h3).trans (if_neg h4))⟩
        have h2' : (kind == 2) = false := beq_eq_false_iff_ne.2 h2
        have h3' : (kind == 3) = false := beq_eq_false_iff_ne.2 h3
        have h4' : (kind == 4) = false := beq_eq_false_iff_ne.2 h4
        go_enter Try.func11, Try.ntmps11
        go_wp2_with fail
        rw [← HW0.out]
        go_wp2
        go_ret
        rw [HE.out.1, HE.out.2]
        exact ⟨rfl, K, HR.out, HF.out⟩

theorem refused_any {w : World} {av : Option Addr} {cv : Nat} {asec : Option Addr} {csec : Nat} (o : OpP) (cap : Nat) (hc : cap ≤ 16777216) (hr : o.data.length ≤ 140737488351232) (hcv : o.data.length ≤ cv) :
    Calls Try.prog 12 #[.agg #[.int .i64 o.kind, .int .i64 o.a, .int .i64 o.b, .slice av o.data.length cv, .int .i64 o.size, .slice asec o.sec.length csec, .int .i64 o.rest], .int .i64 cap] w fun e w' => e = .returned (.int .i64 (refN o cap)) ∧ Below w.heap.size w w' := by
  obtain ⟨kind, a, b, data, size, sec, rest⟩ := o
  simp only [] at hr hcv ⊢
  obtain ⟨W0, hW0⟩ : ∃ W0, W0 = w.alloc (.cells #[.int .i64 kind, .int .i64 a, .int .i64 b, .slice av data.length cv, .int .i64 size, .slice asec sec.length csec, .int .i64 rest] 32) := ⟨_, rfl⟩
  have HW0 := hide hW0
  have hb0 : Below w.heap.size w W0 := by rw [hW0]; exact (Below.refl _ _).alloc (Nat.le_refl _) _
  have hbx0 : W0.heap[w.heap.size]? = some (.cells #[.int .i64 kind, .int .i64 a, .int .i64 b, .slice av data.length cv, .int .i64 size, .slice asec sec.length csec, .int .i64 rest] 32 (0, 0)) := by rw [hW0]; exact heap_alloc_new _ _
  have x0 : W0.cell? ⟨w.heap.size, 0, none⟩ = some (.int .i64 kind) := by simp [World.cell?, hbx0]
  have x1 : W0.cell? ⟨w.heap.size, 1, none⟩ = some (.int .i64 a) := by simp [World.cell?, hbx0]
  have x3 : W0.cell? ⟨w.heap.size, 3, none⟩ = some (.slice av data.length cv) := by simp [World.cell?, hbx0]
  have HB := hide hb0
  clear hW0 hb0 hbx0
  by_cases h2 : kind = 2
  · by_cases ha : a < 0
    · have HE : Hid (refN ⟨kind, a, b, data, size, sec, rest⟩ cap = 1) := (if_pos h2).trans (if_pos ha)
      subst h2
      go_enter Try.func12, Try.ntmps12
      go_wp2_with fail
      rw [← HW0.out]
      go_wp2
      go_ret
      rw [HE.out]
      exact ⟨rfl, HB.out⟩
    · by_cases hl : (cap : Int) < a + data.length
      · have HE : Hid (refN ⟨kind, a, b, data, size, sec, rest⟩ cap = 10) := (if_pos h2).trans ((if_neg ha).trans (if_pos hl))
        subst h2
        by_cases hca : (cap : Int) < a
        · clear hl
          go_enter Try.func12, Try.ntmps12
          go_wp2_with fail
          rw [← HW0.out]
          go_wp2
          go_ret
          rw [HE.out]
          exact ⟨rfl, HB.out⟩
        · have hl2 : (cap : Int) - a < data.length := by omega
          clear hl
          go_enter Try.func12, Try.ntmps12
          go_wp2_with fail
          rw [← HW0.out]
          go_wp2
          go_ret
          rw [HE.out]
          exact ⟨rfl, HB.out⟩
      · have HE : Hid (refN ⟨kind, a, b, data, size, sec, rest⟩ cap = 0) := (if_pos h2).trans ((if_neg ha).trans (if_neg hl))
        subst h2
        have hca : ¬ (cap : Int) < a := by omega
        have hl2 : ¬ (cap : Int) - a < data.length := by omega
        clear hl
        go_enter Try.func12, Try.ntmps12
        go_wp2_with fail
        rw [← HW0.out]
        go_wp2
        go_ret
        rw [HE.out]
        exact ⟨rfl, HB.out⟩
  · by_cases h3 : kind = 3
    · by_cases ha : a < 0
      · have HE : Hid (refN ⟨kind, a, b, data, size, sec, rest⟩ cap = 1) := (if_neg h2).trans ((if_pos h3).trans (if_pos ha))
        subst h3
        clear h2
        go_enter Try.func12, Try.ntmps12
        go_wp2_with fail
        rw [← HW0.out]
        go_wp2
        go_ret
        rw [HE.out]
        exact ⟨rfl, HB.out⟩
      · by_cases hca : (cap : Int) < a
        · have HE : Hid (refN ⟨kind, a, b, data, size, sec, rest⟩ cap = 10) := (if_neg h2).trans ((if_pos h3).trans ((if_neg ha).trans (if_pos hca)))
          subst h3
          clear h2
          go_enter Try.func12, Try.ntmps12
          go_wp2_with fail
          rw [← HW0.out]
          go_wp2
          go_ret
          rw [HE.out]
          exact ⟨rfl, HB.out⟩
        · have HE : Hid (refN ⟨kind, a, b, data, size, sec, rest⟩ cap = 0) := (if_neg h2).trans ((if_pos h3).trans ((if_neg ha).trans (if_neg hca)))
          subst h3
          clear h2
          go_enter Try.func12, Try.ntmps12
          go_wp2_with fail
          rw [← HW0.out]
          go_wp2
          go_ret
          rw [HE.out]
          exact ⟨rfl, HB.out⟩
    · have HE : Hid (refN ⟨kind, a, b, data, size, sec, rest⟩ cap = 0) := (if_neg h2).trans (if_neg h3)
      have h2' : (kind == 2) = false := beq_eq_false_iff_ne.2 h2
      have h3' : (kind == 3) = false := beq_eq_false_iff_ne.2 h3
      go_enter Try.func12, Try.ntmps12
      go_wp2_with fail
      rw [← HW0.out]
      go_wp2
      go_ret
      rw [HE.out]
      exact ⟨rfl, HB.out⟩

theorem opErr_ref {st : St} (o : OpP) (hd : st.dead = false) (hf : st.fused = false) : opErr st o = refN o st.cap := by
  have hs : spendNo st = false := by unfold spendNo; rw [hf]; rfl
  unfold opErr refN
  split
  · unfold writeErr; rw [hd, hs]; rfl
  · split
    · unfold truncErr; rw [hd, hs]; rfl
    · split
      · unfold syncErr; rw [hd, hs]; rfl
      · rfl

theorem spend_live {st : St} (hd : st.dead = false) (hf : st.fused = false) : (spendSt st).dead = false ∧ (spendSt st).fused = false := by
  unfold spendSt; rw [hf, if_neg (by simp)]; exact ⟨hd, rfl⟩

theorem layAll_live (st : St) (p : Nat × Nat × List Int) : (layAll st p).dead = st.dead ∧ (layAll st p).fused = st.fused := ⟨(growSt_fields st (endP p)).2.2.2.2.2.2.1, (growSt_fields st (endP p)).2.2.2.2.2.2.2⟩

theorem op_live {st : St} (o : OpP) (hd : st.dead = false) (hf : st.fused = false) : (opSt st o).dead = false ∧ (opSt st o).fused = false := by
  have hl := spend_live hd hf
  unfold opSt
  split
  · unfold writeSt
    split
    · exact ⟨hd, hf⟩
    · split
      · exact ⟨hd, hf⟩
      · split
        · exact ⟨hd, hf⟩
        · split
          · exact hl
          · split
            · exact hl
            · rw [(layAll_live _ _).1, (layAll_live _ _).2]; exact hl
  · split
    · unfold truncSt
      split
      · exact ⟨hd, hf⟩
      · split
        · exact ⟨hd, hf⟩
        · split
          · exact ⟨hd, hf⟩
          · split
            · exact hl
            · split
              · rw [(layAll_live _ _).1, (layAll_live _ _).2]; exact hl
              · split
                · exact hl
                · exact hl
    · split
      · unfold syncSt
        split
        · exact ⟨hd, hf⟩
        · split
          · exact hl
          · exact hl
      · exact ⟨hd, hf⟩
end Go.Proofs.Yteiajeeincapoab
