import Derived.Test.YteiajeeincapoacOpenS
import Derived.Test.YteiajeeincapoacShrinks
namespace Go.Proofs.Yteiajeeincapoac
open Go.RowKit Go.Maps

structure Run (st : St) (c n : Nat) : Prop where
  inv : Inv st
  calls : st.calls ≤ n
  cap : st.cap = c
  dead : st.dead = false
  fused : st.fused = false

theorem Run.new (l : List Int) (c : Nat) (h1 : c ≤ 16777216) (h2 : l.length ≤ c) : Run (stNew l c) c 0 :=
  ⟨⟨pinv_new l c h1 h2, small_new l c, KInv.new l c⟩, Nat.le_refl _, rfl, rfl, rfl⟩

theorem Run.step {st : St} {c n : Nat} (h : Run st c n) (o : OpP) (hn : n + 1 ≤ 2000000000000) : Run (opSt st o) c (n + 1) := by
  have h1 := h.inv.op o
  have h2 := h1.calls
  have h3 := h.calls
  have h4 := op_live o h.dead h.fused
  exact ⟨h1.inv (by omega), by omega, h1.cap.trans h.cap, h4.1, h4.2⟩

theorem Run.err {st : St} {c n : Nat} (h : Run st c n) (o : OpP) : opErr st o = refN o c := by
  rw [opErr_ref o h.dead h.fused, h.cap]

structure Live (W w : World) (K : Nat → Nat) (g : Nat) (st : St) : Prop where
  rep : Rep w K g st
  up : ∀ k, K k ≠ 0 → W.heap.size ≤ k
  bel : Below W.heap.size W w

theorem Live.fr {W w w' : World} {K K' : Nat → Nat} {g : Nat} {st st' : St} (h : Live W w K g st) (hr : Rep w' K' g st') (hf : Fr K K' w w') : Live W w' K' g st' :=
  ⟨hr, hf.up h.up h.bel.size, h.bel.trans (hf.below h.up h.bel.size)⟩

theorem Live.below {W w w' : World} {K : Nat → Nat} {g : Nat} {st : St} (h : Live W w K g st) (hb : Below w.heap.size w w') : Live W w' K g st :=
  ⟨h.rep.below hb, h.up, h.bel.trans (hb.mono h.bel.size)⟩

theorem image_rep {w : World} {K : Nat → Nat} {g : Nat} {st : St} (h : Rep w K g st) (hn : st.now.length ≤ 16777216) :
    Calls Try.prog 12 #[.pointer (some ⟨g, 0, none⟩)] w fun e w' => ∃ a c, e = .returned (.slice a st.now.length c) ∧ OB w' w.heap.size (.slice a st.now.length c) st.now ∧ Below w.heap.size w w' := by
  obtain ⟨_, _, _, _, _, h⟩ := h
  exact image_any h.dc h.hn.sb (by omega)

theorem Run.now {st : St} {c n : Nat} (h : Run st c n) : st.now.length ≤ 16777216 := by
  have := h.inv.p.cap; have := h.inv.p.now; omega

theorem OB.fr {w w' : World} {K K' : Nat → Nat} {base : Nat} {v : Value} {l : List Int} (h : OB w base v l) (hr : Role K v 0) (hf : Fr K K' w w') : OB w' base v l ∧ Role K' v 0 :=
  ⟨h.move fun k hk => hf.block k (h.lt k hk).2 (.inl (hr k hk)), fun k hk => (hf.role k (h.lt k hk).2).trans (hr k hk)⟩

theorem Rep.other {w w' : World} {K K' K6 : Nat → Nat} {g6 : Nat} {st6 : St} (h : Rep w K6 g6 st6) (hz : ∀ k, K6 k ≠ 0 → K k = 0) (hF : Fr K K' w w') : Rep w' K6 g6 st6 := by
  have h0 := h
  obtain ⟨_, _, _, _, _, h⟩ := h
  exact h0.far hF.size fun k hk => hF.block k (h.sup k hk) (.inl (hz k hk))

theorem Rep.zero {w : World} {K K6 : Nat → Nat} {g : Nat} {st : St} (h : Rep w K g st) (hU : ∀ k, K6 k ≠ 0 → w.heap.size ≤ k) : ∀ k, K6 k ≠ 0 → K k = 0 := by
  obtain ⟨_, _, _, _, _, h⟩ := h
  intro k hk
  by_cases e : K k = 0
  · exact e
  · have := h.sup k e; have := hU k hk; omega

theorem Rep.roleNew {w : World} {K : Nat → Nat} {g : Nat} {st : St} (h : Rep w K g st) {b n c : Nat} (hb : w.heap.size ≤ b) : Role K (.slice (some ⟨b, 0, none⟩) n c) 0 := by
  obtain ⟨_, _, _, _, _, h⟩ := h
  intro q hq
  simp only [Value.ownBlock, Option.some.injEq] at hq
  by_cases hk : K q = 0
  · exact hk
  · have := h.sup q hk; omega

theorem alive_rep {w : World} {K : Nat → Nat} {g : Nat} {st : St} (h : Rep w K g st) :
    Calls Try.prog 18 #[.pointer (some ⟨g, 0, none⟩)] w fun e w' => e = .returned (.bool (!st.dead)) ∧ w' = w := by
  obtain ⟨_, _, _, _, _, h⟩ := h
  exact alive_any h.dc

theorem size_rep {w : World} {K : Nat → Nat} {g : Nat} {st : St} (h : Rep w K g st) :
    Calls Try.prog 15 #[.pointer (some ⟨g, 0, none⟩)] w fun e w' => e = .returned (.int .i64 st.now.length) ∧ w' = w := by
  obtain ⟨_, _, _, _, _, h⟩ := h
  exact size_any h.dc h.hn.sb

theorem flip_zero {K K6 : Nat → Nat} (h : ∀ k, K6 k ≠ 0 → K k = 0) : ∀ k, K k ≠ 0 → K6 k = 0 := fun k hk => by
  by_cases e : K6 k = 0
  · exact e
  · exact absurd (h k e) hk

theorem Fr.zero {K K' K6 : Nat → Nat} {w w' : World} {g6 : Nat} {st6 : St} (hF : Fr K K' w w') (hz : ∀ k, K k ≠ 0 → K6 k = 0) (h : Rep w K6 g6 st6) : ∀ k, K' k ≠ 0 → K6 k = 0 := by
  obtain ⟨_, _, _, _, _, h⟩ := h
  intro k hk
  by_cases e : K6 k = 0
  · exact e
  · have hl := h.sup k e
    exact hz k (by rw [← hF.role k hl]; exact hk)

theorem Live.side {W w w' : World} {K K6 K6' : Nat → Nat} {g : Nat} {st : St} (h : Live W w K g st) (hz : ∀ k, K k ≠ 0 → K6 k = 0) (hu : ∀ k, K6 k ≠ 0 → W.heap.size ≤ k) (hF : Fr K6 K6' w w') : Live W w' K g st :=
  ⟨h.rep.other hz hF, h.up, h.bel.trans (hF.below hu h.bel.size)⟩

theorem calls_rep {w : World} {K : Nat → Nat} {g : Nat} {st : St} (h : Rep w K g st) :
    Calls Try.prog 17 #[.pointer (some ⟨g, 0, none⟩)] w fun e w' => e = .returned (.int .i64 st.calls) ∧ w' = w := by
  obtain ⟨_, _, _, _, _, h⟩ := h
  exact calls_any h.dc

theorem list_ext {l1 l2 : List Int} (hl : l1.length = l2.length) (h : ∀ i, i < l1.length → l1.getD i 0 = l2.getD i 0) : l1 = l2 := by
  apply List.ext_getElem hl
  intro i h1 h2
  have := h i h1
  simpa [List.getD, h1, h2] using this

theorem behind_all {st : St} (h : Inv st) (k : Int) (hk : 2000000000000 ≤ k) : behind st k = st.now.length := by
  have hs := h.s.sizes
  have hc := h.s.calls
  rw [← h.k.last]
  unfold behind
  have e : keptN k st.sizes.length = st.sizes.length := by unfold keptN; omega
  rw [e]
  split
  · rename_i h0
    rw [List.getLastD_eq_getLast?, List.getLast?_eq_getElem?, List.getD]
    rw [List.getElem?_eq_getElem (by omega)]
    rfl
  · rename_i h0
    rw [List.eq_nil_of_length_eq_zero (show st.sizes.length = 0 by omega)]
    rfl

theorem out_all {st : St} (h : Inv st) (a b : Int) (ha : 2000000000000 ≤ a) (hb : 2000000000000 ≤ b) : outcomeL st (a, [], b) = st.now := by
  have e := behind_all h a ha
  refine list_ext (by rw [length_outcomeL]; exact e) fun i hi => ?_
  rw [length_outcomeL] at hi
  have hp := h.s.pcs (i / 512)
  have hc := h.s.calls
  rw [getD_outcomeL h.k.bd _ _ hi]
  have e2 : keptN (wantedN ((a, ([] : List Int), b) : Int × List Int × Int).2.1 ((a, ([] : List Int), b) : Int × List Int × Int).2.2 (i / 512)) (st.pcs (i / 512)).length = (st.pcs (i / 512)).length := by
    unfold keptN wantedN
    simp
    omega
  rw [e2, List.take_length]
  exact h.k.all i (by rw [← e]; exact hi)

theorem out_none {st : St} (h : Inv st) : outcomeL st (0, [], 0) = st.dur := by
  have e : behind st 0 = st.dur.length := by unfold behind keptN; rw [if_neg (by omega)]
  refine list_ext (by rw [length_outcomeL]; exact e) fun i hi => ?_
  rw [length_outcomeL] at hi
  rw [getD_outcomeL h.k.bd _ _ hi]
  have e2 : keptN (wantedN ((0, ([] : List Int), 0) : Int × List Int × Int).2.1 ((0, ([] : List Int), 0) : Int × List Int × Int).2.2 (i / 512)) (st.pcs (i / 512)).length = 0 := by
    unfold keptN wantedN
    simp
  rw [e2, List.take_zero]
  rfl

theorem layAll_dur (st : St) (p : Nat × Nat × List Int) : (layAll st p).dur = st.dur := (growSt_fields st (endP p)).1

theorem write_dur (st : St) (off : Int) (data : List Int) : (writeSt st off data).dur = st.dur := by
  have hs := (spend_same st).2.2.1
  unfold writeSt
  split
  · rfl
  · split
    · rfl
    · split
      · rfl
      · split
        · exact hs
        · split
          · exact hs
          · rw [layAll_dur]; exact hs

theorem trunc_dur (st : St) (n : Int) : (truncSt st n).dur = st.dur := by
  have hs := (spend_same st).2.2.1
  unfold truncSt
  split
  · rfl
  · split
    · rfl
    · split
      · rfl
      · split
        · exact hs
        · split
          · rw [layAll_dur]; exact hs
          · split
            · exact hs
            · exact hs

theorem op_dur {st : St} (o : OpP) (h : o.kind ≠ 4) : (opSt st o).dur = st.dur := by
  unfold opSt
  split
  · exact write_dur _ _ _
  · split
    · exact trunc_dur _ _
    · rfl

theorem op_sync {st : St} (o : OpP) (h : o.kind = 4) (hd : st.dead = false) (hf : st.fused = false) : (opSt st o).dur = (opSt st o).now ∧ (opSt st o).now = st.now ∧ (∀ s, (opSt st o).pcs s = []) ∧ (opSt st o).sizes = [] := by
  have hs : spendNo st = false := by unfold spendNo; rw [hf]; rfl
  have e : opSt st o = { spendSt st with dur := st.now, pcs := fun _ => [], sizes := [], ents := 0 } := by
    unfold opSt syncSt
    rw [if_neg (by omega), if_neg (by omega), if_pos h, hd, hs]
    rfl
  rw [e]
  exact ⟨(spend_same st).2.1.symm, (spend_same st).2.1, fun _ => rfl, rfl⟩

theorem siNil (w : World) : SI w (.slice none 0 0) [] := ⟨none, 0, rfl, Nat.le_refl _, Nat.zero_le _, fun _ => rfl, fun x hx => by cases hx⟩

theorem roleNil (K : Nat → Nat) (n : Nat) : Role K (.slice none 0 0) n := fun k hk => by simp [Value.ownBlock] at hk
end Go.Proofs.Yteiajeeincapoac
