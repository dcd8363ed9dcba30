import Derived.Test.YteiajeeincapoacPure
import Derived.Test.YteiajeeincapoacFresh
namespace Go.Proofs.Yteiajeeincapoac
open Go.RowKit Go.Maps

structure OpP where
  kind : Int
  a : Int
  b : Int
  data : List Int
  size : Int
  sec : List Int
  rest : Int

def opSt (st : St) (o : OpP) : St := if o.kind = 2 then writeSt st o.a o.data else if o.kind = 3 then truncSt st o.a else if o.kind = 4 then syncSt st else st

def opErr (st : St) (o : OpP) : Int := if o.kind = 2 then writeErr st o.a o.data.length else if o.kind = 3 then truncErr st o.a else if o.kind = 4 then syncErr st else 0

def refN (o : OpP) (cap : Nat) : Int := if o.kind = 2 then (if o.a < 0 then 1 else if (cap : Int) < o.a + o.data.length then 10 else 0) else if o.kind = 3 then (if o.a < 0 then 1 else if (cap : Int) < o.a then 10 else 0) else 0

theorem Inv.op {st : St} (h : Inv st) (o : OpP) : Inv1 st (opSt st o) := by
  unfold opSt
  split
  · exact h.write _ _
  · split
    · exact h.trunc _
    · split
      · exact h.sync
      · exact h.same

theorem fresh_role {w : World} {K : Nat → Nat} {g : Nat} {st : St} (h : Rep w K g st) {v : Value} {l : List Int} {w1 : World} {base : Nat} (hb : w.heap.size ≤ base) (ho : OB w1 base v l) : Role K v 0 := by
  obtain ⟨_, _, _, _, _, h⟩ := h
  intro k hk
  by_cases e : K k = 0
  · exact e
  · have := h.sup k e; have := (ho.lt k hk).1; omega

theorem keepF {W w' : World} {K K' : Nat → Nat} {k o : Nat} {v : Value} (hb : Fr K K' W w') (h0 : K k = 0) (h : W.cell? ⟨k, o, none⟩ = some v) : w'.cell? ⟨k, o, none⟩ = some v :=
  (World.cell?_of_block (hb.block k (World.block_lt_of_cell? _ _ h) (.inl h0))).trans h

theorem Rep.top {w : World} {K : Nat → Nat} {g : Nat} {st : St} (h : Rep w K g st) : K w.heap.size = 0 := by
  obtain ⟨_, _, _, _, _, h⟩ := h
  by_cases e : K w.heap.size = 0
  · exact e
  · have := h.sup _ e; omega

theorem opErr_ref {st : St} (o : OpP) (hd : st.dead = false) (hf : st.fused = false) : opErr st o = refN o st.cap := by
  have hs : spendNo st = false := by unfold spendNo; rw [hf]; rfl
  unfold opErr refN
  split
  · unfold writeErr; rw [hd, hs]; rfl
  · split
    · unfold truncErr; rw [hd, hs]; rfl
    · split
      · unfold syncErr; rw [hd, hs]; rfl
      · rfl

theorem spend_live {st : St} (hd : st.dead = false) (hf : st.fused = false) : (spendSt st).dead = false ∧ (spendSt st).fused = false := by
  unfold spendSt; rw [hf, if_neg (by simp)]; exact ⟨hd, rfl⟩

theorem layAll_live (st : St) (p : Nat × Nat × List Int) : (layAll st p).dead = st.dead ∧ (layAll st p).fused = st.fused := ⟨(growSt_fields st (endP p)).2.2.2.2.2.2.1, (growSt_fields st (endP p)).2.2.2.2.2.2.2⟩

theorem op_live {st : St} (o : OpP) (hd : st.dead = false) (hf : st.fused = false) : (opSt st o).dead = false ∧ (opSt st o).fused = false := by
  have hl := spend_live hd hf
  unfold opSt
  split
  · unfold writeSt
    split
    · exact ⟨hd, hf⟩
    · split
      · exact ⟨hd, hf⟩
      · split
        · exact ⟨hd, hf⟩
        · split
          · exact hl
          · split
            · exact hl
            · rw [(layAll_live _ _).1, (layAll_live _ _).2]; exact hl
  · split
    · unfold truncSt
      split
      · exact ⟨hd, hf⟩
      · split
        · exact ⟨hd, hf⟩
        · split
          · exact ⟨hd, hf⟩
          · split
            · exact hl
            · split
              · rw [(layAll_live _ _).1, (layAll_live _ _).2]; exact hl
              · split
                · exact hl
                · exact hl
    · split
      · unfold syncSt
        split
        · exact ⟨hd, hf⟩
        · split
          · exact hl
          · exact hl
      · exact ⟨hd, hf⟩
end Go.Proofs.Yteiajeeincapoac
