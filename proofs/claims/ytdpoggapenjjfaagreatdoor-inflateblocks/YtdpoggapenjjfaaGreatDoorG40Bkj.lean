import Derived.Test.YtdpoggapenjjfaaGreatDoorG37OpenI
import Derived.Test.YtdpoggapenjjfaaGreatDoorG39Bsp
import Derived.Maps.OwnIn
namespace Go.Proofs.YtdpoggapenjjfaaGreatDoor
open Go.RowKit Go.Maps Go.Shelf
attribute [local go_sem] Oper.semAt_some
set_option maxRecDepth 20000
set_option linter.unusedVariables false

theorem OB.rebase {w : World} {B B' : Nat} {u : Value} {l : List Int} (h : OB w B u l) (hb : ∀ b, u.ownBlock = Option.some b → B' ≤ b) : OB w B' u l := by
  refine ⟨h.1, ?_⟩
  rcases h.2 with h2 | ⟨g, cap, cur, rfl, h1, r⟩
  · exact .inl h2
  · exact .inr ⟨g, cap, cur, rfl, hb g rfl, r⟩

def OLs (w : World) (base : Nat) (v : Value) (us : List Value) : Prop := w.ownsRow base 22 1 v us.length us

theorem OLs.lt {w : World} {base : Nat} {v : Value} {us : List Value} (h : OLs w base v us) : ∀ k, v.ownBlock = some k → base ≤ k ∧ k < w.heap.size := World.ownsRow.lt h

theorem OLs.move {w w' : World} {base : Nat} {v : Value} {us : List Value} (h : OLs w base v us) (hb : ∀ k, v.ownBlock = some k → w'.heap[k]? = w.heap[k]?) : OLs w' base v us := ownsRow_move h hb

theorem OLs.shape {w : World} {base : Nat} {v : Value} {us : List Value} (h : OLs w base v us) : ∃ a c, v = .slice a us.length c ∧ us.length ≤ c ∧ c ≤ 9223372036854775807 ∧ (0 < us.length → ∃ g, a = some ⟨g, 0, none⟩) := by
  rcases h.2 with ⟨rfl, h0⟩ | ⟨g, cap, cur, rfl, _, _, h3, h4, _⟩
  · exact ⟨none, 0, by rw [h0], by omega, by omega, fun h => by omega⟩
  · unfold maxLen at h4
    exact ⟨_, _, rfl, h3, by omega, fun _ => ⟨g, rfl⟩⟩

theorem OLs.cell {w : World} {base g n c : Nat} {us : List Value} (h : OLs w base (.slice (some ⟨g, 0, none⟩) n c) us) {j : Nat} {u : Value} (hj : us[j]? = some u) : w.cell? ⟨g, j, none⟩ = some u := by
  have := World.ownsRow.cells (u := u) h (g := g) rfl j hj
  rwa [Addr.add_lit, Nat.zero_add] at this

theorem wpBsIn {F : Fence} {nF : Nat} {w : World} {ops : Array Oper} {rest : List Oper} {o : Oper} {a : Act} {Q : Exit → Act → World → Prop} (hgd : o.guard = none) (s x : Operand)
    (ho : o.op = .call { callee := .builtin .append, args := #[s, x], argTypes := #[34, 34] }) (base : Nat) (v : Value) (us : List Value) (u : Value) (B c : Nat) (hs : a.eval s = v) (hown : OLs w base v us)
    (hx : a.eval x = .slice (some ⟨B, 0, none⟩) 1 c) (hB : w.heap[B]? = some (.cells #[u] 22 (0, 0))) (h1 : u.oneCell' = true) (hlen : us.length ≤ 268435456) (hbase : base ≤ w.heap.size)
    (h : ∀ v' w', OLs w' base v' (us ++ [u]) → w.grownBy w' v.ownBlock → (v'.ownBlock = v.ownBlock ∨ v'.ownBlock = some w.heap.size) → wpListIn F nF Tryz.prog ops Q rest (a.put o.dst v') w') : wpListIn F nF Tryz.prog ops Q (o :: rest) a w := by
  obtain ⟨i0, hi0, hz0, hz1, hz2⟩ := info_parts info28
  refine wpListIn_append_own_at _ hgd s x 34 ho base 22 i0 _ 1 24 Tryz.underlying34 hi0 hz0 hz1 hz2 rfl (by omega) v us.length us hs hown ⟨B, 0, none⟩ 1 c [u] hx rfl (World.news_of_block (cs := #[u]) hB) (fun q hq => by rw [List.mem_singleton.1 hq]; exact h1) (by unfold maxLen; omega) (by omega) hbase fun v' w' g1 g2 _ g4 => h v' w' ?_ g2 g4
  unfold OLs
  rw [List.length_append]
  exact g1

structure Vr (c : Nat → List Int) (B : Nat) (W : World) (S : Nat → Prop) (vr : Value) (us : List Value) : Prop where
  row : OLs W B vr us
  ob : ∀ (j : Nat) (u : Value), us[j]? = some u → OB W B u (c j)
  nS : ∀ b : Nat, vr.ownBlock = some b → ¬ S b
  uS : ∀ (j : Nat) (u : Value) (b : Nat), us[j]? = some u → u.ownBlock = some b → ¬ S b ∧ vr.ownBlock ≠ some b
  sep : ∀ (i j : Nat) (u v : Value) (b : Nat), us[i]? = some u → us[j]? = some v → i ≠ j → u.ownBlock = some b → v.ownBlock ≠ some b

structure BkJ (c : Nat → List Int) (wb : World) (d gR gN k : Nat) (S : Nat → Prop) (o : Obj) (W : World) : Prop where
  dfr : W.heap[d]? = some (.deferred (some []))
  lp : W.heap[d + 1]? = some o
  os : W.os = wb.os
  tape : W.tape = wb.tape
  output : W.output = wb.output
  size : d + 2 ≤ W.heap.size
  blk : ∀ b, b < d → b ≠ gR → b ≠ gN → W.heap[b]? = wb.heap[b]?
  sge : ∀ b, S b → d + 2 ≤ b
  cnt : W.heap[gN]? = some (.cells #[.int .i64 k] 3 (0, 0))
  var : ∃ vr us, W.heap[gR]? = some (.cells #[vr] 34 (0, 0)) ∧ us.length = k ∧ Vr c (d + 2) W S vr us

variable {c : Nat → List Int} {wb : World} {d gR gN k : Nat} {S : Nat → Prop} {o : Obj} {W : World}

theorem Vr.keep {B : Nat} {w' : World} {S' : Nat → Prop} {vr : Value} {us : List Value} (h : Vr c B W S vr us) (hk : ∀ b, b < W.heap.size → B ≤ b → ¬ S b → w'.heap[b]? = W.heap[b]?) (hS : ∀ b, b < W.heap.size → S' b → S b) : Vr c B w' S' vr us where
  row := h.row.move fun b hb => hk b (h.row.lt b hb).2 (h.row.lt b hb).1 (h.nS b hb)
  ob := fun j u hu => (h.ob j u hu).move fun b hb => hk b ((h.ob j u hu).lt b hb).2 ((h.ob j u hu).lt b hb).1 (h.uS j u b hu hb).1
  nS := fun b hb hs => h.nS b hb (hS b (h.row.lt b hb).2 hs)
  uS := fun j u b hu hb => ⟨fun hs => (h.uS j u b hu hb).1 (hS b ((h.ob j u hu).lt b hb).2 hs), (h.uS j u b hu hb).2⟩
  sep := h.sep

theorem BkJ.put {o' : Obj} (h : BkJ c wb d gR gN k S o W) (h1 : gR < d) (h2 : gN < d) : BkJ c wb d gR gN k S o' (W.putObj (d + 1) o') where
  dfr := (putObj_at8 _ _ (by omega)).trans h.dfr
  lp := by
    have := h.size
    show (W.heap.setIfInBounds (d + 1) o')[d + 1]? = some o'
    rw [Array.getElem?_setIfInBounds_self_of_lt (by omega)]
  os := h.os
  tape := h.tape
  output := h.output
  size := by rw [putObj_size8]; exact h.size
  blk := fun b q1 q2 q3 => (putObj_at8 _ _ (by omega)).trans (h.blk b q1 q2 q3)
  sge := h.sge
  cnt := (putObj_at8 _ _ (by omega)).trans h.cnt
  var := by
    obtain ⟨vr, us, e1, e2, e3⟩ := h.var
    exact ⟨vr, us, (putObj_at8 _ _ (by omega)).trans e1, e2, e3.keep (fun b _ hb _ => putObj_at8 _ _ (by omega)) (fun b _ hs => hs)⟩

theorem BkJ.drewN (h : BkJ c wb d gR gN k S o W) (n : Nat) : BkJ c wb d gR gN k S o (W.drewN n) := ⟨h.dfr, h.lp, h.os, h.tape, h.output, h.size, h.blk, h.sge, h.cnt, by
  obtain ⟨vr, us, e1, e2, e3⟩ := h.var
  exact ⟨vr, us, e1, e2, e3.keep (fun b _ _ _ => rfl) (fun b _ hs => hs)⟩⟩

theorem BkJ.recs (h1 : gR < d) (h2 : gN < d) (k : Nat) (S : Nat → Prop) : H4.Rec (d + 1) (BkJ c wb d gR gN k S) := ⟨fun o W h => h.lp, fun o o' W h => h.put h1 h2⟩

theorem BkJ.bears (h1 : gR < d) (h2 : gN < d) (o : Obj) : BBears fun k S W => BkJ c wb d gR gN k S o W := by
  intro k S S' w w' h hm hb hs hn
  have hz := h.size
  have hz2 := hm.size
  have keep : ∀ b, b < d + 2 → w'.heap[b]? = w.heap[b]? := fun b hb2 => hm.blk b (by omega) (fun e => by have := h.sge b e; omega)
  obtain ⟨vr, us, e1, e2, e3⟩ := h.var
  refine ⟨(keep _ (by omega)).trans h.dfr, (keep _ (by omega)).trans h.lp, hm.os.trans h.os, hm.tape.trans h.tape, hm.output.trans h.output, by omega, fun b h1 h2 h3 => (keep _ (by omega)).trans (h.blk b h1 h2 h3), fun b e => ?_, (keep _ (by omega)).trans h.cnt, vr, us, (keep _ (by omega)).trans e1, e2, e3.keep (fun b q1 _ q3 => hm.blk b q1 q3) (fun b q1 q2 => ?_)⟩
  · rcases (hn b e).1 with e | e
    · exact h.sge b e
    · omega
  · rcases (hn b q2).1 with e | e
    · exact e
    · omega

theorem BkJ.start (hR : wb.heap[gR]? = some (.cells #[.slice none 0 0] 34 (0, 0))) (hN : wb.heap[gN]? = some (.cells #[.int .i64 0] 3 (0, 0))) (o : Obj) : BkJ c wb wb.heap.size gR gN 0 (fun _ => False) o ((wb.alloc (.deferred (some []))).alloc o) := by
  have h1 : gR < wb.heap.size := (Array.getElem?_eq_some_iff.1 hR).1
  have h2 : gN < wb.heap.size := (Array.getElem?_eq_some_iff.1 hN).1
  have hlt : ∀ k, k < wb.heap.size → ((wb.alloc (.deferred (some []))).alloc o).heap[k]? = wb.heap[k]? := fun k hk => by rw [Below.heap_alloc _ _ _ (by simp; omega), Below.heap_alloc _ _ _ hk]
  refine ⟨(heap_two8 wb _ o).2, (heap_two8 wb _ o).1, rfl, rfl, rfl, by simp, fun k hk _ _ => hlt k hk, fun b e => e.elim, (hlt _ h2).trans hN, .slice none 0 0, [], (hlt _ h1).trans hR, rfl, World.ownsRow_nil _ _ _ _, (fun j u e => by simp at e), (fun b e => by cases e), (fun j u b e => by simp at e), (fun i j u v b e => by simp at e)⟩

theorem BkJ.spoilt {u vr : Value} {us : List Value} {V V2 : World} (h : BkJ c wb d gR gN k S o V) (hS : ∀ b, S b → b < V.heap.size) (hu : ∀ b, u.ownBlock = some b → S b) (hg : V.grownBy V2 u.ownBlock) (e2 : Vr c (d + 2) V S vr us) :
    (∀ b, b < d + 2 → V2.heap[b]? = V.heap[b]?) ∧ OLs V2 (d + 2) vr us ∧ d + 2 ≤ V2.heap.size := by
  have hz := h.size
  have z0 := hg.size
  refine ⟨fun b hb => hg.block b (by omega) (fun e => by have := h.sge b (hu b e.symm); omega), e2.row.move fun b hb => hg.block b (e2.row.lt b hb).2 (fun e => e2.nS b hb (hu b e.symm)), by omega⟩

theorem BkJ.next {u vr vr' : Value} {us : List Value} {l : List Int} {V V1 w6 w8 : World} (h : BkJ c wb d gR gN k S o V) (h1 : gR < d) (h2 : gN < d) (hne : gR ≠ gN) (hS : ∀ b, S b → b < V.heap.size) (hu : ∀ b, u.ownBlock = some b → S b)
    (e1 : us.length = k) (e2 : Vr c (d + 2) V S vr us) (hg : V.grownBy V1 u.ownBlock) (ho : OB V1 0 u (c k))
    (m1 : Mvb (fun b => b = gR ∨ vr.ownBlock = some b) V1 w6) (a1 : w6.heap[gR]? = some (.cells #[vr'] 34 (0, 0))) (a2 : OLs w6 (d + 2) vr' (us ++ [u])) (a3 : ∀ b, vr'.ownBlock = some b → vr.ownBlock = some b ∨ V1.heap.size ≤ b)
    (m2 : Wrt gN (.cells #[.int .i64 ((k + 1 : Nat) : Int)] 3 (0, 0)) w6 w8) :
    BkJ c wb d gR gN (k + 1) (fun b => S b ∧ u.ownBlock ≠ some b) o w8 ∧ (∀ b, S b → u.ownBlock ≠ some b → w8.heap[b]? = V.heap[b]?) ∧ V.heap.size ≤ w8.heap.size := by
  have hz := h.size
  have z0 := hg.size
  have z1 := m1.size
  have z2 := m2.size
  have k0 : ∀ b, b < V.heap.size → u.ownBlock ≠ some b → V1.heap[b]? = V.heap[b]? := fun b q1 q2 => hg.block b q1 (fun e => q2 e.symm)
  have k1 : ∀ b, b < V1.heap.size → b ≠ gR → vr.ownBlock ≠ some b → w6.heap[b]? = V1.heap[b]? := fun b q1 q2 q3 => m1.blk b q1 (fun e => by rcases e with e | e; exact q2 e; exact q3 e)
  have hun : ∀ b, b < d + 2 → u.ownBlock ≠ some b := fun b hb e => by have := h.sge b (hu b e); omega
  have hrn : ∀ b, b < d + 2 → vr.ownBlock ≠ some b := fun b hb e => by have := (e2.row.lt b e).1; omega
  have low : ∀ b, b < d + 2 → b ≠ gR → b ≠ gN → w8.heap[b]? = V.heap[b]? := fun b q1 q2 q3 => (m2.ne b q3).trans ((k1 b (by omega) q2 (hrn b q1)).trans (k0 b (by omega) (hun b q1)))
  have high : ∀ b, b < V.heap.size → d + 2 ≤ b → u.ownBlock ≠ some b → vr.ownBlock ≠ some b → w8.heap[b]? = V.heap[b]? := fun b q1 q2 q3 q4 => (m2.ne b (by omega)).trans ((k1 b (by omega) (by omega) q4).trans (k0 b q1 q3))
  have hvu : ∀ b, vr.ownBlock = some b → u.ownBlock ≠ some b := fun b q1 q2 => e2.nS b q1 (hu b q2)
  have huV : ∀ b, u.ownBlock = some b → b < V.heap.size := fun b e => hS b (hu b e)
  have hlast : (us ++ [u])[k]? = some u := by rw [List.getElem?_append_right (by omega), e1, Nat.sub_self]; rfl
  have hpick : ∀ j x, (us ++ [u])[j]? = some x → (us[j]? = some x ∧ j < k) ∨ (j = k ∧ x = u) := fun j x hj => by
    rcases Nat.lt_or_ge j us.length with q | q
    · rw [List.getElem?_append_left q] at hj; exact .inl ⟨hj, by omega⟩
    · rw [List.getElem?_append_right q] at hj
      have : j - us.length = 0 := by
        rcases Nat.eq_zero_or_pos (j - us.length) with z | z
        · exact z
        · rw [List.getElem?_eq_none (by simp; omega)] at hj; cases hj
      rw [this] at hj
      simp at hj
      exact .inr ⟨by omega, hj.symm⟩
  have hvr' : ∀ b, vr'.ownBlock = some b → (vr.ownBlock = some b ∧ b < V.heap.size) ∨ V.heap.size ≤ b := fun b e => by
    rcases a3 b e with q | q
    · exact .inl ⟨q, (e2.row.lt b q).2⟩
    · exact .inr (by omega)
  refine ⟨⟨(low _ (by omega) (by omega) (by omega)).trans h.dfr, (low _ (by omega) (by omega) (by omega)).trans h.lp, m2.os.trans (m1.os.trans (hg.os.trans h.os)), m2.tape.trans (m1.tape.trans (hg.tape.trans h.tape)), m2.output.trans (m1.output.trans (hg.output.trans h.output)), by omega, fun b q1 q2 q3 => (low b (by omega) q2 q3).trans (h.blk b q1 q2 q3), fun b e => h.sge b e.1, m2.at, vr', us ++ [u], (m2.ne _ hne).trans a1, by rw [List.length_append, e1]; rfl, ?_⟩, fun b q1 q2 => high b (hS b q1) (h.sge b q1) q2 (fun e => e2.nS b e q1), by omega⟩
  refine ⟨a2.move fun b hb => m2.ne b (by have := (a2.lt b hb).1; omega), fun j x hj => ?_, fun b q1 q2 => ?_, fun j x b hj hb => ?_, fun i j x y b hi hj hij hb hb2 => ?_⟩
  · rcases hpick j x hj with ⟨q, _⟩ | ⟨rfl, rfl⟩
    · have o1 := e2.ob j x q
      refine o1.move fun b hb => ?_
      have l := o1.lt b hb
      have s1 := e2.uS j x b q hb
      exact high b l.2 l.1 (fun e => s1.1 (hu b e)) s1.2
    · refine OB.rebase (B := 0) (ho.move fun b hb => ?_) fun b hb => h.sge b (hu b hb)
      have := huV b hb
      have := h.sge b (hu b hb)
      exact (m2.ne b (by omega)).trans (k1 b (by omega) (by omega) (fun e => hvu b e hb))
  · rcases hvr' b q1 with ⟨q, _⟩ | q
    · exact e2.nS b q q2.1
    · have := hS b q2.1; omega
  · rcases hpick j x hj with ⟨q, _⟩ | ⟨rfl, rfl⟩
    · have s1 := e2.uS j x b q hb
      have l := (e2.ob j x q).lt b hb
      refine ⟨fun e => s1.1 e.1, fun e => ?_⟩
      rcases hvr' b e with ⟨q3, _⟩ | q3
      · exact s1.2 q3
      · omega
    · have := huV b hb
      refine ⟨fun e => e.2 hb, fun e => ?_⟩
      rcases hvr' b e with ⟨q3, _⟩ | q3
      · exact hvu b q3 hb
      · omega
  · rcases hpick i x hi with ⟨q, _⟩ | ⟨q, rfl⟩ <;> rcases hpick j y hj with ⟨q', _⟩ | ⟨q', rfl⟩
    · exact e2.sep i j x y b q q' hij hb hb2
    · exact (e2.uS i x b q hb).1 (hu b hb2)
    · exact (e2.uS j y b q' hb2).1 (hu b hb)
    · omega
end Go.Proofs.YtdpoggapenjjfaaGreatDoor

