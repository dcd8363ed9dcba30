import Derived.Test.YtippppcdongahaaDoorG30Ibr
import Derived.Test.YtippppcdongahaaDoorG15Wkq
import Derived.Maps.OwnIn
namespace Go.Proofs.YtippppcdongahaaDoor
open Go.RowKit Go.Maps Go.Shelf
attribute [local go_sem] Oper.semAt_some
set_option maxRecDepth 20000
set_option linter.unusedVariables false

theorem wpPcIn {F : Fence} {nF : Nat} {w : World} {ops : Array Oper} {rest : List Oper} {o : Oper} {a : Act} {Q : Exit → Act → World → Prop} (hgd : o.guard = none) (s x : Operand)
    (ho : o.op = .call { callee := .builtin .append, args := #[s, x], argTypes := #[28, 28] }) (base : Nat) (v : Value) (R : List (Array Value)) (r : Array Value) (B c : Nat) (hs : a.eval s = v) (hown : ORp 36 6 w base v R)
    (hx : a.eval x = .slice (some ⟨B, 0, none⟩) 1 c) (hB : w.heap[B]? = some (.cells r 36 (0, 0))) (hr : r.size = 6) (h1 : ∀ u ∈ r.toList, u.oneCell' = true) (hlen : R.length ≤ 268435456) (hbase : base ≤ w.heap.size)
    (h : ∀ v' w', ORp 36 6 w' base v' (R ++ [r]) → w.grownBy w' v.ownBlock → (v'.ownBlock = v.ownBlock ∨ v'.ownBlock = some w.heap.size) → wpListIn F nF Tryd.prog ops Q rest (a.put o.dst v') w') : wpListIn F nF Tryd.prog ops Q (o :: rest) a w := by
  obtain ⟨i0, hi0, hz0, hz1, hz2⟩ := info_parts (show (Tryd.prog.info? 36).map (fun i => (i.zero, i.size, i.bytes)) = some (some (.agg #[.int .i64 0, .bool false, .int .i64 0, .int .i64 0, .int .i64 0, .int .i64 0]), 6, 48) by kernel_rfl)
  refine wpListIn_append_own_at _ hgd s x 28 ho base 36 i0 _ 6 48 Tryd.underlying28 hi0 hz0 hz1 hz2 rfl (by omega) v R.length (flr R) hs hown.2 ⟨B, 0, none⟩ 1 c r.toList hx (by rw [Array.length_toList, hr, Nat.one_mul]) (World.news_of_block hB) h1 (by unfold maxLen; omega) (by omega) hbase fun v' w' g1 g2 _ g4 => h v' w' ⟨?_, ?_⟩ g2 g4
  · intro q hq
    rcases List.mem_append.1 hq with hq | hq
    · exact hown.1 q hq
    · rw [List.mem_singleton.1 hq]; exact hr
  · rw [List.length_append, flr_app]
    simpa [flr] using g1

theorem wpBytIn {F : Fence} {nF : Nat} {w : World} {ops : Array Oper} {rest : List Oper} {o : Oper} {a : Act} {Q : Exit → Act → World → Prop} (hgd : o.guard = none) (s x : Operand)
    (ho : o.op = .call { callee := .builtin .append, args := #[s, x], argTypes := #[22, 22] }) (base : Nat) (v xv : Value) (l news : List Int) (hv : a.eval s = v) (hown : OB w base v l) (hx : a.eval x = xv) (hs : Src Tryd.prog 1 22 xv news.length (news.map (Value.int .u8)) w)
    (hb : l.length + news.length ≤ 140737488355328) (hbase : base ≤ w.heap.size)
    (h : ∀ v' w', OB w' base v' (l ++ news) → Grew w w' v v' → wpListIn F nF Tryd.prog ops Q rest (a.put o.dst v') w') : wpListIn F nF Tryd.prog ops Q (o :: rest) a w := by
  refine wpListIn_plain hgd fun K hK => ?_
  obtain ⟨v', w', hr, h2, h3⟩ := run_app w base 22 o.type v xv l news hown hs hb hbase
  unfold Oper.wpIn
  refine ⟨by simp [Oper.about, ho, resolve, Target.leads, Sem.run_pure], ?_⟩
  rw [Oper.semAt_plain _ _ _ (by rw [ho]; intro c hc'; cases hc')]
  simp [execOp, ho, resolve, invoke, builtin, hv, hx, hr, Result.andThen]
  exact hK _ _ (h v' w' h2 h3)

structure SmJ (ps : List Pc) (o0 : List Int) (wb : World) (d gA gT k : Nat) (S : Nat → Prop) (o : Obj) (W : World) : Prop where
  dfr : W.heap[d]? = some (.deferred (some []))
  lp : W.heap[d + 1]? = some o
  os : W.os = wb.os
  tape : W.tape = wb.tape
  output : W.output = wb.output
  size : d + 2 ≤ W.heap.size
  blk : ∀ b, b < d → b ≠ gA → b ≠ gT → W.heap[b]? = wb.heap[b]?
  sge : ∀ b, S b → d + 2 ≤ b
  var : ∃ va vt, W.heap[gA]? = some (.cells #[va] 28 (0, 0)) ∧ W.heap[gT]? = some (.cells #[vt] 22 (0, 0)) ∧ ORp 36 6 W (d + 2) va ((ps.take k).map pcq) ∧ OB W (d + 2) vt ((ps.take k).flatMap (sg o0)) ∧ (∀ b, va.ownBlock = some b → ¬ S b) ∧ (∀ b, vt.ownBlock = some b → ¬ S b) ∧ (∀ b, va.ownBlock = some b → vt.ownBlock ≠ some b)

variable {ps : List Pc} {o0 : List Int} {wb : World} {d gA gT k : Nat} {S : Nat → Prop} {o : Obj} {W : World}

theorem SmJ.put {o' : Obj} (h : SmJ ps o0 wb d gA gT k S o W) (hA : gA < d) (hT : gT < d) : SmJ ps o0 wb d gA gT k S o' (W.putObj (d + 1) o') where
  dfr := (putObj_at8 _ _ (by omega)).trans h.dfr
  lp := by
    have := h.size
    show (W.heap.setIfInBounds (d + 1) o')[d + 1]? = some o'
    rw [Array.getElem?_setIfInBounds_self_of_lt (by omega)]
  os := h.os
  tape := h.tape
  output := h.output
  size := by rw [putObj_size8]; exact h.size
  blk := fun b h1 h2 h3 => (putObj_at8 _ _ (by omega)).trans (h.blk b h1 h2 h3)
  sge := h.sge
  var := by
    obtain ⟨va, vt, e1, e2, e3, e4, e5⟩ := h.var
    exact ⟨va, vt, (putObj_at8 _ _ (by omega)).trans e1, (putObj_at8 _ _ (by omega)).trans e2, e3.move fun b hb => putObj_at8 _ _ (by have := (e3.lt b hb).1; omega), e4.move fun b hb => putObj_at8 _ _ (by have := (e4.lt b hb).1; omega), e5⟩

theorem SmJ.recs (hA : gA < d) (hT : gT < d) (k : Nat) (S : Nat → Prop) : H4.Rec (d + 1) (SmJ ps o0 wb d gA gT k S) := ⟨fun o W h => h.lp, fun o o' W h => h.put hA hT⟩

theorem SmJ.bears (hA : gA < d) (hT : gT < d) (o : Obj) : BBears fun k S W => SmJ ps o0 wb d gA gT k S o W := by
  intro k S S' w w' h hm hb hs hn
  have hz := h.size
  have hz2 := hm.size
  have keep : ∀ b, b < d + 2 → w'.heap[b]? = w.heap[b]? := fun b hb2 => hm.blk b (by omega) (fun e => by have := h.sge b e; omega)
  obtain ⟨va, vt, e1, e2, e3, e4, e5, e6, e7⟩ := h.var
  refine ⟨(keep _ (by omega)).trans h.dfr, (keep _ (by omega)).trans h.lp, hm.os.trans h.os, hm.tape.trans h.tape, hm.output.trans h.output, by omega, fun b h1 h2 h3 => (keep _ (by omega)).trans (h.blk b h1 h2 h3), fun b e => ?_, va, vt, (keep _ (by omega)).trans e1, (keep _ (by omega)).trans e2, e3.move fun b hb2 => hm.blk b (e3.lt b hb2).2 (e5 b hb2), e4.move fun b hb2 => hm.blk b (e4.lt b hb2).2 (e6 b hb2), fun b hb2 e => ?_, fun b hb2 e => ?_, e7⟩
  · rcases (hn b e).1 with e | e
    · exact h.sge b e
    · omega
  · rcases (hn b e).1 with e | e
    · exact e5 b hb2 e
    · have := (e3.lt b hb2).2; omega
  · rcases (hn b e).1 with e | e
    · exact e6 b hb2 e
    · have := (e4.lt b hb2).2; omega

theorem SmJ.start (hA : wb.heap[gA]? = some (.cells #[.slice none 0 0] 28 (0, 0))) (hT : wb.heap[gT]? = some (.cells #[.slice none 0 0] 22 (0, 0))) (o : Obj) : SmJ ps o0 wb wb.heap.size gA gT 0 (fun _ => False) o ((wb.alloc (.deferred (some []))).alloc o) := by
  have h1 : gA < wb.heap.size := (Array.getElem?_eq_some_iff.1 hA).1
  have h2 : gT < wb.heap.size := (Array.getElem?_eq_some_iff.1 hT).1
  have hlt : ∀ k, k < wb.heap.size → ((wb.alloc (.deferred (some []))).alloc o).heap[k]? = wb.heap[k]? := fun k hk => by rw [Below.heap_alloc _ _ _ (by simp; omega), Below.heap_alloc _ _ _ hk]
  refine ⟨(heap_two8 wb _ o).2, (heap_two8 wb _ o).1, rfl, rfl, rfl, by simp, fun k hk _ _ => hlt k hk, fun b e => e.elim, _, _, (hlt _ h1).trans hA, (hlt _ h2).trans hT, ?_, ?_, (fun b e => by cases e), (fun b e => by cases e), (fun b e => by cases e)⟩
  · rw [List.take_zero]; exact ORp.nil _ _ _ _
  · rw [List.take_zero]; exact World.ownsRow_nil _ _ _ _

theorem SmJ.next {x : Pc} {u va vt va' vt' : Value} {V w6 w8 : World} (h : SmJ ps o0 wb d gA gT k S o V) (hA : gA < d) (hT : gT < d) (hne : gA ≠ gT) (hS : ∀ b, S b → b < V.heap.size) (hk : ps[k]? = some x)
    (e3 : ORp 36 6 V (d + 2) va ((ps.take k).map pcq)) (e4 : OB V (d + 2) vt ((ps.take k).flatMap (sg o0))) (e5 : ∀ b, va.ownBlock = some b → ¬ S b) (e6 : ∀ b, vt.ownBlock = some b → ¬ S b) (e7 : ∀ b, va.ownBlock = some b → vt.ownBlock ≠ some b)
    (m1 : Mvb (fun b => b = gA ∨ va.ownBlock = some b) V w6) (a1 : w6.heap[gA]? = some (.cells #[va'] 28 (0, 0))) (a2 : ORp 36 6 w6 (d + 2) va' ((ps.take k).map pcq ++ [pcq x])) (a3 : ∀ b, va'.ownBlock = some b → va.ownBlock = some b ∨ V.heap.size ≤ b)
    (m2 : Mvb (fun b => b = gT ∨ vt.ownBlock = some b) w6 w8) (b1 : w8.heap[gT]? = some (.cells #[vt'] 22 (0, 0))) (b2 : OB w8 (d + 2) vt' ((ps.take k).flatMap (sg o0) ++ sg o0 x)) (b3 : ∀ b, vt'.ownBlock = some b → vt.ownBlock = some b ∨ w6.heap.size ≤ b) :
    SmJ ps o0 wb d gA gT (k + 1) (fun b => S b ∧ u.ownBlock ≠ some b) o w8 ∧ (∀ b, S b → u.ownBlock ≠ some b → w8.heap[b]? = V.heap[b]?) ∧ V.heap.size ≤ w8.heap.size := by
  have hz := h.size
  have z1 := m1.size
  have z2 := m2.size
  have htk : ps.take (k + 1) = ps.take k ++ [x] := by rw [List.take_add_one, hk]; rfl
  have k1 : ∀ b, b < V.heap.size → b ≠ gA → va.ownBlock ≠ some b → w6.heap[b]? = V.heap[b]? := fun b q1 q2 q3 => m1.blk b q1 (fun e => by rcases e with e | e; exact q2 e; exact q3 e)
  have k2 : ∀ b, b < w6.heap.size → b ≠ gT → vt.ownBlock ≠ some b → w8.heap[b]? = w6.heap[b]? := fun b q1 q2 q3 => m2.blk b q1 (fun e => by rcases e with e | e; exact q2 e; exact q3 e)
  have low : ∀ b, b < d + 2 → b ≠ gA → b ≠ gT → w8.heap[b]? = V.heap[b]? := fun b q1 q2 q3 => (k2 b (by omega) q3 (fun e => by have := (e4.lt b e).1; omega)).trans (k1 b (by omega) q2 (fun e => by have := (e3.lt b e).1; omega))
  refine ⟨⟨(low _ (by omega) (by omega) (by omega)).trans h.dfr, (low _ (by omega) (by omega) (by omega)).trans h.lp, m2.os.trans (m1.os.trans h.os), m2.tape.trans (m1.tape.trans h.tape), m2.output.trans (m1.output.trans h.output), by omega, fun b q1 q2 q3 => (low b (by omega) q2 q3).trans (h.blk b q1 q2 q3), fun b e => h.sge b e.1, va', vt', ?_, b1, ?_, ?_, fun b q1 q2 => ?_, fun b q1 q2 => ?_, fun b q1 q2 => ?_⟩, fun b q1 q2 => ?_, by omega⟩
  · exact (k2 gA (by omega) hne (fun e => by have := (e4.lt _ e).1; omega)).trans a1
  · rw [htk, List.map_append]
    refine a2.move fun b hb => ?_
    have l := a2.lt b hb
    refine k2 b l.2 (by omega) (fun e => ?_)
    rcases a3 b hb with q | q
    · exact e7 b q e
    · have := (e4.lt b e).2; omega
  · rw [htk, List.flatMap_append, List.flatMap_cons, List.flatMap_nil, List.append_nil]; exact b2
  · rcases a3 b q1 with q | q
    · exact e5 b q q2.1
    · have := hS b q2.1; omega
  · rcases b3 b q1 with q | q
    · exact e6 b q q2.1
    · have := hS b q2.1; omega
  · rcases b3 b q2 with q | q <;> rcases a3 b q1 with q' | q'
    · exact e7 b q' q
    · have := (e4.lt b q).2; omega
    · have := (e3.lt b q').2; omega
    · have := (a2.lt b q1).2; omega
  · have := h.sge b q1
    have hb := hS b q1
    exact (k2 b (by omega) (by omega) (fun e => e6 b e q1)).trans (k1 b hb (by omega) (fun e => e5 b e q1))
end Go.Proofs.YtippppcdongahaaDoor

