import Derived.Test.YtjdgeonlbjokaaaGTle
import Derived.Test.YtjdgeonlbjokaaaGTea
import Derived.Maps.OwnIn
namespace Go.Proofs.Ytjdgeonlbjokaaa
open Go.RowKit Go.Maps Go.Shelf
attribute [local go_sem] Oper.semAt_some
set_option maxRecDepth 20000
set_option linter.unusedVariables false

/-- One more token, in a round. -/
theorem wpTokIn {F : Fence} {nF : Nat} {w : World} {ops : Array Oper} {rest : List Oper} {o : Oper} {a : Act} {Q : Exit → Act → World → Prop} (hgd : o.guard = none) (s x : Operand)
    (ho : o.op = .call { callee := .builtin .append, args := #[s, x], argTypes := #[26, 26] }) (base : Nat) (v : Value) (R : List Tk) (p1 p2 p3 : Int) (hs : a.eval s = v) (hown : OK w base v R)
    (c : Nat) (hx : a.eval x = .slice (some ⟨w.heap.size, 0, none⟩) 1 c) (hn : R.length ≤ 5864062014800) (hbase : base ≤ w.heap.size)
    (h : ∀ v' w', OK w' base v' (R ++ [(p1, p2, p3)]) → (w.alloc (.cells #[.int .i64 p1, .int .i64 p2, .int .u8 p3] 38)).grownBy w' v.ownBlock → (v'.ownBlock = v.ownBlock ∨ v'.ownBlock = some (w.heap.size + 1)) → wpListIn F nF Try.prog ops Q rest (a.put o.dst v') w') :
    wpListIn F nF Try.prog ops Q (o :: rest) a (w.alloc (.cells #[.int .i64 p1, .int .i64 p2, .int .u8 p3] 38)) := by
  obtain ⟨i0, hi0, hz0, hz1, hz2⟩ := info_parts infoTok
  refine wpListIn_append_own_at _ hgd s x 26 ho base 38 i0 _ 3 24 Try.underlying26 hi0 hz0 hz1 hz2 rfl (by omega) v R.length (fr3 R) hs (hown.alloc _) ⟨w.heap.size, 0, none⟩ 1 c [.int .i64 p1, .int .i64 p2, .int .u8 p3] hx rfl (World.news_of_block (cs := #[.int .i64 p1, .int .i64 p2, .int .u8 p3]) (t := 38) (fr := (0, 0)) (heap_alloc_new w _))
    (fun u hu => by
      simp only [List.mem_cons, List.not_mem_nil, or_false] at hu
      rcases hu with rfl | rfl | rfl <;> rfl) (by unfold maxLen; omega) (by omega) (by simp; omega) fun v' w' h1 h2 _ h4 => h v' w' ?_ h2 (by rw [size_alloc'] at h4; exact h4)
  show World.ownsRow _ _ _ _ _ _ _
  rw [List.length_append, fr3_snoc]
  exact h1

/-- A loop over Each that gathers the tokens in the variable at gT: k have come. All else below d is as it was (wb). -/
structure TkJ (R : List Tk) (wb : World) (d gT k : Nat) (S : Nat → Prop) (o : Obj) (W : World) : Prop where
  dfr : W.heap[d]? = some (.deferred (some []))
  lp : W.heap[d + 1]? = some o
  os : W.os = wb.os
  tape : W.tape = wb.tape
  output : W.output = wb.output
  size : d + 2 ≤ W.heap.size
  blk : ∀ b, b < d → b ≠ gT → W.heap[b]? = wb.heap[b]?
  sge : ∀ b, S b → d + 2 ≤ b
  var : ∃ tv, W.heap[gT]? = some (.cells #[tv] 26 (0, 0)) ∧ OK W (d + 2) tv (R.take k) ∧ ∀ b, tv.ownBlock = some b → ¬ S b

theorem TkJ.put {R : List Tk} {wb : World} {d gT k : Nat} {S : Nat → Prop} {o o' : Obj} {W : World} (h : TkJ R wb d gT k S o W) (hg : gT < d) : TkJ R wb d gT k S o' (W.putObj (d + 1) o') where
  dfr := (putObj_ne _ _ (by omega)).trans h.dfr
  lp := by
    have := h.size
    show (W.heap.setIfInBounds (d + 1) o')[d + 1]? = some o'
    rw [Array.getElem?_setIfInBounds_self_of_lt (by omega)]
  os := h.os
  tape := h.tape
  output := h.output
  size := by rw [putObj_size]; exact h.size
  blk := fun b h1 h2 => (putObj_ne _ _ (by omega)).trans (h.blk b h1 h2)
  sge := h.sge
  var := by
    obtain ⟨tv, e1, e2, e3⟩ := h.var
    exact ⟨tv, (putObj_ne _ _ (by omega)).trans e1, tokown_move e2 fun b hb => putObj_ne _ _ (by have := (OK.lt e2 b hb).1; omega), e3⟩

theorem TkJ.recs {R : List Tk} {wb : World} {d gT : Nat} (hg : gT < d) (k : Nat) (S : Nat → Prop) : H4.Rec (d + 1) (TkJ R wb d gT k S) := ⟨fun o W h => h.lp, fun o o' W h => h.put hg⟩

theorem TkJ.bears {R : List Tk} {wb : World} {d gT : Nat} (hg : gT < d) (o : Obj) : Bears fun k S W => TkJ R wb d gT k S o W := by
  intro k S S' w w' h hm hb hs hn
  have hz := h.size
  have hz2 := hm.size
  have keep : ∀ b, b < d + 2 → w'.heap[b]? = w.heap[b]? := fun b hb2 => hm.blk b (by omega) (fun e => by have := h.sge b e; omega)
  obtain ⟨tv, e1, e2, e3⟩ := h.var
  refine ⟨(keep _ (by omega)).trans h.dfr, (keep _ (by omega)).trans h.lp, hm.os.trans h.os, hm.tape.trans h.tape, hm.output.trans h.output, by omega, fun b h1 h2 => (keep _ (by omega)).trans (h.blk b h1 h2), fun b e => ?_, tv, (keep _ (by omega)).trans e1, tokown_move e2 fun b hb2 => hm.blk b (OK.lt e2 b hb2).2 (e3 b hb2), fun b hb2 e => ?_⟩
  · rcases (hn b e).1 with e | e
    · exact h.sge b e
    · omega
  · rcases (hn b e).1 with e | e
    · exact e3 b hb2 e
    · have := (OK.lt e2 b hb2).2; omega

theorem TkJ.start {R : List Tk} {wb : World} {gT : Nat} (hv : wb.heap[gT]? = some (.cells #[.slice none 0 0] 26 (0, 0))) (o : Obj) : TkJ R wb wb.heap.size gT 0 (fun _ => False) o ((wb.alloc (.deferred (some []))).alloc o) := by
  have hg : gT < wb.heap.size := (Array.getElem?_eq_some_iff.1 hv).1
  have hlt : ∀ k, k < wb.heap.size → ((wb.alloc (.deferred (some []))).alloc o).heap[k]? = wb.heap[k]? := fun k hk => by rw [Below.heap_alloc _ _ _ (by simp; omega), Below.heap_alloc _ _ _ hk]
  exact ⟨(heap_two wb _ o).2, (heap_two wb _ o).1, rfl, rfl, rfl, by simp, fun k hk _ => hlt k hk, fun b e => e.elim, _, (hlt _ hg).trans hv, OK.nil _ _, fun b e => by cases e⟩

/-- One more has come: the variable is written. -/
theorem TkJ.next {R : List Tk} {wb : World} {d gT k : Nat} {S : Nat → Prop} {o : Obj} {W w1 w2 : World} {tv tv2 : Value} (h : TkJ R wb d gT k S o W) (hg : gT < d) (hS : ∀ b, S b → b < W.heap.size)
    (hv : W.heap[gT]? = some (.cells #[tv] 26 (0, 0))) (ho : OK W (d + 2) tv (R.take k)) (hn : ∀ b, tv.ownBlock = some b → ¬ S b) (hb : Below W.heap.size W w1) (hgr : w1.grownBy w2 tv.ownBlock) (h2 : OK w2 (d + 2) tv2 (R.take (k + 1))) (hat : tv2.ownBlock = tv.ownBlock ∨ ∃ q, tv2.ownBlock = some q ∧ W.heap.size ≤ q) :
    TkJ R wb d gT (k + 1) S o (w2.setCell ⟨gT, 0, none⟩ tv2) ∧ (∀ b, S b ∨ (b < d ∧ b ≠ gT) → (w2.setCell ⟨gT, 0, none⟩ tv2).heap[b]? = W.heap[b]?) ∧ W.heap.size ≤ (w2.setCell ⟨gT, 0, none⟩ tv2).heap.size := by
  have hz := h.size
  have hs1 := hb.size
  have hs2 := hgr.size
  have keep : ∀ b, b < W.heap.size → tv.ownBlock ≠ some b → w2.heap[b]? = W.heap[b]? := fun b h1 h3 => (hgr.block b (by omega) (fun e => h3 e.symm)).trans (hb.block b h1)
  have low : ∀ b, b < d + 2 → w2.heap[b]? = W.heap[b]? := fun b h1 => keep b (by omega) (fun e => by have := (ho.lt b e).1; omega)
  have hot : ∀ b, b ≠ gT → (w2.setCell ⟨gT, 0, none⟩ tv2).heap[b]? = w2.heap[b]? := fun b hbr => setCell_others _ _ _ _ b hbr
  have hg2 := (low gT (by omega)).trans hv
  refine ⟨⟨(hot _ (by omega)).trans ((low _ (by omega)).trans h.dfr), (hot _ (by omega)).trans ((low _ (by omega)).trans h.lp), ?_, ?_, ?_, by rw [size_setCell]; omega, fun b x y => (hot _ y).trans ((low _ (by omega)).trans (h.blk b x y)), h.sge, tv2, ?_, ?_, fun b e1 e2 => ?_⟩, fun b e => ?_, by rw [size_setCell]; omega⟩
  · exact (hgr.os.trans hb.os).trans h.os
  · exact (hgr.tape.trans hb.tape).trans h.tape
  · exact (hgr.output.trans hb.output).trans h.output
  · rw [heap_setCell_at _ hg2]; rfl
  · exact tokown_move h2 fun b hb2 => hot b (by have := (h2.lt b hb2).1; omega)
  · rcases hat with e | ⟨q, e, e3⟩
    · exact hn b (e ▸ e1) e2
    · rw [e] at e1; cases e1
      have := hS _ e2; omega
  · rcases e with e | ⟨e, e2⟩
    · have h3 := h.sge b e
      exact (hot b (by omega)).trans (keep b (hS b e) (fun q => hn b q e))
    · exact (hot b e2).trans (low b (by omega))
end Go.Proofs.Ytjdgeonlbjokaaa

