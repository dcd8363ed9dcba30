import Derived.Test.YtlidmhdcikcpkaaGWbs
namespace Go.Proofs.Ytlidmhdcikcpkaa
open Go.RowKit Go.Maps
set_option maxRecDepth 20000
set_option linter.unusedVariables false
set_option linter.unusedSimpArgs false

theorem wpList_mk {w : World} {ops : Array Oper} {rest : List Oper} {o : Oper} {a : Act} {Q : Exit → Act → World → Prop} (hg : o.guard = none) (l c : Operand) (hop : o.op = Op.makeSlice 34 l c)
    (kl kc : IntKind) (L C : Int) (n m : Nat) (hl : a.eval l = .int kl L) (hc : a.eval c = .int kc C) (hL : L = (n : Int)) (hC : C = (m : Int)) (hnm : n ≤ m) (b2 : m ≤ 140737488355328)
    (hK : ∀ w', w'.heap[w.heap.size]? = some (.cells (List.replicate m (Value.int .u8 0)).toArray 5 (0, 0)) → Below w.heap.size w w' → wpList Try.prog ops Q rest (a.put o.dst (.slice (some ⟨w.heap.size, 0, none⟩) n m)) w') :
    wpList Try.prog ops Q (o :: rest) a w := by
  obtain ⟨i0, hi, hz0, hz1, hz2⟩ := info_parts info5
  refine wpList_plain hg fun K hK' => ?_
  have hr := run_make (P := Try.prog) w 34 5 i0 (.int .u8 0) Try.underlying34 hi hz0 kl kc (n : Int) (m : Int) (by omega) (by omega) (by rw [hz2]; omega) (by omega)
  subst hL hC
  unfold Oper.wp
  simp [execOp, hop, hl, hc, hr, Result.andThen]
  refine hK' _ _ (hK _ ?_ ((Below.refl _ _).alloc (Nat.le_refl _) _))
  rw [heap_alloc_new, hz1, Nat.mul_one]
  have e : (madeCells (Value.int .u8 0).cells m) = (List.replicate m (Value.int .u8 0)).toArray := by
    apply Array.ext'
    exact madeBytes m
  rw [e]

theorem splice_front {α : Type} (cs : List α) (n m : Nat) (z : α) (h : cs.length = n) : splice (List.replicate (n + m) z) 0 cs = cs ++ List.replicate m z := by
  simp [splice, h]

theorem infoW : (Try.prog.info? 41).map (fun i => (i.zero, i.size, i.bytes)) = some (some (.agg #[.int .i64 0, .slice none 0 0]), 2, 32) := by kernel_rfl

/-- Writes of one's own: the row, and each list. -/
def OW (w : World) (base : Nat) (v : Value) (R : List We) : Prop := OR 41 2 w base v (R.map We.cs) ∧ ∀ e ∈ R, OB w base e.dv e.l ∧ ∀ k, e.dv.ownBlock = some k → v.ownBlock ≠ some k

theorem OW.sw {w : World} {base : Nat} {v : Value} {R : List We} (h : OW w base v R) : SW w v R := ⟨h.1.sr, fun e he => (h.2 e he).1.sb⟩

def sml (R : List We) : Prop := R.length ≤ 4398046510976 ∧ ∀ e ∈ R, e.l.length ≤ 140737488351232

theorem far_two {w2 w3 : World} {o : Obj} {v : Value} {b p q : Nat} {x y : Value} (hg : (w2.alloc o).grownBy w3 v.ownBlock) (hb : b < w2.heap.size) (hne : v.ownBlock ≠ some b) (hc : (w2.alloc o).cell? ⟨b, p, none⟩ = some x ∧ (w2.alloc o).cell? ⟨b, q, none⟩ = some y) : w3.cell? ⟨b, p, none⟩ = some x ∧ w3.cell? ⟨b, q, none⟩ = some y :=
  ⟨(hg.cell_far ⟨b, p, none⟩ (by rw [size_alloc']; exact Nat.lt_succ_of_lt hb) (fun e => hne e.symm)).trans hc.1, (hg.cell_far ⟨b, q, none⟩ (by rw [size_alloc']; exact Nat.lt_succ_of_lt hb) (fun e => hne e.symm)).trans hc.2⟩
theorem ow_step {base : Nat} {wr w2 w3 : World} {v v3 dv : Value} {R' : List We} {a0 : Int} {l0 : List Int} {o : Obj} (hO : OW wr base v R') (hb2 : Below wr.heap.size wr w2) (ho2 : OB w2 wr.heap.size dv l0)
    (ho3 : OR 41 2 w3 base v3 (R'.map We.cs ++ [#[.int .i64 a0, dv]])) (hg : (w2.alloc o).grownBy w3 v.ownBlock) (hat : v3.ownBlock = v.ownBlock ∨ v3.ownBlock = some (w2.alloc o).heap.size) (hbase : base ≤ wr.heap.size) : OW w3 base v3 (R' ++ [⟨a0, dv, l0⟩]) := by
  have hsz := hb2.size
  have hvl := hO.1.lt
  have hne : ∀ k, k < w2.heap.size → v.ownBlock ≠ some k → w3.heap[k]? = w2.heap[k]? := fun k hk hv => (hg.block k (by rw [size_alloc']; omega) (fun e => hv e.symm)).trans (Below.heap_alloc w2 o k hk)
  have hv3 : ∀ k, k < w2.heap.size → v.ownBlock ≠ some k → v3.ownBlock ≠ some k := fun k hk hv e => by
    rcases hat with h | h
    · exact hv (by rw [← h]; exact e)
    · rw [h, size_alloc'] at e
      have := Option.some.inj e
      omega
  refine ⟨by rw [List.map_append]; exact ho3, fun e he => ?_⟩
  rcases List.mem_append.1 he with he | he
  · obtain ⟨h1, h2⟩ := hO.2 e he
    have hl := h1.lt
    refine ⟨h1.move fun k hk => ?_, fun k hk => hv3 k (by have := (hl k hk).2; omega) (h2 k hk)⟩
    exact (hne k (by have := (hl k hk).2; omega) (h2 k hk)).trans (hb2.block k (hl k hk).2)
  · obtain rfl := List.mem_singleton.1 he
    have hl := ho2.lt
    have hn : ∀ k, dv.ownBlock = some k → v.ownBlock ≠ some k := fun k hk e => by have := (hl k hk).1; have := (hvl k e).2; omega
    exact ⟨(ho2.move fun k hk => hne k (hl k hk).2 (hn k hk)).base hbase, fun k hk => hv3 k (hl k hk).2 (hn k hk)⟩

end Go.Proofs.Ytlidmhdcikcpkaa

