import Derived.Test.YtijmmfimkibgbaaGRe
namespace Go.Proofs.Ytijmmfimkibgbaa
open Go.RowKit Go.Maps
set_option maxRecDepth 20000
set_option linter.unusedVariables false

/-- A row that is owned, behind a growth. -/
theorem grown_to {base : Nat} {w0 wr w1 : World} {v v' : Value} {l : List Int} {o : Obj} (hb : Below base w0 wr) (hB : base ≤ w0.heap.size) (ho : OB wr base v l) (hg : Grew (wr.alloc o) w1 v v') : Below base w0 w1 :=
  (hb.alloc (Nat.le_trans hB hb.size) o).grown hg.by (by rw [size_alloc']; have := hb.size; omega) (fun x hx => (ho.lt x hx).1)

/-- Only the row's own block has turned, and new blocks have come. -/
def Gro (w : World) (v : Value) (w' : World) (v' : Value) : Prop :=
  (∀ k, k < w.heap.size → v.ownBlock ≠ some k → w'.heap[k]? = w.heap[k]?) ∧ ∀ k, v'.ownBlock = some k → v.ownBlock = some k ∨ w.heap.size ≤ k

theorem Gro.refl (w : World) (v : Value) : Gro w v w v := ⟨fun _ _ _ => rfl, fun _ h => .inl h⟩

theorem Gro.trans {w w' w'' : World} {v v' v'' : Value} (h : Gro w v w' v') (g : Gro w' v' w'' v'') (hs : w.heap.size ≤ w'.heap.size) : Gro w v w'' v'' := by
  refine ⟨fun k hk hn => ?_, fun k hk => ?_⟩
  · rw [g.1 k (Nat.lt_of_lt_of_le hk hs) (fun e => by
      rcases h.2 k e with e | e
      · exact hn e
      · omega), h.1 k hk hn]
  · rcases g.2 k hk with e | e
    · exact h.2 k e
    · exact .inr (Nat.le_trans hs e)

theorem gro_to {w0 wr w1 : World} {v0 v v' : Value} {o : Obj} (h : Gro w0 v0 wr v) (hg : Grew (wr.alloc o) w1 v v') (hs : w0.heap.size ≤ wr.heap.size) : Gro w0 v0 w1 v' := by
  refine h.trans ⟨fun k hk hn => ?_, fun k hk => ?_⟩ hs
  · rw [hg.by.block k (by rw [size_alloc']; omega) (fun e => hn e.symm), Below.heap_alloc wr o k hk]
  · rcases hg.at with e | e
    · rw [hk, size_alloc'] at e
      simp only [Option.some.injEq] at e
      exact .inr (by omega)
    · exact .inl (e ▸ hk)

theorem gro_alloc {w w' : World} {v v' : Value} {o : Obj} (h : Gro (w.alloc o) v w' v') : Gro w v w' v' := by
  refine ⟨fun k hk hn => ?_, fun k hk => ?_⟩
  · rw [h.1 k (by rw [size_alloc']; omega) hn, Below.heap_alloc w o k hk]
  · rcases h.2 k hk with e | e
    · exact .inl e
    · rw [size_alloc'] at e; exact .inr (by omega)

theorem strL_snoc (s : ByteArray) (k : Nat) (hk : k < s.size) : (strL s).take (k + 1) = (strL s).take k ++ [(strL s).getD k 0] := by
  have h : k < (strL s).length := by rw [length_strL]; exact hk
  rw [List.take_succ_eq_append_getElem h]
  simp [List.getD, h]

def w16 (v : Int) : Bool := decide (¬ wide v 2)
def w32 (v : Int) : Bool := decide (¬ wide v 4)

end Go.Proofs.Ytijmmfimkibgbaa

