import Derived.Test.YtjmjjjpanioifaaGAppL
import Derived.Test.YtjmjjjpanioifaaGStep
namespace Go.Proofs.Ytjmjjjpanioifaa
open Go.RowKit Go.Maps
set_option maxRecDepth 20000

theorem wpList_mk {w : World} {ops : Array Oper} {rest : List Oper} {o : Oper} {a : Act} {Q : Exit → Act → World → Prop} (hg : o.guard = none) (l c : Operand) (hop : o.op = Op.makeSlice 42 l c)
    (kl kc : IntKind) (L C : Int) (n m : Nat) (hl : a.eval l = .int kl L) (hc : a.eval c = .int kc C) (hL : L = (n : Int)) (hC : C = (m : Int)) (hnm : n ≤ m) (b2 : m ≤ 140737488355328)
    (hK : ∀ w', w'.heap[w.heap.size]? = some (.cells (List.replicate m (Value.int .u8 0)).toArray 5 (0, 0)) → Below w.heap.size w w' → wpList Try.prog ops Q rest (a.put o.dst (.slice (some ⟨w.heap.size, 0, none⟩) n m)) w') :
    wpList Try.prog ops Q (o :: rest) a w := by
  obtain ⟨i0, hi, hz0, hz1, hz2⟩ := info_parts info5
  refine wpList_plain hg fun K hK' => ?_
  have hr := run_make (P := Try.prog) w 42 5 i0 (.int .u8 0) Try.underlying42 hi hz0 kl kc (n : Int) (m : Int) (by omega) (by omega) (by rw [hz2]; omega) (by omega)
  subst hL hC
  unfold Oper.wp
  simp [execOp, hop, hl, hc, hr, Result.andThen]
  refine hK' _ _ (hK _ ?_ ((Below.refl _ _).alloc (Nat.le_refl _) _))
  rw [heap_alloc_new, hz1, Nat.mul_one]
  have e : (madeCells (Value.int .u8 0).cells m) = (List.replicate m (Value.int .u8 0)).toArray := by
    apply Array.ext'
    exact madeBytes m
  rw [e]

theorem splice_front {α : Type} (cs : List α) (n m : Nat) (z : α) (h : cs.length = n) : splice (List.replicate (n + m) z) 0 cs = cs ++ List.replicate m z := by
  simp [splice, h]

/-- A cursor just made. -/
structure Raw (T : Nat) (w : World) (A g : Nat) (v : Value) (l : List Int) : Prop where
  s : S3 T w g v (.int .i64 0) (.int .i64 0)
  d : DS w v l
  a : A ≤ g
  b : ∀ k, v.ownBlock = some k → A ≤ k ∧ k < g

theorem OB.ds {w : World} {base : Nat} {v : Value} {l : List Int} (h : OB w base v l) : DS w v l := by
  have hc := @World.ownsRow.cells _ _ _ _ _ _ _ h
  rcases h.2 with ⟨rfl, h0⟩ | ⟨g, cap, cur, rfl, _, _, h3, h4, _, _⟩
  · exact .inl ⟨rfl, List.eq_nil_of_length_eq_zero h0⟩
  · refine .inr ⟨g, cap, rfl, h3, h4, fun i hi => ?_⟩
    have := hc (g := g) rfl i (.int .u8 (l.getD i 0)) (by simp [hi])
    rw [Addr.add_lit] at this
    simpa using this

theorem Raw.below {T : Nat} {w w' : World} {A g : Nat} {v : Value} {l : List Int} (h : Raw T w A g v l) (hb : Below w.heap.size w w') : Raw T w' A g v l :=
  ⟨(hb.block g h.s.lt).trans h.s, h.d.move (fun k hk => hb.block k (Nat.lt_trans (h.b k hk).2 h.s.lt)), h.a, h.b⟩

theorem newCursor_any (v : Value) (l : List Int) (w : World) (h : SB w v l) (hr : l.length ≤ 140737488351232) :
    Calls Try.prog 76 #[v] w fun e w' => ∃ g u, e = .returned (.pointer (some ⟨g, 0, none⟩)) ∧ Raw 124 w' w.heap.size g u l ∧ Below w.heap.size w w' := by
  have HS := hide h
  clear h
  go_enter Try.func76, Try.ntmps76
  go_wp2_with fail
  refine (slicesClone_any v l w HS.out hr).mono ?_
  rintro e w1 ⟨a, c, rfl, ho, hb⟩
  have HO := hide ho
  have HB := hide hb
  clear ho hb
  go_wp2
  go_ret
  have hsz := HB.out.size
  refine ⟨_, _, rfl, ⟨heap_alloc_new _ _, (HO.out.ds.move fun k hk => Below.heap_alloc _ _ k (HO.out.lt k hk).2), hsz, fun k hk => HO.out.lt k hk⟩, HB.out.trans ((Below.refl _ _).alloc hsz _)⟩

end Go.Proofs.Ytjmjjjpanioifaa

