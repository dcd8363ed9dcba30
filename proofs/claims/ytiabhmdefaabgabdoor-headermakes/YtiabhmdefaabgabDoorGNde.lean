import Derived.Test.YtiabhmdefaabgabDoorGDp
namespace Go.Proofs.YtiabhmdefaabgabDoor
open Go.RowKit Go.Maps
set_option maxRecDepth 20000
set_option linter.unusedVariables false

/-- Nodes in memory: each with the slice of what it holds. -/
abbrev Mnd := Nod × Value

def fn2 (M : List Mnd) : List Value := M.flatMap fun p => [.int .i64 (p.1.1 : Int), p.2]

theorem fn2_len (M : List Mnd) : (fn2 M).length = M.length * 2 := by
  induction M with
  | nil => rfl
  | cons a r ih => unfold fn2 at ih ⊢; rw [List.flatMap_cons, List.length_append, ih]; simp; omega

def mn0 : Mnd := (nod0, undef)

theorem fn2_get {M : List Mnd} {i : Nat} (h : i < M.length) : (fn2 M)[i * 2]? = some (.int .i64 ((M.getD i mn0).1.1 : Int)) ∧ (fn2 M)[i * 2 + 1]? = some (M.getD i mn0).2 := by
  induction M generalizing i with
  | nil => simp at h
  | cons a r ih =>
    cases i with
    | zero => exact ⟨rfl, rfl⟩
    | succ i =>
      have := ih (i := i) (by simpa using h)
      have e : fn2 (a :: r) = .int .i64 (a.1.1 : Int) :: a.2 :: fn2 r := rfl
      rw [e, show (i + 1) * 2 = i * 2 + 1 + 1 by omega, show i * 2 + 1 + 1 + 1 = (i * 2 + 1) + 1 + 1 by omega]
      simp only [List.getElem?_cons_succ]
      exact this

theorem fn2_snoc (M : List Mnd) (p : Mnd) : fn2 (M ++ [p]) = fn2 M ++ [.int .i64 (p.1.1 : Int), p.2] := by simp [fn2]

/-- A row of nodes of one's own; what they hold is only read. -/
structure ON (w : World) (base : Nat) (v : Value) (M : List Mnd) : Prop where
  row : w.ownsRow base 119 2 v M.length (fn2 M)
  holds : ∀ p ∈ M, OI w 0 p.2 (ci p.1.2)

theorem ON.lt {w : World} {base : Nat} {v : Value} {M : List Mnd} (h : ON w base v M) : ∀ k, v.ownBlock = some k → base ≤ k ∧ k < w.heap.size := World.ownsRow.lt h.row

theorem rown_move6 {w w' : World} {base : Nat} {e : TypeId} {size : Nat} {v : Value} {n : Nat} {xs : List Value} (h : w.ownsRow base e size v n xs) (hb : ∀ k, v.ownBlock = some k → w'.heap[k]? = w.heap[k]?) : w'.ownsRow base e size v n xs := by
  refine ⟨h.1, ?_⟩
  rcases h.2 with h2 | ⟨g, cap, cur, rfl, h1, h2, r⟩
  · exact .inl h2
  · exact .inr ⟨g, cap, cur, rfl, h1, (hb g rfl).trans h2, r⟩

theorem ON.below {w w' : World} {base B : Nat} {v : Value} {M : List Mnd} (h : ON w base v M) (hb : Below B w w') (hB : w.heap.size ≤ B) : ON w' base v M :=
  ⟨rown_move6 h.row fun k hk => hb.block k (Nat.lt_of_lt_of_le (h.lt k hk).2 hB), fun p hp => (h.holds p hp).below hb hB⟩

theorem ON.drewN {w : World} {base : Nat} {v : Value} {M : List Mnd} (h : ON w base v M) (n : Nat) : ON (w.drewN n) base v M := ⟨rown_move6 h.row fun _ _ => rfl, fun p hp => (h.holds p hp).move fun _ _ => rfl⟩

theorem ON.base {w : World} {base base' : Nat} {v : Value} {M : List Mnd} (h : ON w base v M) (hb : base' ≤ base) : ON w base' v M := by
  refine ⟨⟨h.row.1, ?_⟩, h.holds⟩
  rcases h.row.2 with h2 | ⟨g, cap, cur, rfl, h1, r⟩
  · exact .inl h2
  · exact .inr ⟨g, cap, cur, rfl, Nat.le_trans hb h1, r⟩

theorem ON.shape {w : World} {base : Nat} {v : Value} {M : List Mnd} (h : ON w base v M) : ∃ a c, v = .slice a M.length c ∧ M.length ≤ c ∧ c ≤ 9223372036854775807 := by
  rcases h.row.2 with ⟨rfl, h0⟩ | ⟨g, cap, cur, rfl, _, _, h3, h4, _⟩
  · exact ⟨none, 0, by rw [h0], by omega, by omega⟩
  · unfold maxLen at h4; exact ⟨_, _, rfl, h3, by omega⟩

theorem ON.get {w : World} {base : Nat} {v : Value} {M : List Mnd} (h : ON w base v M) {i : Nat} (hi : i < M.length) : ∃ g c, v = .slice (some ⟨g, 0, none⟩) M.length c ∧ w.cell? ⟨g, i * 2, none⟩ = some (.int .i64 ((M.getD i mn0).1.1 : Int)) ∧ w.cell? ⟨g, i * 2 + 1, none⟩ = some (M.getD i mn0).2 := by
  have hc := @World.ownsRow.cells _ _ _ _ _ _ _ h.row
  rcases h.row.2 with ⟨rfl, h0⟩ | ⟨g, cap, cur, rfl, _⟩
  · omega
  · obtain ⟨g1, g2⟩ := fn2_get hi
    have c1 := hc (g := g) rfl _ _ g1
    have c2 := hc (g := g) rfl _ _ g2
    rw [Addr.add_lit, Nat.zero_add] at c1 c2
    exact ⟨g, cap, rfl, c1, c2⟩

theorem md_mem {M : List Mnd} {i : Nat} (h : i < M.length) : M.getD i mn0 ∈ M := by
  rw [show M.getD i mn0 = M[i] by simp [h]]
  exact List.getElem_mem h

/-- A list of ints and a row of nodes lie in blocks of their own. -/
theorem oi_apart {w : World} {b0 base : Nat} {v u : Value} {l : List Int} {n : Nat} {xs : List Value} (h : OI w b0 v l) (h2 : w.ownsRow base 119 2 u n xs) : ∀ k, v.ownBlock = some k → u.ownBlock ≠ some k := by
  intro k hk he
  rcases h.2 with ⟨rfl, _⟩ | ⟨g, cap, cur, rfl, _, hg, _⟩
  · simp [Value.ownBlock] at hk
  · rcases h2.2 with ⟨rfl, _⟩ | ⟨g', cap', cur', rfl, _, hg', _⟩
    · simp [Value.ownBlock] at he
    · simp only [Value.ownBlock, Option.some.injEq] at hk he
      rw [hk] at hg
      rw [he] at hg'
      rw [hg] at hg'
      simp at hg'

theorem infoNode : (Tryd.prog.info? 119).map (fun i => (i.zero, i.size, i.bytes)) = some (some (.agg #[.int .i64 0, .slice none 0 0]), 2, 32) := by kernel_rfl

theorem on_snoc {w w' : World} {base : Nat} {v v' : Value} {M : List Mnd} {p : Mnd} (h : ON w base v M) (hp : OI w 0 p.2 (ci p.1.2)) (hn : w'.ownsRow base 119 2 v' (M.length + 1) (fn2 M ++ [.int .i64 (p.1.1 : Int), p.2])) (hg : w.grownBy w' v.ownBlock) : ON w' base v' (M ++ [p]) := by
  have mv : ∀ {x : Value} {l : List Int}, OI w 0 x l → OI w' 0 x l := fun {x l} hx => hx.move fun k hk => hg.block k (hx.lt k hk).2 (fun e => oi_apart hx h.row k hk e.symm)
  refine ⟨by rw [List.length_append, fn2_snoc]; exact hn, fun q hq => ?_⟩
  rcases List.mem_append.1 hq with hq | hq
  · exact mv (h.holds q hq)
  · rw [List.mem_singleton.1 hq]; exact mv hp

theorem OI.one {w : World} {b0 : Nat} {v : Value} {l : List Int} (h : OI w b0 v l) : v.oneCell' = true := by
  obtain ⟨a, c, rfl⟩ := h.shape
  rfl

theorem OI.al {w : World} {base : Nat} {v : Value} {l : List Int} (h : OI w base v l) (o : Obj) : OI (w.alloc o) base v l := h.alloc o

theorem ON.alloc {w : World} {base : Nat} {v : Value} {M : List Mnd} (h : ON w base v M) (o : Obj) : ON (w.alloc o) base v M := ⟨rown_move6 h.row fun k hk => Below.heap_alloc w o k (h.lt k hk).2, fun p hp => (h.holds p hp).alloc o⟩

/-- One more node. -/
theorem wpNode {w : World} {ops : Array Oper} {rest : List Oper} {o : Oper} {a : Act} {Q : Exit → Act → World → Prop} (hgd : o.guard = none) (s x : Operand)
    (ho : o.op = .call { callee := .builtin .append, args := #[s, x], argTypes := #[115, 115] }) (base : Nat) (v : Value) (M : List Mnd) (p : Mnd) (X1 : Int) (hX1 : X1 = (p.1.1 : Int)) (hp : OI w 0 p.2 (ci p.1.2)) (hs : a.eval s = v) (hown : ON w base v M)
    (c : Nat) (hx : a.eval x = .slice (some ⟨w.heap.size, 0, none⟩) 1 c) (hn : M.length ≤ 1000000) (hbase : base ≤ w.heap.size)
    (h : ∀ v' w', ON w' base v' (M ++ [p]) → (w.alloc (.cells #[.int .i64 X1, p.2] 119)).grownBy w' v.ownBlock → wpList Tryd.prog ops Q rest (a.put o.dst v') w') :
    wpList Tryd.prog ops Q (o :: rest) a (w.alloc (.cells #[.int .i64 X1, p.2] 119)) := by
  obtain ⟨i0, hi0, hz0, hz1, hz2⟩ := info_parts infoNode
  subst hX1
  have hone := hp.one
  refine wpList_append_own_at _ hgd s x 115 ho base 119 i0 _ 2 32 Tryd.underlying115 hi0 hz0 hz1 hz2 rfl (by omega) v M.length (fn2 M) hs (hown.alloc _).row ⟨w.heap.size, 0, none⟩ 1 c [.int .i64 (p.1.1 : Int), p.2] hx rfl (World.news_of_block (cs := #[.int .i64 (p.1.1 : Int), p.2]) (t := 119) (fr := (0, 0)) (heap_alloc_new w _))
    (fun u hu => by
      rcases List.mem_cons.1 hu with rfl | hu
      · rfl
      · rw [List.mem_singleton.1 hu]; exact hone) (by unfold maxLen; omega) (by omega) (by simp; omega) fun v' w' h1 h2 _ _ => h v' w' ?_ h2
  exact on_snoc (hown.alloc _) (hp.alloc _) h1 h2

theorem grow_node {w wr w3 : World} {u : Value} {M : List Mnd} {o : Obj} {B : Nat} (hB : Below B w wr) (hw : B ≤ w.heap.size) (hO : ON wr B u M) (hg : (wr.alloc o).grownBy w3 u.ownBlock) : Below B w w3 :=
  (hB.alloc (Nat.le_trans hw hB.size) _).grown hg (by have := hB.size; simp; omega) (fun j hj => by have := hO.lt j hj; omega)
end Go.Proofs.YtiabhmdefaabgabDoor

