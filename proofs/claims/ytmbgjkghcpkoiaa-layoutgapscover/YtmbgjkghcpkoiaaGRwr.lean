import Derived.Test.YtmbgjkghcpkoiaaGRwl
import Derived.Deep.MidRow
import Derived.Deep.RegionHeld3
import Derived.Deep.AppendLies
namespace Go.Proofs.Ytmbgjkghcpkoiaa
open Go.RowKit Go.Maps
set_option maxRecDepth 20000
set_option linter.unusedVariables false
set_option linter.unusedSimpArgs false

/-- A row of structs of one's own. -/
def OR (T n : Nat) (w : World) (base : Nat) (v : Value) (R : List (Array Value)) : Prop := (∀ r ∈ R, r.size = n) ∧ w.ownsRow base T n v R.length (flat R)

theorem flat_app (R S : List (Array Value)) : flat (R ++ S) = flat R ++ flat S := by simp [flat]

theorem xown_move {w w' : World} {base : Nat} {e : TypeId} {size : Nat} {v : Value} {n : Nat} {xs : List Value} (h : w.ownsRow base e size v n xs) (hb : ∀ k, v.ownBlock = some k → w'.heap[k]? = w.heap[k]?) : w'.ownsRow base e size v n xs := by
  refine ⟨h.1, ?_⟩
  rcases h.2 with h2 | ⟨g, cap, cur, rfl, h1, h2, r⟩
  · exact .inl h2
  · exact .inr ⟨g, cap, cur, rfl, h1, (hb g rfl).trans h2, r⟩

theorem OR.lt {T n : Nat} {w : World} {base : Nat} {v : Value} {R : List (Array Value)} (h : OR T n w base v R) : ∀ k, v.ownBlock = some k → base ≤ k ∧ k < w.heap.size := World.ownsRow.lt h.2
theorem OR.move {T n : Nat} {w w' : World} {base : Nat} {v : Value} {R : List (Array Value)} (h : OR T n w base v R) (hb : ∀ k, v.ownBlock = some k → w'.heap[k]? = w.heap[k]?) : OR T n w' base v R := ⟨h.1, xown_move h.2 hb⟩
theorem OR.below {T n : Nat} {w w' : World} {base B : Nat} {v : Value} {R : List (Array Value)} (h : OR T n w base v R) (hb : Below B w w') (hB : w.heap.size ≤ B) : OR T n w' base v R := h.move fun k hk => hb.block k (Nat.lt_of_lt_of_le (h.lt k hk).2 hB)
theorem OR.alloc {T n : Nat} {w : World} {base : Nat} {v : Value} {R : List (Array Value)} (h : OR T n w base v R) (o : Obj) : OR T n (w.alloc o) base v R := h.move fun k hk => Below.heap_alloc w o k (h.lt k hk).2
theorem OR.base {T n : Nat} {w : World} {base base' : Nat} {v : Value} {R : List (Array Value)} (h : OR T n w base v R) (hb : base' ≤ base) : OR T n w base' v R := by
  refine ⟨h.1, h.2.1, ?_⟩
  rcases h.2.2 with h2 | ⟨g, cap, cur, rfl, h1, r⟩
  · exact .inl h2
  · exact .inr ⟨g, cap, cur, rfl, Nat.le_trans hb h1, r⟩
theorem OR.shape {T n : Nat} {w : World} {base : Nat} {v : Value} {R : List (Array Value)} (h : OR T n w base v R) : ∃ a c, v = .slice a R.length c ∧ R.length ≤ c ∧ c ≤ 9223372036854775807 := by
  rcases h.2.2 with ⟨rfl, h0⟩ | ⟨g, cap, cur, rfl, _, _, h3, h4, _⟩
  · exact ⟨none, 0, by rw [h0], by omega, by omega⟩
  · unfold maxLen at h4; exact ⟨_, _, rfl, h3, by omega⟩
theorem OR.nil (T n : Nat) (w : World) (base : Nat) : OR T n w base (.slice none 0 0) [] := ⟨fun r hr => by simp at hr, World.ownsRow_nil _ _ _ _⟩
theorem OR.sr {T n : Nat} {w : World} {base : Nat} {v : Value} {R : List (Array Value)} (h : OR T n w base v R) : SR n w v R := by
  have hlt := h.lt
  have hc := @World.ownsRow.cells _ _ _ _ _ _ _ h.2
  rcases h.2.2 with ⟨rfl, h0⟩ | ⟨g, cap, cur, rfl, _, _, h3, h4, _⟩
  · obtain rfl : R = [] := List.eq_nil_of_length_eq_zero h0
    exact ⟨none, 0, rfl, Nat.le_refl _, Nat.zero_le _, fun hp => absurd hp (by simp)⟩
  · unfold maxLen at h4
    refine ⟨some ⟨g, 0, none⟩, cap, rfl, h3, h4, fun _ => ⟨g, 0, rfl, (hlt g rfl).2, fun i hi j u hu => ?_⟩⟩
    have hmem : R.getD i #[] ∈ R := by simp [List.getD, hi]
    have hj : j < n := by have := (List.getElem?_eq_some_iff.1 hu).1; rw [Array.length_toList, h.1 _ hmem] at this; exact this
    have e := flat_get R h.1 i j hi hj
    rw [hu] at e
    have := hc (g := g) rfl _ _ e
    rw [Addr.add_lit, Nat.zero_add] at this
    rw [Nat.zero_add]
    exact this

/-- One struct more. -/
theorem wpRow {w : World} {ops : Array Oper} {rest : List Oper} {o : Oper} {a : Act} {Q : Exit → Act → World → Prop} (hgd : o.guard = none) (s x : Operand) (TS T n bytes : Nat) (z : Value)
    (ho : o.op = .call { callee := .builtin .append, args := #[s, x], argTypes := #[TS, TS] }) (ht : Try.prog.underlying TS = some (.slice T))
    (hinf : (Try.prog.info? T).map (fun i => (i.zero, i.size, i.bytes)) = some (some z, n, bytes)) (hzs : z.cells.size = n) (hn : 0 < n)
    (base : Nat) (v : Value) (R : List (Array Value)) (r : Array Value) (B c : Nat) (fr : Nat × Nat) (hs : a.eval s = v) (hown : OR T n w base v R)
    (hx : a.eval x = .slice (some ⟨B, 0, none⟩) 1 c) (hB : w.heap[B]? = some (.cells r T fr)) (hr : r.size = n) (h1 : ∀ u ∈ r.toList, u.oneCell' = true)
    (hlen : R.length < 9007199254740992) (hbytes : (R.length + 1) * bytes ≤ 140737488355328) (hbase : base ≤ w.heap.size)
    (h : ∀ v' w', OR T n w' base v' (R ++ [r]) → w.grownBy w' v.ownBlock → (v'.ownBlock = v.ownBlock ∨ v'.ownBlock = some w.heap.size) → wpList Try.prog ops Q rest (a.put o.dst v') w') : wpList Try.prog ops Q (o :: rest) a w := by
  obtain ⟨i0, hi0, hz0, hz1, hz2⟩ := info_parts hinf
  refine wpList_append_own_at _ hgd s x TS ho base T i0 z n bytes ht hi0 hz0 hz1 hz2 hzs hn v R.length (flat R) hs hown.2 ⟨B, 0, none⟩ 1 c r.toList hx (by rw [Array.length_toList, hr, Nat.one_mul]) (World.news_of_block hB) h1 (by unfold maxLen; omega) hbytes hbase fun v' w' g1 g2 _ g4 => h v' w' ⟨?_, ?_⟩ g2 g4
  · intro q hq
    rcases List.mem_append.1 hq with hq | hq
    · exact hown.1 q hq
    · rw [List.mem_singleton.1 hq]; exact hr
  · rw [List.length_append, flat_app]
    simpa [flat] using g1
/-- The same at a step of a region that draws its order. -/
theorem stepRow {w : World} {ops : Array Oper} {o : Oper} {a : Act} {K : Act → World → Prop} {Q : Exit → Act → World → Prop} {E : Prop} (hgd : o.guard = none) (s x : Operand) (TS T n bytes : Nat) (z : Value)
    (ho : o.op = .call { callee := .builtin .append, args := #[s, x], argTypes := #[TS, TS] }) (ht : Try.prog.underlying TS = some (.slice T))
    (hinf : (Try.prog.info? T).map (fun i => (i.zero, i.size, i.bytes)) = some (some z, n, bytes)) (hzs : z.cells.size = n) (hn : 0 < n)
    (base : Nat) (v : Value) (R : List (Array Value)) (r : Array Value) (B c : Nat) (fr : Nat × Nat) (hs : a.eval s = v) (hown : OR T n w base v R)
    (hx : a.eval x = .slice (some ⟨B, 0, none⟩) 1 c) (hB : w.heap[B]? = some (.cells r T fr)) (hr : r.size = n) (h1 : ∀ u ∈ r.toList, u.oneCell' = true)
    (hlen : R.length < 9007199254740992) (hbytes : (R.length + 1) * bytes ≤ 140737488355328) (hbase : base ≤ w.heap.size)
    (h : ∀ v' w', OR T n w' base v' (R ++ [r]) → w.grownBy w' v.ownBlock → (v'.ownBlock = v.ownBlock ∨ v'.ownBlock = some w.heap.size) → K (a.put o.dst v') w') :
    if Region.wanted o (yielded ops a.tmps) = true then Oper.wp Try.prog o a w K Q else E := by
  obtain ⟨i0, hi0, hz0, hz1, hz2⟩ := info_parts hinf
  have hw : Region.wanted o (yielded ops a.tmps) = true := by simp [Region.wanted, hgd]
  rw [if_pos hw]
  refine wp_append_lies _ s x TS ho base T i0 z n bytes ht hi0 hz0 hz1 hz2 hzs hn v R.length (flat R) hs hown.2 ⟨B, 0, none⟩ 1 c r.toList hx (by rw [Array.length_toList, hr, Nat.one_mul]) (World.news_of_block hB) h1 (by omega) (by unfold maxLen; omega) hbytes hbase _ rfl fun g cap w' g1 g2 g4 _ => h _ w' ⟨?_, ?_⟩ g2 (g4.elim (fun e => .inl e.symm) (fun e => .inr (congrArg some e)))
  · intro q hq
    rcases List.mem_append.1 hq with hq | hq
    · exact hown.1 q hq
    · rw [List.mem_singleton.1 hq]; exact hr
  · rw [List.length_append, flat_app]
    simpa [flat] using g1


end Go.Proofs.Ytmbgjkghcpkoiaa

