import Derived.Test.YtjdgeonlbjokaaaGBp
namespace Go.Proofs.Ytjdgeonlbjokaaa
open Go.RowKit Go.Maps
set_option maxRecDepth 20000
set_option linter.unusedVariables false
set_option linter.unusedSimpArgs false

/-- A row of ints of one's own, somewhere in its block. -/
def OX (w : World) (base : Nat) (v : Value) (l : List Int) : Prop :=
  (v = .slice none 0 0 ∧ l = []) ∨ ∃ (g f cap : Nat) (cur : Array Value), v = .slice (some ⟨g, f, none⟩) l.length cap ∧ base ≤ g ∧ w.heap[g]? = some (.cells cur 3 (0, 0)) ∧ l.length ≤ cap ∧ f + cap ≤ maxLen ∧ cur.size = f + cap ∧ (cur.toList.drop f).take l.length = l.map (Value.int .i64)

theorem OX.nil (w : World) (base : Nat) : OX w base (.slice none 0 0) [] := .inl ⟨rfl, rfl⟩

theorem OX.lt {w : World} {base : Nat} {v : Value} {l : List Int} (h : OX w base v l) : ∀ k, v.ownBlock = some k → base ≤ k ∧ k < w.heap.size := by
  rcases h with ⟨rfl, _⟩ | ⟨g, f, cap, cur, rfl, h1, h2, _⟩
  · intro k hk; cases hk
  · intro k hk
    simp only [Value.ownBlock, Option.some.injEq] at hk
    subst hk
    exact ⟨h1, (Array.getElem?_eq_some_iff.1 h2).1⟩

theorem OX.move {w w' : World} {base : Nat} {v : Value} {l : List Int} (h : OX w base v l) (hb : ∀ k, v.ownBlock = some k → w'.heap[k]? = w.heap[k]?) : OX w' base v l := by
  rcases h with h | ⟨g, f, cap, cur, rfl, h1, h2, r⟩
  · exact .inl h
  · exact .inr ⟨g, f, cap, cur, rfl, h1, (hb g rfl).trans h2, r⟩

theorem OX.below {w w' : World} {base B : Nat} {v : Value} {l : List Int} (h : OX w base v l) (hb : Below B w w') (hB : w.heap.size ≤ B) : OX w' base v l := h.move fun k hk => hb.block k (Nat.lt_of_lt_of_le (h.lt k hk).2 hB)
theorem OX.alloc {w : World} {base : Nat} {v : Value} {l : List Int} (h : OX w base v l) (o : Obj) : OX (w.alloc o) base v l := h.move fun k hk => Below.heap_alloc w o k (h.lt k hk).2
theorem OX.drewN {w : World} {base : Nat} {v : Value} {l : List Int} (h : OX w base v l) (n : Nat) : OX (w.drewN n) base v l := h.move fun _ _ => rfl
theorem OX.base {w : World} {base base' : Nat} {v : Value} {l : List Int} (h : OX w base v l) (hb : base' ≤ base) : OX w base' v l := by
  rcases h with h | ⟨g, f, cap, cur, rfl, h1, r⟩
  · exact .inl h
  · exact .inr ⟨g, f, cap, cur, rfl, Nat.le_trans hb h1, r⟩

theorem OX.shape {w : World} {base : Nat} {v : Value} {l : List Int} (h : OX w base v l) : ∃ a c, v = .slice a l.length c ∧ l.length ≤ c ∧ c ≤ 9223372036854775807 := by
  rcases h with ⟨rfl, rfl⟩ | ⟨g, f, cap, cur, rfl, _, _, h3, h4, _⟩
  · exact ⟨none, 0, rfl, Nat.le_refl _, by omega⟩
  · unfold maxLen at h4; exact ⟨_, _, rfl, h3, by omega⟩

theorem ox_get {cur : Array Value} {f : Nat} {l : List Int} (h : (cur.toList.drop f).take l.length = l.map (Value.int .i64)) {j : Nat} (hj : j < l.length) : cur[f + j]? = some (.int .i64 (l.getD j 0)) := by
  have e := congrArg (fun q => q[j]?) h
  simp only [List.getElem?_take, hj, if_true, List.getElem?_drop, Array.getElem?_toList] at e
  rw [e]
  simp [hj]

theorem OX.si {w : World} {base : Nat} {v : Value} {l : List Int} (h : OX w base v l) : SI w v l := by
  rcases h with ⟨rfl, rfl⟩ | ⟨g, f, cap, cur, rfl, _, h2, h3, h4, h5, h6⟩
  · exact ⟨none, 0, rfl, Nat.le_refl _, Nat.zero_le _, fun _ => rfl, fun x hx => by cases hx⟩
  · refine ⟨some ⟨g, f, none⟩, cap, rfl, h3, by omega, (fun e => by cases e), fun x hx i hi => ?_⟩
    cases hx
    rw [Addr.add_lit]
    unfold World.cell?
    simp only [h2]
    exact ox_get h6 hi

/-- All but the first. -/
theorem OX.tail {w : World} {base g f cap : Nat} {x : Int} {l : List Int} (h : OX w base (.slice (some ⟨g, f, none⟩) (x :: l).length cap) (x :: l)) : OX w base (.slice (some ⟨g, f + 1, none⟩) l.length (cap - 1)) l := by
  rcases h with ⟨e, _⟩ | ⟨g', f', cap', cur, he, h1, h2, h3, h4, h5, h6⟩
  · cases e
  · simp only [Value.slice.injEq, Option.some.injEq, Addr.mk.injEq, and_true] at he
    obtain ⟨⟨rfl, rfl⟩, -, rfl⟩ := he
    simp only [List.length_cons] at h3
    refine .inr ⟨g, f + 1, cap - 1, cur, rfl, h1, h2, by omega, by omega, by omega, ?_⟩
    rw [← List.drop_drop]
    have e : cur.toList.drop f = (cur.toList.drop f).head! :: (cur.toList.drop f).drop 1 := by
      have hl : 0 < (cur.toList.drop f).length := by simp; omega
      cases hq : cur.toList.drop f with
      | nil => rw [hq] at hl; simp at hl
      | cons a r => rfl
    rw [e] at h6
    simp only [List.length_cons, List.take_succ_cons, List.map_cons, List.cons.injEq] at h6
    exact h6.2

/-- One more. -/
theorem run_appX (w : World) (base : Nat) (ty : TypeId) (v xv : Value) (l : List Int) (x : Int) (hown : OX w base v l) (hs : Src Try.prog 1 56 xv 1 [Value.int .i64 x] w) (hb : l.length ≤ 1000000000) (hbase : base ≤ w.heap.size) :
    ∃ v' w', (Builtin.append_ #[56, 56] ty #[v, xv]).run Try.prog w = .ok v' w' ∧ OX w' base v' (l ++ [x]) ∧ Grew w w' v v' := by
  obtain ⟨i, hi, hz, hsz, hby⟩ := info_parts infoInt
  have hs' : Src Try.prog i.size 56 xv 1 [Value.int .i64 x] w := by rw [hsz]; exact hs
  have hmx : l.length + 1 ≤ maxLen := by unfold maxLen; omega
  have grown : ∀ old, old < l.length + 1 → OX (w.drew.alloc (.cells ((l.map (Value.int .i64) ++ [Value.int .i64 x]).toArray ++ Builtin.zeroCells (Value.int .i64 0).cells (grownCap w (l.length + 1) old 3 - (l.length + 1))) 3)) base
      (.slice (some ⟨w.heap.size, 0, none⟩) (l.length + 1) (grownCap w (l.length + 1) old 3)) (l ++ [x]) := by
    intro old ho
    have hge := grownCap_ge w (l.length + 1) old 3
    have hcm : grownCap w (l.length + 1) old 3 ≤ maxLen := grownCap_le_maxLen w (l.length + 1) old 3 hmx
    refine .inr ⟨w.heap.size, 0, grownCap w (l.length + 1) old 3, _, by simp, hbase, heap_alloc_new w.drew _, by simp; exact hge, by omega, ?_, ?_⟩
    · simp only [Array.size_append, List.size_toArray, List.length_append, List.length_map, List.length_singleton, size_zeroCells, Value.cells]
      simp
      omega
    · simp only [List.drop_zero, Array.toList_append, List.map_append, List.map_cons, List.map_nil]
      rw [List.take_append_of_le_length (by simp)]
      exact List.take_of_length_le (by simp)
  rcases hown with ⟨rfl, rfl⟩ | ⟨g, f, cap, cur, rfl, hbg, hg, hnc, hcm, hcs, htake⟩
  · have hr := run_append_grow_src (P := Try.prog) w 56 56 ty 3 i (.int .i64 0) Try.underlying56 hi hz none 0 0 [] (run_firstCells_none w.drew i.size 0 0 0) xv 1 _ hs' (by omega) (by omega) (by rw [hby]; exact growslice_fits (by omega) (by omega))
    have hgr := grown 0 (by simp)
    simp only [List.length_nil, Nat.zero_add, List.map_nil, List.nil_append] at hgr hr ⊢
    exact ⟨_, _, hr, hgr, .inr (.inl ⟨rfl, (Below.refl _ _).drew.alloc (Nat.le_refl _) _⟩)⟩
  · by_cases hroom : l.length + 1 ≤ cap
    · have hfit : f + l.length * i.size + 1 ≤ cur.size := by rw [hsz, hcs]; omega
      have hst := run_storeCells_at Try.prog g (f + l.length * i.size) 3 [Value.int .i64 x] 0 cur w hg (by simpa using hfit) hs.one
      simp only [Nat.add_zero] at hst
      have hr : (Builtin.append_ #[56, 56] ty #[.slice (some ⟨g, f, none⟩) l.length cap, xv]).run Try.prog w =
          .ok (.slice (some ⟨g, f, none⟩) (l.length + 1) cap) (w.setRow g (cur.toList.take (f + l.length * i.size) ++ [Value.int .i64 x] ++ cur.toList.drop (f + l.length * i.size + 1)).toArray) := by
        rcases hs'.kind with ⟨e', hk⟩ | hk <;> simp [Builtin.append_, run_underlying Try.underlying56, run_underlying hk, sizeOf, typeInfo, hi, hs'.len, hroom, hs'.cells, Addr.add_lit, hst]
      refine ⟨_, _, hr, .inr ⟨g, f, cap, _, by simp, hbg, setRow_heap w g cur _ 3 _ hg, by simp; exact hroom, hcm, ?_, ?_⟩, .inr (.inr ⟨rfl, by simp [World.setRow], ⟨rfl, rfl, rfl, by simp, fun k _ hk => setRow_other w g k _ (fun e => hk (by simp [Value.ownBlock, e]))⟩⟩)⟩
      · rw [hsz]
        simp only [List.size_toArray, List.length_append, List.length_take, List.length_drop, Array.length_toList, List.length_singleton]
        omega
      · rw [hsz, Nat.mul_one]
        have hle : f + l.length ≤ cur.toList.length := by simp; omega
        have e1 : (cur.toList.take (f + l.length)).drop f = (cur.toList.drop f).take l.length := by rw [List.drop_take]; congr 1; omega
        rw [List.append_assoc, List.drop_append_of_le_length (by simp; omega), e1, htake]
        simp only [List.map_append, List.map_cons, List.map_nil, List.length_append, List.length_singleton, ← List.append_assoc]
        rw [List.take_append_of_le_length (by simp)]
        exact List.take_of_length_le (by simp)
    · have holds : ∀ j u, (l.map (Value.int .i64))[j]? = some u → w.drew.cell? ((⟨g, f, none⟩ : Addr).add j) = some u := fun j u hj => by
        obtain ⟨hjl, rfl⟩ := List.getElem?_eq_some_iff.1 hj
        have hjl' : j < l.length := by simpa using hjl
        rw [Addr.add_lit]
        show w.cell? _ = _
        unfold World.cell?
        simp only [hg]
        rw [ox_get htake hjl']
        simp [hjl']
      have hr := run_append_grow_src (P := Try.prog) w 56 56 ty 3 i (.int .i64 0) Try.underlying56 hi hz (some ⟨g, f, none⟩) l.length cap (l.map (Value.int .i64)) (run_firstCells_some w.drew i.size l.length ⟨g, f, none⟩ l.length cap _ (by rw [hsz]; simp) holds) xv 1 _ hs' (by omega) (by omega) (by rw [hby]; exact growslice_fits (by omega) (by omega))
      exact ⟨_, _, hr, grown cap (by omega), .inr (.inl ⟨rfl, (Below.refl _ _).drew.alloc (Nat.le_refl _) _⟩)⟩
end Go.Proofs.Ytjdgeonlbjokaaa

