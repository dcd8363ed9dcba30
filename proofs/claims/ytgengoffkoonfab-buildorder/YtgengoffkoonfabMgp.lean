import Derived.Test.YtgengoffkoonfabUsd
import Derived.Test.YtgengoffkoonfabDsp
namespace Go.Proofs.Ytgengoffkoonfab
open Go.RowKit Go.Maps
set_option maxRecDepth 20000
set_option linter.unusedVariables false

/-- Leaves and packages merged, each with its mark. -/
def cmr : List Nat → List Nat → List (Nat × Bool)
  | [], p => p.map (·, false)
  | a :: w, [] => (a :: w).map (·, true)
  | a :: w, b :: p => if a ≤ b then (a, true) :: cmr w (b :: p) else (b, false) :: cmr (a :: w) p
termination_by w p => w.length + p.length

theorem cmr_nil (w : List Nat) : cmr w [] = w.map (·, true) := by cases w <;> simp [cmr]

theorem cmr_fst (w p : List Nat) : (cmr w p).map (·.1) = mrg w p := by
  induction w, p using cmr.induct with
  | case1 p => simp [cmr, mrg, Function.comp_def]
  | case2 a w => simp [cmr, mrg, Function.comp_def]
  | case3 a w b p h ih => simp only [cmr, mrg, if_pos h, List.map_cons, ih]
  | case4 a w b p h ih => simp only [cmr, mrg, if_neg h, List.map_cons, ih]

theorem cmr_len (w p : List Nat) : (cmr w p).length = w.length + p.length := by
  have := congrArg List.length (cmr_fst w p)
  rw [List.length_map, mrg_len] at this
  exact this

/-- Leaves among the first m. -/
def lvs (R : List (Nat × Bool)) (m : Nat) : Nat := ((R.take m).filter (·.2)).length

theorem cmr_cnt (w p : List Nat) (m : Nat) : lvs (cmr w p) m = cnt w p m := by
  induction w, p using cmr.induct generalizing m with
  | case1 p =>
    have e : ∀ (p : List Nat) (m : Nat), lvs (p.map (·, false)) m = 0 := fun p m => by
      unfold lvs
      rw [List.length_eq_zero_iff, List.filter_eq_nil_iff]
      intro x hx
      have := List.mem_of_mem_take hx
      obtain ⟨y, _, rfl⟩ := List.mem_map.1 this
      simp
    simp only [cmr, e]
    cases m <;> simp [cnt]
  | case2 a w =>
    have e : ∀ (w : List Nat) (m : Nat), lvs (w.map (·, true)) m = cnt w [] m := fun w => by
      induction w with
      | nil => intro m; cases m <;> simp [lvs, cnt]
      | cons a w ih =>
        intro m
        cases m with
        | zero => simp [lvs, cnt]
        | succ m =>
          have := ih m
          simp only [lvs, List.map_cons, List.take_succ_cons, cnt] at this ⊢
          rw [List.filter_cons_of_pos rfl, List.length_cons, this]
    simp only [cmr]
    exact e (a :: w) m
  | case3 a w b p h ih =>
    cases m with
    | zero => simp [lvs, cnt]
    | succ m =>
      have := ih m
      simp only [cmr, if_pos h, lvs, List.take_succ_cons, cnt] at this ⊢
      rw [List.filter_cons_of_pos rfl, List.length_cons, this]
  | case4 a w b p h ih =>
    cases m with
    | zero => simp [lvs, cnt]
    | succ m =>
      have := ih m
      simp only [cmr, if_neg h, lvs, List.take_succ_cons, cnt] at this ⊢
      rw [List.filter_cons_of_neg (by simp), this]

/-- Coins in memory. -/
def fc (R : List (Nat × Bool)) : List Value := R.flatMap fun p => [.int .i64 (p.1 : Int), .bool p.2]

theorem fc_len (R : List (Nat × Bool)) : (fc R).length = R.length * 2 := by
  induction R with
  | nil => rfl
  | cons a r ih => unfold fc at ih ⊢; rw [List.flatMap_cons, List.length_append, ih]; simp; omega

theorem fc_get {R : List (Nat × Bool)} {i : Nat} (h : i < R.length) : (fc R)[i * 2]? = some (.int .i64 ((R.getD i (0, false)).1 : Int)) ∧ (fc R)[i * 2 + 1]? = some (.bool (R.getD i (0, false)).2) := by
  induction R generalizing i with
  | nil => simp at h
  | cons a r ih =>
    cases i with
    | zero => exact ⟨rfl, rfl⟩
    | succ i =>
      have := ih (i := i) (by simpa using h)
      have e : fc (a :: r) = .int .i64 (a.1 : Int) :: .bool a.2 :: fc r := rfl
      rw [e, show (i + 1) * 2 = i * 2 + 1 + 1 by omega, show i * 2 + 1 + 1 + 1 = (i * 2 + 1) + 1 + 1 by omega]
      simp only [List.getElem?_cons_succ]
      exact this

theorem fc_snoc (R : List (Nat × Bool)) (p : Nat × Bool) : fc (R ++ [p]) = fc R ++ [.int .i64 (p.1 : Int), .bool p.2] := by simp [fc]

def OC (w : World) (base : Nat) (v : Value) (R : List (Nat × Bool)) : Prop := w.ownsRow base 75 2 v R.length (fc R)

theorem OC.lt {w : World} {base : Nat} {v : Value} {R : List (Nat × Bool)} (h : OC w base v R) : ∀ k, v.ownBlock = some k → base ≤ k ∧ k < w.heap.size := World.ownsRow.lt h

theorem OC.move {w w' : World} {base : Nat} {v : Value} {R : List (Nat × Bool)} (h : OC w base v R) (hb : ∀ k, v.ownBlock = some k → w'.heap[k]? = w.heap[k]?) : OC w' base v R := by
  refine ⟨h.1, ?_⟩
  rcases h.2 with h2 | ⟨g, cap, cur, rfl, h1, h2, r⟩
  · exact .inl h2
  · exact .inr ⟨g, cap, cur, rfl, h1, (hb g rfl).trans h2, r⟩

theorem OC.base {w : World} {base base' : Nat} {v : Value} {R : List (Nat × Bool)} (h : OC w base v R) (hb : base' ≤ base) : OC w base' v R := by
  refine ⟨h.1, ?_⟩
  rcases h.2 with h2 | ⟨g, cap, cur, rfl, h1, r⟩
  · exact .inl h2
  · exact .inr ⟨g, cap, cur, rfl, Nat.le_trans hb h1, r⟩

theorem OC.below {w w' : World} {base B : Nat} {v : Value} {R : List (Nat × Bool)} (h : OC w base v R) (hb : Below B w w') (hB : w.heap.size ≤ B) : OC w' base v R :=
  h.move fun k hk => hb.block k (Nat.lt_of_lt_of_le (h.lt k hk).2 hB)

theorem OC.alloc {w : World} {base : Nat} {v : Value} {R : List (Nat × Bool)} (h : OC w base v R) (o : Obj) : OC (w.alloc o) base v R := h.move fun k hk => Below.heap_alloc w o k (h.lt k hk).2

theorem OC.shape {w : World} {base : Nat} {v : Value} {R : List (Nat × Bool)} (h : OC w base v R) : ∃ a c, v = .slice a R.length c ∧ R.length ≤ c ∧ c ≤ 9223372036854775807 := by
  rcases h.2 with ⟨rfl, h0⟩ | ⟨g, cap, cur, rfl, _, _, h3, h4, _⟩
  · exact ⟨none, 0, by rw [h0], by omega, by omega⟩
  · unfold maxLen at h4; exact ⟨_, _, rfl, h3, by omega⟩

theorem OC.get {w : World} {base : Nat} {v : Value} {R : List (Nat × Bool)} (h : OC w base v R) {i : Nat} (hi : i < R.length) : ∃ g c, v = .slice (some ⟨g, 0, none⟩) R.length c ∧ w.cell? ⟨g, i * 2, none⟩ = some (.int .i64 ((R.getD i (0, false)).1 : Int)) ∧ w.cell? ⟨g, i * 2 + 1, none⟩ = some (.bool (R.getD i (0, false)).2) := by
  have hc := @World.ownsRow.cells _ _ _ _ _ _ _ h
  rcases h.2 with ⟨rfl, h0⟩ | ⟨g, cap, cur, rfl, _⟩
  · omega
  · obtain ⟨g1, g2⟩ := fc_get hi
    have c1 := hc (g := g) rfl _ _ g1
    have c2 := hc (g := g) rfl _ _ g2
    rw [Addr.add_lit, Nat.zero_add] at c1 c2
    exact ⟨g, cap, rfl, c1, c2⟩

theorem infoCoin : (Try.prog.info? 75).map (fun i => (i.zero, i.size, i.bytes)) = some (some (.agg #[.int .i64 0, .bool false]), 2, 16) := by kernel_rfl

/-- One more coin behind an owned row. -/
theorem wpCoin {w : World} {ops : Array Oper} {rest : List Oper} {o : Oper} {a : Act} {Q : Exit → Act → World → Prop} (hgd : o.guard = none) (s x : Operand)
    (ho : o.op = .call { callee := .builtin .append, args := #[s, x], argTypes := #[72, 72] }) (base : Nat) (v : Value) (R : List (Nat × Bool)) (x1 : Nat) (X1 : Int) (b1 : Bool) (hX1 : X1 = (x1 : Int)) (hs : a.eval s = v) (hown : OC w base v R)
    (c : Nat) (hx : a.eval x = .slice (some ⟨w.heap.size, 0, none⟩) 1 c) (hn : R.length ≤ 1000000) (hbase : base ≤ w.heap.size)
    (h : ∀ v' w', OC w' base v' (R ++ [(x1, b1)]) → (w.alloc (.cells #[.int .i64 X1, .bool b1] 75)).grownBy w' v.ownBlock → wpList Try.prog ops Q rest (a.put o.dst v') w') :
    wpList Try.prog ops Q (o :: rest) a (w.alloc (.cells #[.int .i64 X1, .bool b1] 75)) := by
  obtain ⟨i0, hi0, hz0, hz1, hz2⟩ := info_parts infoCoin
  subst hX1
  refine wpList_append_own_at _ hgd s x 72 ho base 75 i0 _ 2 16 Try.underlying72 hi0 hz0 hz1 hz2 rfl (by omega) v R.length (fc R) hs (hown.alloc _) ⟨w.heap.size, 0, none⟩ 1 c [.int .i64 (x1 : Int), .bool b1] hx rfl (World.news_of_block (cs := #[.int .i64 (x1 : Int), .bool b1]) (t := 75) (fr := (0, 0)) (heap_alloc_new w _))
    (fun u hu => by
      rcases List.mem_cons.1 hu with rfl | hu
      · rfl
      · rw [List.mem_singleton.1 hu]; rfl) (by unfold maxLen; omega) (by omega) (by simp; omega) fun v' w' h1 h2 _ _ => h v' w' ?_ h2
  unfold OC
  rw [fc_snoc, List.length_append]
  exact h1

/-- A slice without its first. -/
theorem SI.tail {w : World} {b o n cap : Nat} {x : Int} {r : List Int} (h : SI w (.slice (some ⟨b, o, none⟩) n cap) (x :: r)) : SI w (.slice (some ⟨b, o + 1, none⟩) (n - 1) (cap - 1)) r := by
  obtain ⟨ao, c', he, h1, h2, h3, h4⟩ := h
  simp only [Value.slice.injEq] at he
  obtain ⟨rfl, rfl, rfl⟩ := he
  refine ⟨some ⟨b, o + 1, none⟩, cap - 1, by simp, by simp at h1; omega, by omega, (fun e => by cases e), fun y hy i hi => ?_⟩
  cases hy
  have := h4 _ rfl (i + 1) (by simp; omega)
  rw [Addr.add_lit] at this ⊢
  rw [show o + 1 + i = o + (i + 1) by omega, this]
  simp

theorem SI.tail' {w : World} {b o n cap : Nat} {x : Int} {r : List Int} (h : SI w (.slice (some ⟨b, o, none⟩) n cap) (x :: r)) : SI w (.slice (if cap = 1 then some ⟨b, o, none⟩ else some ⟨b, o + 1, none⟩) (n - 1) (cap - 1)) r := by
  by_cases c : cap = 1
  · rw [if_pos c]
    obtain ⟨ao, c', he, h1, h2, h3, h4⟩ := h
    simp only [Value.slice.injEq] at he
    obtain ⟨rfl, rfl, rfl⟩ := he
    have hr : r = [] := by
      simp at h1
      exact List.eq_nil_of_length_eq_zero (by omega)
    subst hr
    exact ⟨_, _, rfl, by simp, by omega, (fun e => by cases e), fun y hy i hi => by simp at hi⟩
  · rw [if_neg c]
    exact h.tail

theorem SI.nil' {w : World} (a : Addr) (cap : Nat) (hc : cap ≤ maxLen) : SI w (.slice (some a) 0 cap) [] := ⟨some a, cap, rfl, Nat.zero_le _, hc, (fun e => by cases e), fun x hx i hi => by simp at hi⟩
end Go.Proofs.Ytgengoffkoonfab
