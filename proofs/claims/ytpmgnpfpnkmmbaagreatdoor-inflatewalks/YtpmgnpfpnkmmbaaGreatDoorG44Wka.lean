import Derived.Test.YtpmgnpfpnkmmbaaGreatDoorG41Wkp
import Derived.Test.YtpmgnpfpnkmmbaaGreatDoorG43Wkw
import Derived.Laws.CopyOwn
import Derived.Deep.MidRow
import Derived.Handy
namespace Go.Proofs.YtpmgnpfpnkmmbaaGreatDoor
open Go.RowKit Go.Maps
set_option maxRecDepth 20000
set_option linter.unusedVariables false
set_option linter.unusedSimpArgs false

theorem flr_len : ∀ (R : List (Array Value)), (∀ r ∈ R, r.size = 6) → (flr R).length = R.length * 6
  | [], _ => rfl
  | r :: R, hs => by
    have e := hs r (List.mem_cons_self ..)
    have := flr_len R (fun q hq => hs q (List.mem_cons_of_mem _ hq))
    simp only [flr, List.flatMap_cons, List.length_append, Array.length_toList, List.length_cons, e]
    simp only [flr] at this
    omega

theorem flr_snoc (R : List (Array Value)) (r : Array Value) : flr (R ++ [r]) = flr R ++ r.toList := by rw [flr_app]; simp [flr]

/-- One more block, and where it came to lie. -/
theorem run_appP (w : World) (base : Nat) (ty : TypeId) (v x : Value) (R : List (Array Value)) (r : Array Value) (hr6 : r.size = 6) (hown : ORp 54 6 w base v R) (hs : Src Tryz.prog 6 24 x 1 r.toList w) (hb : R.length ≤ 268435456) (hbase : base ≤ w.heap.size) :
    ∃ v' w', (Builtin.append_ #[24, 24] ty #[v, x]).run Tryz.prog w = .ok v' w' ∧ ORp 54 6 w' base v' (R ++ [r]) ∧ Grew w w' v v' := by
  obtain ⟨i, hi, hz, hsz, hby⟩ := info_parts infoPcq
  have hs' : Src Tryz.prog i.size 24 x 1 r.toList w := by rw [hsz]; exact hs
  have hmx : R.length + 1 ≤ maxLen := by unfold maxLen; omega
  have hl6 := flr_len R hown.1
  have hrl : r.toList.length = 6 := by rw [Array.length_toList, hr6]
  have hall : ∀ q ∈ R ++ [r], q.size = 6 := fun q hq => by
    rcases List.mem_append.1 hq with h | h
    · exact hown.1 q h
    · rw [List.mem_singleton.1 h]; exact hr6
  have grown : ∀ old, old < R.length + 1 → ORp 54 6 (w.drew.alloc (.cells ((flr R ++ r.toList).toArray ++ Builtin.zeroCells (Value.agg #[.int .i64 0, .bool false, .int .i64 0, .int .i64 0, .int .i64 0, .int .i64 0]).cells (grownCap w (R.length + 1) old 54 - (R.length + 1))) 54)) base
      (.slice (some ⟨w.heap.size, 0, none⟩) (R.length + 1) (grownCap w (R.length + 1) old 54)) (R ++ [r]) := by
    intro old ho
    have hge := grownCap_ge w (R.length + 1) old 54
    have hcm : grownCap w (R.length + 1) old 54 ≤ maxLen := grownCap_le_maxLen w (R.length + 1) old 54 hmx
    refine ⟨hall, flr_len _ hall, .inr ⟨w.heap.size, grownCap w (R.length + 1) old 54, _, by simp, hbase, heap_alloc_new w.drew _, by simpa using hge, hcm, ?_, ?_⟩⟩
    · simp only [Array.size_append, List.size_toArray, List.length_append, size_zeroCells, Value.cells, hl6, hrl]
      simp
      omega
    · simp only [Array.toList_append]
      rw [flr_snoc, List.take_append_of_le_length (by simp [hl6, hr6]; omega)]
      exact List.take_of_length_le (by simp [hl6, hr6]; omega)
  rcases hown.2.2 with ⟨rfl, h0⟩ | ⟨g, cap, cur, rfl, hbg, hg, hnc, hcm, hcs, htake⟩
  · obtain rfl : R = [] := List.eq_nil_of_length_eq_zero h0
    have hr := run_append_grow_src (P := Tryz.prog) w 24 24 ty 54 i _ Tryz.underlying24 hi hz none 0 0 [] (run_firstCells_none w.drew i.size 0 0 0) x 1 _ hs' (by omega) (by omega) (by rw [hby]; exact growslice_fits (by omega) (by omega))
    have hgr := grown 0 (by simp)
    exact ⟨_, _, hr, hgr, .inr (.inl ⟨rfl, (Below.refl _ _).drew.alloc (Nat.le_refl _) _⟩)⟩
  · by_cases hroom : R.length + 1 ≤ cap
    · have hfit : R.length * i.size + r.toList.length ≤ cur.size := by rw [hsz, hcs, hrl]; omega
      have hst := run_storeCells_at Tryz.prog g (R.length * i.size) 54 r.toList 0 cur w hg (by simpa using hfit) hs.one
      simp only [Nat.add_zero] at hst
      have hr : (Builtin.append_ #[24, 24] ty #[.slice (some ⟨g, 0, none⟩) R.length cap, x]).run Tryz.prog w =
          .ok (.slice (some ⟨g, 0, none⟩) (R.length + 1) cap) (w.setRow g (cur.toList.take (R.length * i.size) ++ r.toList ++ cur.toList.drop (R.length * i.size + r.toList.length)).toArray) := by
        rcases hs'.kind with ⟨e', hk⟩ | hk <;> simp [Builtin.append_, run_underlying Tryz.underlying24, run_underlying hk, sizeOf, typeInfo, hi, hs'.len, hroom, hs'.cells, Addr.add_lit, hst]
      refine ⟨_, _, hr, ⟨hall, flr_len _ hall, .inr ⟨g, cap, _, by simp, hbg, setRow_heap w g cur _ 54 _ hg, by simpa using hroom, hcm, ?_, ?_⟩⟩, .inr (.inr ⟨rfl, by simp [World.setRow], ⟨rfl, rfl, rfl, by simp, fun k _ hk => setRow_other w g k _ (fun e => hk (by simp [Value.ownBlock, e]))⟩⟩)⟩
      · rw [hsz]
        simp only [List.size_toArray, List.length_append, List.length_take, List.length_drop, Array.length_toList, hr6]
        omega
      · rw [hsz, htake, flr_snoc, List.take_append_of_le_length (by simp [hl6, hr6]; omega)]
        exact List.take_of_length_le (by simp [hl6, hr6]; omega)
    · have holds : ∀ j u, (flr R)[j]? = some u → w.drew.cell? ((⟨g, 0, none⟩ : Addr).add j) = some u := World.ownsRow.cells hown.2 (g := g) rfl
      have hr := run_append_grow_src (P := Tryz.prog) w 24 24 ty 54 i _ Tryz.underlying24 hi hz (some ⟨g, 0, none⟩) R.length cap (flr R) (run_firstCells_some w.drew i.size R.length ⟨g, 0, none⟩ R.length cap _ (by rw [hsz, hl6]) holds) x 1 _ hs' (by omega) (by omega) (by rw [hby]; exact growslice_fits (by omega) (by omega))
      exact ⟨_, _, hr, grown cap (by omega), .inr (.inl ⟨rfl, (Below.refl _ _).drew.alloc (Nat.le_refl _) _⟩)⟩

abbrev mkp (m : Int) : Array Value := #[.int .i64 m, .bool false, .int .i64 0, .int .i64 0, .int .i64 0, .int .i64 0]

theorem built_srcP (w : World) (m : Int) : Src Tryz.prog 6 24 (.slice (some ⟨w.heap.size, 0, none⟩) 1 1) 1 (mkp m).toList (w.alloc (.cells #[.int .i64 m, .bool false, .int .i64 0, .int .i64 0, .int .i64 0, .int .i64 0] 54)) := by
  refine Src.ofSlice _ Tryz.underlying24 _ _ _ _ (by simp) (fun j u hj => ?_) (fun u hu => by simp at hu; rcases hu with rfl | rfl | rfl <;> rfl)
  have e := heap_alloc_new w (.cells #[.int .i64 m, .bool false, .int .i64 0, .int .i64 0, .int .i64 0, .int .i64 0] 54)
  rw [Addr.add_lit]
  unfold World.cell?
  simp only [e, Nat.zero_add]
  simpa using hj

theorem wpList_appP {w : World} {ops : Array Oper} {rest : List Oper} {o : Oper} {a : Act} {Q : Exit → Act → World → Prop} (hgd : o.guard = none) (s x : Operand)
    (ho : o.op = .call { callee := .builtin .append, args := #[s, x], argTypes := #[24, 24] }) (base : Nat) (v xv : Value) (R : List (Array Value)) (r : Array Value) (hr6 : r.size = 6) (hv : a.eval s = v) (hown : ORp 54 6 w base v R) (hx : a.eval x = xv) (hs : Src Tryz.prog 6 24 xv 1 r.toList w)
    (hb : R.length ≤ 268435456) (hbase : base ≤ w.heap.size)
    (h : ∀ v' w', ORp 54 6 w' base v' (R ++ [r]) → Grew w w' v v' → wpList Tryz.prog ops Q rest (a.put o.dst v') w') : wpList Tryz.prog ops Q (o :: rest) a w := by
  refine wpList_plain hgd fun K hK => ?_
  obtain ⟨v', w', hr, h2, h3⟩ := run_appP w base o.type v xv R r hr6 hown hs hb hbase
  unfold Oper.wp
  simp [execOp, ho, resolve, invoke, builtin, hv, hx, hr, Result.andThen]
  exact hK _ _ (h v' w' h2 h3)

/-- The cells of a row of blocks. -/
theorem ORp.at6 {w : World} {base : Nat} {v : Value} {R : List (Array Value)} (h : ORp 54 6 w base v R) {k : Nat} (hk : k < R.length) : ∃ g c, v = .slice (some ⟨g, 0, none⟩) R.length c ∧ R.length ≤ c ∧ c ≤ 9223372036854775807 ∧ (∀ i, i < 6 → w.cell? ⟨g, k * 6 + i, none⟩ = (R.getD k #[])[i]?) ∧ w.there g (k * 6) 6 := by
  rcases h.2.2 with ⟨hn, h0⟩ | ⟨g, cap, cur, hv, h1, h2, h3, h4, h5, h6⟩
  · omega
  subst hv
  unfold maxLen at h4
  refine ⟨g, cap, rfl, h3, by omega, fun i hi => ?_, fun j hj => ⟨?_, ?_⟩⟩
  · have e := flr_get hi R k h.1 hk
    have hsz : (R.getD k #[]).size = 6 := h.1 _ (by rw [List.getD_eq_getElem?_getD, List.getElem?_eq_getElem hk]; exact List.getElem_mem hk)
    rw [Array.getElem?_eq_getElem (by omega)] at e
    have := World.ownsRow.cells h.2 (g := g) rfl _ _ e
    rw [Addr.add_lit, Nat.zero_add] at this
    rw [this, Array.getElem?_eq_getElem (by omega)]
  · unfold World.cell?
    simp only [h2]
    rw [Array.getElem?_eq_getElem (by omega)]
    rfl
  · unfold World.frozen?
    rw [h2]
    simp

theorem set6 (P Q : List Value) (s0 s1 s2 s3 s4 s5 a0 a1 a2 a3 a4 a5 : Value) (n : Nat) (hn : P.length = n) : ((((((P ++ s0 :: s1 :: s2 :: s3 :: s4 :: s5 :: Q).set n a0).set (n + 1) a1).set (n + 1 + 1) a2).set (n + 1 + 1 + 1) a3).set (n + 1 + 1 + 1 + 1) a4).set (n + 1 + 1 + 1 + 1 + 1) a5 = P ++ a0 :: a1 :: a2 :: a3 :: a4 :: a5 :: Q := by
  subst hn
  simp [List.set_append_right, Nat.add_assoc]

theorem six_is {r : Array Value} (h : r.size = 6) : ∃ s0 s1 s2 s3 s4 s5, r.toList = [s0, s1, s2, s3, s4, s5] := by
  have hl : r.toList.length = 6 := by rw [Array.length_toList, h]
  generalize r.toList = l at hl
  match l, hl with
  | [s0, s1, s2, s3, s4, s5], _ => exact ⟨s0, s1, s2, s3, s4, s5, rfl⟩

/-- A block is written over. -/
theorem ORp.put6 {w : World} {base g n c k : Nat} {R : List (Array Value)} (h : ORp 54 6 w base (.slice (some ⟨g, 0, none⟩) n c) R) (hk : k < R.length) (m : Int) : ORp 54 6 (w.setCells g (k * 6) (mkp m).toList) base (.slice (some ⟨g, 0, none⟩) n c) (R.set k (mkp m)) ∧ Bx g w (w.setCells g (k * 6) (mkp m).toList) := by
  have hall : ∀ q ∈ R.set k (mkp m), q.size = 6 := fun q hq => by
    rcases List.mem_or_eq_of_mem_set hq with h1 | h1
    · exact h.1 q h1
    · rw [h1]; rfl
  refine ⟨⟨hall, flr_len _ hall, ?_⟩, ?_⟩
  · rcases h.2.2 with ⟨hn, h0⟩ | ⟨g', cap, cur, hv, h1, h2, h3, h4, h5, h6⟩
    · cases hn
    simp only [Value.slice.injEq, Option.some.injEq, Addr.mk.injEq] at hv
    obtain ⟨⟨rfl, -, -⟩, rfl, rfl⟩ := hv
    have q0 := heap_setCell_at (w := w) (k := k * 6) (.int .i64 m) h2
    have q1 := heap_setCell_at (k := k * 6 + 1) (.bool false) q0
    have q2 := heap_setCell_at (k := k * 6 + 1 + 1) (.int .i64 0) q1
    have q3 := heap_setCell_at (k := k * 6 + 1 + 1 + 1) (.int .i64 0) q2
    have q4 := heap_setCell_at (k := k * 6 + 1 + 1 + 1 + 1) (.int .i64 0) q3
    have q5 := heap_setCell_at (k := k * 6 + 1 + 1 + 1 + 1 + 1) (.int .i64 0) q4
    refine .inr ⟨g, c, _, by rw [List.length_set], h1, q5, by rw [List.length_set]; exact h3, h4, by simpa using h5, ?_⟩
    rw [List.length_set]
    simp only [Array.toList_setIfInBounds]
    rw [List.take_set, List.take_set, List.take_set, List.take_set, List.take_set, List.take_set, h6]
    obtain ⟨s0, s1, s2, s3, s4, s5, hr⟩ := six_is (h.1 R[k] (List.getElem_mem hk))
    have e1 : R = R.take k ++ R[k] :: R.drop (k + 1) := by rw [← List.drop_eq_getElem_cons hk, List.take_append_drop]
    have e2 : R.set k (mkp m) = R.take k ++ mkp m :: R.drop (k + 1) := by rw [List.set_eq_take_append_cons_drop, if_pos hk]
    have e3 : flr R = flr (R.take k) ++ s0 :: s1 :: s2 :: s3 :: s4 :: s5 :: flr (R.drop (k + 1)) := by
      conv => lhs; rw [e1]
      rw [flr_app]
      show _ ++ (flr ([R[k]] ++ R.drop (k + 1))) = _
      rw [flr_app]
      simp [flr, hr]
    rw [e2, e3, flr_app]
    show _ = _ ++ (flr ([mkp m] ++ R.drop (k + 1)))
    rw [flr_app]
    have e4 : flr [mkp m] = [.int .i64 m, .bool false, .int .i64 0, .int .i64 0, .int .i64 0, .int .i64 0] := by simp [flr]
    have e5 : (flr (R.take k)).length = k * 6 := by rw [flr_len _ (fun q hq => h.1 q (List.mem_of_mem_take hq)), List.length_take, Nat.min_eq_left (Nat.le_of_lt hk)]
    rw [e4]
    exact set6 (flr (R.take k)) (flr (R.drop (k + 1))) s0 s1 s2 s3 s4 s5 _ _ _ _ _ _ (k * 6) e5
  · exact (((((Bx.refl g w).set _ _).set _ _).set _ _).set _ _).set _ _ |>.set _ _

/-- What was read of a row is still read behind an append to it. -/
theorem ORp.old {w w' : World} {B : Nat} {v v' : Value} {R : List (Array Value)} {r : Array Value} (h : ORp 54 6 w B v R) (h' : ORp 54 6 w' B v' (R ++ [r])) (hg : Grew w w' v v') {k : Nat} (hk : k < R.length) : ∃ g c, v = .slice (some ⟨g, 0, none⟩) R.length c ∧ R.length ≤ c ∧ c ≤ 9223372036854775807 ∧ w'.cell? ⟨g, k * 6, none⟩ = (R.getD k #[])[0]? := by
  obtain ⟨g, c, hv, h1, h2, h3, -⟩ := h.at6 hk
  have h30 := h3 0 (by omega)
  rw [Nat.add_zero] at h30
  refine ⟨g, c, hv, h1, h2, ?_⟩
  subst hv
  rcases hg with ⟨rfl, rfl⟩ | ⟨_, hb⟩ | ⟨he, _⟩
  · exact h30
  · rw [hb.cell (p := ⟨g, k * 6, none⟩) ((h.lt g rfl).2)]; exact h30
  · obtain ⟨g', c', hv', -, -, h4, -⟩ := h'.at6 (k := k) (by rw [List.length_append]; omega)
    have e : g' = g := by rw [hv'] at he; simpa [Value.ownBlock] using he
    subst e
    have h40 := h4 0 (by omega)
    rw [Nat.add_zero] at h40
    rw [h40]
    have eg : (R ++ [r]).getD k #[] = R.getD k #[] := by simp [List.getD, List.getElem?_append_left hk]
    rw [eg]
end Go.Proofs.YtpmgnpfpnkmmbaaGreatDoor

