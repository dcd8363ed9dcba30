import Derived.Test.YtknjblgnjoocbaaDoorGOp
import Derived.Test.YtknjblgnjoocbaaDoorGEx
namespace Go.Proofs.YtknjblgnjoocbaaDoor
open Go.RowKit Go.Maps
set_option maxRecDepth 20000
set_option linter.unusedVariables false
set_option linter.unusedSimpArgs false

/-- A token in three cells. -/
def c3 (t : Tk) : List Value := [.int .i64 t.1, .int .i64 t.2.1, .int .u8 t.2.2]

/-- Tokens at a block's front, whatever lies behind. -/
def TBr (w : World) (g : Nat) (L : List Tk) (rest : List Value) : Prop := w.heap[g]? = some (.cells (fr3 L ++ rest).toArray 34 (0, 0))

theorem run_copy_toks2 {P : Program} (w : World) (dT sT ty elem : TypeId) (g dLen dCap n : Nat) (a : Addr) (sCap : Nat) (cur : Array Value) (t : TypeId) (cs : List Value)
    (hu : P.underlying dT = some (.slice elem)) (hs : (P.info? elem).map (·.size) = some 3) (hg : w.heap[g]? = some (.cells cur t (0, 0))) (hn : cs.length = n * 3) (hd : n ≤ dLen)
    (hsrc : ∀ j v, cs[j]? = some v → w.cell? (a.add j) = some v) (hfit : cs.length ≤ cur.size) (h1 : ∀ v ∈ cs, v.oneCell' = true) :
    (Builtin.copy_ #[dT, sT] ty #[.slice (some ⟨g, 0, none⟩) dLen dCap, .slice (some a) n sCap]).run P w = .ok (goInt n) (w.setRow g (cs ++ cur.toList.drop cs.length).toArray) := by
  have hl := run_loadCells_list (P := P) w a cs hsrc
  have hst := run_storeCells_at P g 0 t cs 0 cur w hg (by simpa using hfit) h1
  have hm : Nat.min n dLen = n := Nat.min_eq_left hd
  rw [hn] at hl
  cases hq : P.info? elem with
  | none => simp [hq] at hs
  | some i =>
    have hi : i.size = 3 := by simpa [hq] using hs
    simp [Builtin.copy_, run_underlying hu, Builtin.lenOf, Builtin.firstCells, sizeOf, typeInfo, hq, hi, hm, hl]
    simp at hst
    rw [hst]
    simp

theorem wpList_copyL {w : World} {ops : Array Oper} {rest : List Oper} {o : Oper} {a : Act} {Q : Exit → Act → World → Prop} (hgd : o.guard = none) (d s : Operand)
    (ho : o.op = .call { callee := .builtin .copy, args := #[d, s], argTypes := #[22, 22] }) (g dLen dCap : Nat) (v : Value) (l : List Tk) (hd : a.eval d = .slice (some ⟨g, 0, none⟩) dLen dCap) (hdl : l.length ≤ dLen) (hs : a.eval s = v) (hsp : SK w v l)
    (cur : Array Value) (hg : w.heap[g]? = some (.cells cur 34 (0, 0))) (hc : cur.size = dLen * 3)
    (h : ∀ w' rst, TBr w' g l rst → rst.length = (dLen - l.length) * 3 → (∀ k, k ≠ g → w'.heap[k]? = w.heap[k]?) → w'.heap.size = w.heap.size → w'.os = w.os → w'.tape = w.tape → w'.output = w.output → wpList Tryd.prog ops Q rest (a.put o.dst (goInt l.length)) w') :
    wpList Tryd.prog ops Q (o :: rest) a w := by
  have hsz : (Tryd.prog.info? 34).map (·.size) = some 3 := by kernel_rfl
  refine wpList_plain hgd fun K hK => ?_
  obtain ⟨ao, cap, rfl, h1, h2, h3, h4⟩ := hsp
  unfold Oper.wp
  cases ao with
  | none =>
    have h0 := h3 rfl
    obtain rfl : l = [] := List.eq_nil_of_length_eq_zero (by omega)
    subst h0
    have hr : (Builtin.copy_ #[22, 22] o.type #[.slice (some ⟨g, 0, none⟩) dLen dCap, .slice none 0 0]).run Tryd.prog w = .ok (goInt 0) w := run_copy_nil (P := Tryd.prog) w 22 22 o.type 34 ⟨g, 0, none⟩ dLen dCap Tryd.underlying22 (by rw [hsz]; rfl)
    simp [execOp, ho, resolve, invoke, builtin, hd, hs, hr, Result.andThen]
    exact hK _ _ (h w cur.toList (by show w.heap[g]? = _; simpa [fr3] using hg) (by simpa using hc) (fun _ _ => rfl) rfl rfl rfl rfl)
  | some x =>
    have hr := run_copy_toks2 (P := Tryd.prog) w 22 22 o.type 34 g dLen dCap l.length x cap cur 34 (fr3 l) Tryd.underlying22 hsz hg (fr3_len l) hdl (sk_cells (h4 x rfl)) (by rw [fr3_len, hc]; omega) (fr3_one l)
    simp [execOp, ho, resolve, invoke, builtin, hd, hs, hr, Result.andThen]
    refine hK _ _ (h _ (cur.toList.drop (fr3 l).length) (setRow_heap w g cur _ 34 _ hg) ?_ (fun k hk => setRow_other w g k _ hk) (by simp [World.setRow]) rfl rfl rfl)
    simp [fr3_len, hc, Nat.sub_mul]

theorem TBr.at {w : World} {g : Nat} {L : List Tk} {rest : List Value} (h : TBr w g L rest) {i : Nat} (hi : i < L.length) : w.cell? ⟨g, i * 3, none⟩ = some (.int .i64 (L.getD i tk0).1) ∧ w.cell? ⟨g, i * 3 + 1, none⟩ = some (.int .i64 (L.getD i tk0).2.1) ∧ w.cell? ⟨g, i * 3 + 2, none⟩ = some (.int .u8 (L.getD i tk0).2.2) := by
  obtain ⟨g0, g1, g2⟩ := fr3_get hi
  have hl := fr3_len L
  have key : ∀ j u, (fr3 L)[j]? = some u → w.cell? ⟨g, j, none⟩ = some u := fun j u hj => by
    have hjl : j < (fr3 L).length := (List.getElem?_eq_some_iff.1 hj).1
    unfold World.cell?
    rw [h]
    simp [List.getElem?_append_left hjl, hj]
  exact ⟨key _ _ g0, key _ _ g1, key _ _ g2⟩

theorem TBr.there {w : World} {g : Nat} {L : List Tk} {rest : List Value} (h : TBr w g L rest) {j : Nat} (hj : j < L.length * 3 + rest.length) : (∃ u, w.cell? ⟨g, j, none⟩ = some u) ∧ w.frozen? ⟨g, j, none⟩ = false := by
  refine ⟨?_, frozen_of_row _ _ _ _ _ h⟩
  have hj2 : j < (fr3 L ++ rest).length := by rw [List.length_append, fr3_len]; exact hj
  refine ⟨(fr3 L ++ rest)[j], ?_⟩
  unfold World.cell?
  rw [h]
  simp [hj2]

/-- One more token behind the others. -/
theorem TBr.put {w : World} {g : Nat} {L : List Tk} {x y z : Value} {rest : List Value} (h : TBr w g L (x :: y :: z :: rest)) (t : Tk) :
    TBr (((w.setCell ⟨g, L.length * 3, none⟩ (.int .i64 t.1)).setCell ⟨g, L.length * 3 + 1, none⟩ (.int .i64 t.2.1)).setCell ⟨g, L.length * 3 + 2, none⟩ (.int .u8 t.2.2)) g (L ++ [t]) rest := by
  have h1 := heap_setCell_same w g (L.length * 3) _ _ (.int .i64 t.1) h
  have h2 := heap_setCell_same _ g (L.length * 3 + 1) _ _ (.int .i64 t.2.1) h1
  have h3 := heap_setCell_same _ g (L.length * 3 + 2) _ _ (.int .u8 t.2.2) h2
  unfold TBr
  rw [h3]
  congr 2
  have hl := fr3_len L
  rw [fr3_snoc]
  apply Array.ext'
  simp only [Array.toList_setIfInBounds]
  rw [← hl]
  simp [List.set_append_right, List.append_assoc]

/-- A token written over. -/
theorem TBr.set {w : World} {g : Nat} {A B : List Tk} {s : Tk} {rest : List Value} (h : TBr w g (A ++ s :: B) rest) (t : Tk) :
    TBr (((w.setCell ⟨g, A.length * 3, none⟩ (.int .i64 t.1)).setCell ⟨g, A.length * 3 + 1, none⟩ (.int .i64 t.2.1)).setCell ⟨g, A.length * 3 + 2, none⟩ (.int .u8 t.2.2)) g (A ++ t :: B) rest := by
  have e : ∀ q : Tk, fr3 (A ++ q :: B) = fr3 A ++ .int .i64 q.1 :: .int .i64 q.2.1 :: .int .u8 q.2.2 :: fr3 B := fun q => by rw [fr3_app]; rfl
  have h0 : TBr w g A (.int .i64 s.1 :: .int .i64 s.2.1 :: .int .u8 s.2.2 :: (fr3 B ++ rest)) := by
    unfold TBr at h ⊢
    rw [h, e]
    simp
  have h1 := h0.put t
  unfold TBr at h1 ⊢
  rw [h1, e, fr3_snoc]
  simp

theorem TBr.sk {w : World} {g : Nat} {L : List Tk} {rest : List Value} (h : TBr w g L rest) {n c : Nat} (hn : n ≤ L.length) (hc : n ≤ c) (hm : c ≤ maxLen) : SK w (.slice (some ⟨g, 0, none⟩) n c) (L.take n) := by
  have hl : (L.take n).length = n := by simp; omega
  refine ⟨_, c, by rw [hl], by omega, hm, (fun e => by cases e), fun x hx i hi => ?_⟩
  cases hx
  have hi' : i < n := by omega
  have e : (L.take n).getD i tk0 = L.getD i tk0 := by simp [hi']
  rw [e, Addr.add_lit, Addr.add_lit, Addr.add_lit, Nat.zero_add, Nat.zero_add, Nat.zero_add]
  exact h.at (by omega)

theorem TBr.low {w w' : World} {g : Nat} {L : List Tk} {rest : List Value} (h : TBr w g L rest) (hb : Below w.heap.size w w') : TBr w' g L rest := (hb.block g ((Array.getElem?_eq_some_iff.1 h).1)).trans h
end Go.Proofs.YtknjblgnjoocbaaDoor

