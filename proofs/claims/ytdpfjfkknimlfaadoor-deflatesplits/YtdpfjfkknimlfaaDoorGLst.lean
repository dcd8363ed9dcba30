import Derived.Test.YtdpfjfkknimlfaaDoorGBsd
import Derived.Laws.CopyRow
import Derived.Laws.MakeOwn
namespace Go.Proofs.YtdpfjfkknimlfaaDoor
open Go.RowKit Go.Maps
set_option maxRecDepth 20000
set_option linter.unusedVariables false

theorem sk_cells {w : World} {x : Addr} {R : List Tk} (h : ∀ i, i < R.length → w.cell? (x.add (i * 3)) = some (.int .i64 (R.getD i tk0).1) ∧ w.cell? (x.add (i * 3 + 1)) = some (.int .i64 (R.getD i tk0).2.1) ∧ w.cell? (x.add (i * 3 + 2)) = some (.int .u8 (R.getD i tk0).2.2)) :
    ∀ j v, (fr3 R)[j]? = some v → w.cell? (x.add j) = some v := by
  intro j v hj
  have hl : j < (fr3 R).length := (List.getElem?_eq_some_iff.1 hj).1
  rw [fr3_len] at hl
  have hi : j / 3 < R.length := by omega
  obtain ⟨g0, g1, g2⟩ := fr3_get hi
  obtain ⟨h0, h1, h2⟩ := h (j / 3) hi
  have e : j = j / 3 * 3 ∨ j = j / 3 * 3 + 1 ∨ j = j / 3 * 3 + 2 := by omega
  rcases e with e | e | e
  · rw [e] at hj ⊢; rw [g0] at hj; rw [← hj]; exact h0
  · rw [e] at hj ⊢; rw [g1] at hj; rw [← hj]; exact h1
  · rw [e] at hj ⊢; rw [g2] at hj; rw [← hj]; exact h2

theorem run_copy_toks {P : Program} (w : World) (dT sT ty elem : TypeId) (g dCap n : Nat) (a : Addr) (sCap : Nat) (cur : Array Value) (t : TypeId) (cs : List Value)
    (hu : P.underlying dT = some (.slice elem)) (hs : (P.info? elem).map (·.size) = some 3) (hg : w.heap[g]? = some (.cells cur t (0, 0))) (hn : cs.length = n * 3)
    (hsrc : ∀ j v, cs[j]? = some v → w.cell? (a.add j) = some v) (hfit : cs.length ≤ cur.size) (h1 : ∀ v ∈ cs, v.oneCell' = true) :
    (Builtin.copy_ #[dT, sT] ty #[.slice (some ⟨g, 0, none⟩) n dCap, .slice (some a) n sCap]).run P w = .ok (goInt n) (w.setRow g (cs ++ cur.toList.drop cs.length).toArray) := by
  have hl := run_loadCells_list (P := P) w a cs hsrc
  have hst := run_storeCells_at P g 0 t cs 0 cur w hg (by simpa using hfit) h1
  have hm : Nat.min n n = n := Nat.min_self n
  rw [hn] at hl
  cases hq : P.info? elem with
  | none => simp [hq] at hs
  | some i =>
    have hi : i.size = 3 := by simpa [hq] using hs
    simp [Builtin.copy_, run_underlying hu, Builtin.lenOf, Builtin.firstCells, sizeOf, typeInfo, hq, hi, hm, hl]
    simp at hst
    rw [hst]
    simp

theorem wpList_copyK {w : World} {ops : Array Oper} {rest : List Oper} {o : Oper} {a : Act} {Q : Exit → Act → World → Prop} (hgd : o.guard = none) (d s : Operand)
    (ho : o.op = .call { callee := .builtin .copy, args := #[d, s], argTypes := #[22, 22] }) (g n dCap : Nat) (v : Value) (l : List Tk) (hd : a.eval d = .slice (some ⟨g, 0, none⟩) l.length dCap) (hs : a.eval s = v) (hsp : SK w v l)
    (cur : Array Value) (hg : w.heap[g]? = some (.cells cur 24 (0, 0))) (hc : cur.size = l.length * 3) (hn : n = l.length)
    (h : ∀ w', w'.heap[g]? = some (.cells (fr3 l).toArray 24 (0, 0)) → (∀ k, k ≠ g → w'.heap[k]? = w.heap[k]?) → w'.heap.size = w.heap.size → w'.os = w.os → w'.tape = w.tape → w'.output = w.output → wpList Tryd.prog ops Q rest (a.put o.dst (goInt n)) w') :
    wpList Tryd.prog ops Q (o :: rest) a w := by
  subst hn
  have hsz : (Tryd.prog.info? 24).map (·.size) = some 3 := by kernel_rfl
  refine wpList_plain hgd fun K hK => ?_
  obtain ⟨ao, cap, rfl, h1, h2, h3, h4⟩ := hsp
  unfold Oper.wp
  cases ao with
  | none =>
    have h0 := h3 rfl
    obtain rfl : l = [] := List.eq_nil_of_length_eq_zero (by omega)
    subst h0
    have hr : (Builtin.copy_ #[22, 22] o.type #[.slice (some ⟨g, 0, none⟩) 0 dCap, .slice none 0 0]).run Tryd.prog w = .ok (goInt 0) w := run_copy_nil (P := Tryd.prog) w 22 22 o.type 24 ⟨g, 0, none⟩ 0 dCap Tryd.underlying22 (by rw [hsz]; rfl)
    simp [execOp, ho, resolve, invoke, builtin, hd, hs, hr, Result.andThen]
    refine hK _ _ (h w ?_ (fun _ _ => rfl) rfl rfl rfl rfl)
    rw [hg]
    have : cur = #[] := Array.eq_empty_of_size_eq_zero (by simpa using hc)
    rw [this]; rfl
  | some x =>
    have hr := run_copy_toks (P := Tryd.prog) w 22 22 o.type 24 g dCap l.length x cap cur 24 (fr3 l) Tryd.underlying22 hsz hg (fr3_len l) (sk_cells (h4 x rfl)) (by rw [fr3_len, hc]; exact Nat.le_refl _) (fr3_one l)
    simp [execOp, ho, resolve, invoke, builtin, hd, hs, hr, Result.andThen]
    refine hK _ _ (h _ ?_ (fun k hk => setRow_other w g k _ hk) (by simp [World.setRow]) rfl rfl rfl)
    rw [setRow_heap w g cur _ 24 _ hg]
    have : cur.toList.drop (fr3 l).length = [] := List.drop_eq_nil_of_le (by rw [fr3_len]; simp [hc])
    rw [this, List.append_nil]

theorem wpList_mkK {w : World} {ops : Array Oper} {rest : List Oper} {o : Oper} {a : Act} {Q : Exit → Act → World → Prop} (hg : o.guard = none) (l c : Operand) (hop : o.op = Op.makeSlice 22 l c)
    (kl kc : IntKind) (n : Nat) (hl : a.eval l = .int kl n) (hc : a.eval c = .int kc n) (b2 : n ≤ 5864062014805)
    (hK : ∀ w' cur, w'.heap[w.heap.size]? = some (.cells cur 24 (0, 0)) → cur.size = n * 3 → Below w.heap.size w w' → wpList Tryd.prog ops Q rest (a.put o.dst (.slice (some ⟨w.heap.size, 0, none⟩) n n)) w') :
    wpList Tryd.prog ops Q (o :: rest) a w := by
  obtain ⟨i0, hi, hz0, hz1, hz2⟩ := info_parts infoTok
  refine wpList_plain hg fun K hK' => ?_
  have hr := run_make (P := Tryd.prog) w 22 24 i0 _ Tryd.underlying22 hi hz0 kl kc (n : Int) (n : Int) (by omega) (by omega) (by rw [hz2]; omega) (by omega)
  unfold Oper.wp
  simp [execOp, hop, hl, hc, hr, Result.andThen]
  refine hK' _ _ (hK _ _ (heap_alloc_new _ _) ?_ ((Below.refl _ _).alloc (Nat.le_refl _) _))
  rw [hz1]
  simp [madeCells]

end Go.Proofs.YtdpfjfkknimlfaaDoor

