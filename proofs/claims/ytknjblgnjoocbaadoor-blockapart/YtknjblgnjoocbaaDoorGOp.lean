import Derived.Test.YtknjblgnjoocbaaDoorGBsd
import Derived.Laws.CopyRow
import Derived.Laws.MakeOwn
import Derived.Test.YtknjblgnjoocbaaDoorG3
import Derived.Lib.SmallJoins
import Derived.Deep.Slices
import Derived.Test.YtknjblgnjoocbaaDoorGCn
import Derived.OpenShut
namespace Go.Proofs.YtknjblgnjoocbaaDoor
open Go.RowKit Go.Maps
set_option maxRecDepth 20000
set_option linter.unusedVariables false

theorem sk_cells {w : World} {x : Addr} {R : List Tk} (h : ∀ i, i < R.length → w.cell? (x.add (i * 3)) = some (.int .i64 (R.getD i tk0).1) ∧ w.cell? (x.add (i * 3 + 1)) = some (.int .i64 (R.getD i tk0).2.1) ∧ w.cell? (x.add (i * 3 + 2)) = some (.int .u8 (R.getD i tk0).2.2)) :
    ∀ j v, (fr3 R)[j]? = some v → w.cell? (x.add j) = some v := by
  intro j v hj
  have hl : j < (fr3 R).length := (List.getElem?_eq_some_iff.1 hj).1
  rw [fr3_len] at hl
  have hi : j / 3 < R.length := by omega
  obtain ⟨g0, g1, g2⟩ := fr3_get hi
  obtain ⟨h0, h1, h2⟩ := h (j / 3) hi
  have e : j = j / 3 * 3 ∨ j = j / 3 * 3 + 1 ∨ j = j / 3 * 3 + 2 := by omega
  rcases e with e | e | e
  · rw [e] at hj ⊢; rw [g0] at hj; rw [← hj]; exact h0
  · rw [e] at hj ⊢; rw [g1] at hj; rw [← hj]; exact h1
  · rw [e] at hj ⊢; rw [g2] at hj; rw [← hj]; exact h2

theorem run_copy_toks {P : Program} (w : World) (dT sT ty elem : TypeId) (g dCap n : Nat) (a : Addr) (sCap : Nat) (cur : Array Value) (t : TypeId) (cs : List Value)
    (hu : P.underlying dT = some (.slice elem)) (hs : (P.info? elem).map (·.size) = some 3) (hg : w.heap[g]? = some (.cells cur t (0, 0))) (hn : cs.length = n * 3)
    (hsrc : ∀ j v, cs[j]? = some v → w.cell? (a.add j) = some v) (hfit : cs.length ≤ cur.size) (h1 : ∀ v ∈ cs, v.oneCell' = true) :
    (Builtin.copy_ #[dT, sT] ty #[.slice (some ⟨g, 0, none⟩) n dCap, .slice (some a) n sCap]).run P w = .ok (goInt n) (w.setRow g (cs ++ cur.toList.drop cs.length).toArray) := by
  have hl := run_loadCells_list (P := P) w a cs hsrc
  have hst := run_storeCells_at P g 0 t cs 0 cur w hg (by simpa using hfit) h1
  have hm : Nat.min n n = n := Nat.min_self n
  rw [hn] at hl
  cases hq : P.info? elem with
  | none => simp [hq] at hs
  | some i =>
    have hi : i.size = 3 := by simpa [hq] using hs
    simp [Builtin.copy_, run_underlying hu, Builtin.lenOf, Builtin.firstCells, sizeOf, typeInfo, hq, hi, hm, hl]
    simp at hst
    rw [hst]
    simp

theorem wpList_copyK {w : World} {ops : Array Oper} {rest : List Oper} {o : Oper} {a : Act} {Q : Exit → Act → World → Prop} (hgd : o.guard = none) (d s : Operand)
    (ho : o.op = .call { callee := .builtin .copy, args := #[d, s], argTypes := #[22, 22] }) (g n dCap : Nat) (v : Value) (l : List Tk) (hd : a.eval d = .slice (some ⟨g, 0, none⟩) l.length dCap) (hs : a.eval s = v) (hsp : SK w v l)
    (cur : Array Value) (hg : w.heap[g]? = some (.cells cur 34 (0, 0))) (hc : cur.size = l.length * 3) (hn : n = l.length)
    (h : ∀ w', w'.heap[g]? = some (.cells (fr3 l).toArray 34 (0, 0)) → (∀ k, k ≠ g → w'.heap[k]? = w.heap[k]?) → w'.heap.size = w.heap.size → w'.os = w.os → w'.tape = w.tape → w'.output = w.output → wpList Tryd.prog ops Q rest (a.put o.dst (goInt n)) w') :
    wpList Tryd.prog ops Q (o :: rest) a w := by
  subst hn
  have hsz : (Tryd.prog.info? 34).map (·.size) = some 3 := by kernel_rfl
  refine wpList_plain hgd fun K hK => ?_
  obtain ⟨ao, cap, rfl, h1, h2, h3, h4⟩ := hsp
  unfold Oper.wp
  cases ao with
  | none =>
    have h0 := h3 rfl
    obtain rfl : l = [] := List.eq_nil_of_length_eq_zero (by omega)
    subst h0
    have hr : (Builtin.copy_ #[22, 22] o.type #[.slice (some ⟨g, 0, none⟩) 0 dCap, .slice none 0 0]).run Tryd.prog w = .ok (goInt 0) w := run_copy_nil (P := Tryd.prog) w 22 22 o.type 34 ⟨g, 0, none⟩ 0 dCap Tryd.underlying22 (by rw [hsz]; rfl)
    simp [execOp, ho, resolve, invoke, builtin, hd, hs, hr, Result.andThen]
    refine hK _ _ (h w ?_ (fun _ _ => rfl) rfl rfl rfl rfl)
    rw [hg]
    have : cur = #[] := Array.eq_empty_of_size_eq_zero (by simpa using hc)
    rw [this]; rfl
  | some x =>
    have hr := run_copy_toks (P := Tryd.prog) w 22 22 o.type 34 g dCap l.length x cap cur 34 (fr3 l) Tryd.underlying22 hsz hg (fr3_len l) (sk_cells (h4 x rfl)) (by rw [fr3_len, hc]; exact Nat.le_refl _) (fr3_one l)
    simp [execOp, ho, resolve, invoke, builtin, hd, hs, hr, Result.andThen]
    refine hK _ _ (h _ ?_ (fun k hk => setRow_other w g k _ hk) (by simp [World.setRow]) rfl rfl rfl)
    rw [setRow_heap w g cur _ 34 _ hg]
    have : cur.toList.drop (fr3 l).length = [] := List.drop_eq_nil_of_le (by rw [fr3_len]; simp [hc])
    rw [this, List.append_nil]

theorem wpList_mkK {w : World} {ops : Array Oper} {rest : List Oper} {o : Oper} {a : Act} {Q : Exit → Act → World → Prop} (hg : o.guard = none) (l c : Operand) (hop : o.op = Op.makeSlice 22 l c)
    (kl kc : IntKind) (n : Nat) (hl : a.eval l = .int kl n) (hc : a.eval c = .int kc n) (b2 : n ≤ 5864062014805)
    (hK : ∀ w' cur, w'.heap[w.heap.size]? = some (.cells cur 34 (0, 0)) → cur.size = n * 3 → Below w.heap.size w w' → wpList Tryd.prog ops Q rest (a.put o.dst (.slice (some ⟨w.heap.size, 0, none⟩) n n)) w') :
    wpList Tryd.prog ops Q (o :: rest) a w := by
  obtain ⟨i0, hi, hz0, hz1, hz2⟩ := info_parts infoTok
  refine wpList_plain hg fun K hK' => ?_
  have hr := run_make (P := Tryd.prog) w 22 34 i0 _ Tryd.underlying22 hi hz0 kl kc (n : Int) (n : Int) (by omega) (by omega) (by rw [hz2]; omega) (by omega)
  unfold Oper.wp
  simp [execOp, hop, hl, hc, hr, Result.andThen]
  refine hK' _ _ (hK _ _ (heap_alloc_new _ _) ?_ ((Below.refl _ _).alloc (Nat.le_refl _) _))
  rw [hz1]
  simp [madeCells]

/-- The law's list: the tokens in new memory. -/
theorem list_any (v : Value) (R : List Tk) (w : World) (h : SK w v R) (hn : R.length ≤ 5864062014805) :
    Calls Tryd.prog 15 #[v] w fun e w' => ∃ u, e = .returned u ∧ OK w' w.heap.size u R ∧ Below w.heap.size w w' := by
  have HV := hide h
  obtain ⟨a2, c2, rfl, _, _⟩ := h.open
  clear h
  go_enter Tryd.func15, Tryd.ntmps15
  go_wp2_with (at_make; refine wpList_mkK rfl _ _ rfl _ _ R.length rfl rfl (by omega) ?_)
  intro w1 cur hg1 hc1 hb1
  have hV1 := HV.out.below hb1
  go_wp2_with (refine wpList_copyK rfl _ _ rfl w.heap.size R.length R.length (.slice a2 R.length c2) R rfl rfl hV1 cur hg1 hc1 rfl ?_)
  intro w2 hg2 ho2 hs2 q1 q2 q3
  have HB2 : Hid (Below w.heap.size w w2) := ⟨q1.trans hb1.os, q2.trans hb1.tape, q3.trans hb1.output, by rw [hs2]; exact hb1.size, fun k hk => (ho2 k (by omega)).trans (hb1.block k hk)⟩
  have HGV : Hid (OK w2 w.heap.size (.slice (some ⟨w.heap.size, 0, none⟩) R.length R.length) R) :=
    ⟨fr3_len R, .inr ⟨w.heap.size, R.length, _, rfl, Nat.le_refl _, hg2, Nat.le_refl _, by unfold maxLen; omega, by simp [fr3_len], List.take_of_length_le (by simp [fr3_len])⟩⟩
  clear hg1 hc1 hb1 hV1 hg2 ho2 hs2 q1 q2 q3
  go_wp2
  go_ret
  exact ⟨_, rfl, HGV.out, HB2.out⟩
end Go.Proofs.YtknjblgnjoocbaaDoor

namespace Go.Proofs.YtknjblgnjoocbaaDoor
open Go.ChangeShapes Go.WideShapes Go.ChangeAt Go.RowKit Go.Joins Go.Deep

theorem own : ownKnob Tryd.prog.godebug = none := by kernel_rfl
theorem laidOut : laidOutB Tryd.prog = true := by kernel_rfl
theorem bytesByte : Tryd.prog.bytesOf 5 = 1 := by kernel_rfl

theorem byte_wf {n : Int} (h : (Lit.int .u8 n).wf = true) : 0 ≤ n ∧ n < 256 := by
  simp [Lit.wf, IntKind.min, IntKind.max, IntKind.signed, IntKind.bits] at h
  omega

theorem i64_in {n : Int} (h : (Lit.int .i64 n).wf = true) : -9223372036854775808 ≤ n ∧ n ≤ 9223372036854775807 := by
  simp [Lit.wf, IntKind.min, IntKind.max, IntKind.signed, IntKind.bits] at h
  omega

theorem exists_list {α : Type} (P : Nat → α → Prop) : ∀ n, (∀ i, i < n → ∃ a, P i a) → ∃ l : List α, l.length = n ∧ ∀ i a, l[i]? = some a → P i a
  | 0, _ => ⟨[], rfl, fun i a h => by simp at h⟩
  | n + 1, h => by
    obtain ⟨l, hl, hp⟩ := exists_list P n fun i hi => h i (by omega)
    obtain ⟨a, ha⟩ := h n (by omega)
    refine ⟨l ++ [a], by simp [hl], fun i x hx => ?_⟩
    by_cases hi : i < l.length
    · rw [List.getElem?_append_left hi] at hx
      exact hp i x hx
    · rw [List.getElem?_append_right (by omega)] at hx
      have : i - l.length = 0 := by
        by_cases e : i - l.length = 0
        · exact e
        · rw [List.getElem?_eq_none (by simp; omega)] at hx; cases hx
      rw [this] at hx
      simp at hx
      rw [← hx, show i = n by omega]
      exact ha

theorem u32_in {n : Int} (h : (Lit.int .u32 n).wf = true) : 0 ≤ n ∧ n < 4294967296 := by
  simp [Lit.wf, IntKind.min, IntKind.max, IntKind.signed, IntKind.bits] at h
  omega

theorem below_of_same {f : FuncId} {args : Array Value} {W : World} {r : Ending} (h : Calls Tryd.prog f args W fun e w' => e = r ∧ w' = W) : Calls Tryd.prog f args W fun e w' => e = r ∧ Below W.heap.size W w' :=
  h.mono fun e w' ⟨he, hw⟩ => ⟨he, by rw [hw]; exact Below.refl _ _⟩

end Go.Proofs.YtknjblgnjoocbaaDoor

namespace Go.Proofs.YtknjblgnjoocbaaDoor
open Go.ChangeShapes Go.WideShapes Go.ChangeAt Go.RowKit Go.Joins Go.Deep
set_option maxRecDepth 20000

theorem bytesTok : Tryd.prog.bytesOf 34 = 24 := by kernel_rfl
theorem cellsTok : Tryd.prog.cellsOf 34 = 3 := by kernel_rfl

theorem listc3 {α : Type} {l : List α} (h : l.length = 3) : ∃ a b c, l = [a, b, c] := by
  match l, h with
  | [a, b, c], _ => exact ⟨a, b, c, rfl⟩

theorem open_tok {H : Type} {enc : TypeId × Value → H} {W : World} {n : Nat} {cs : List Value} {y : DataW H × List MemPlace} (h : DataW.trod enc Tryd.prog W 0 (fun _ => true) true n 34 cs = some y) :
    ∃ o : Tk, Bt o ∧ cs = [.int .i64 o.1, .int .i64 o.2.1, .int .u8 o.2.2] := by
  obtain ⟨xs, m, _, rfl, hl, hxl, hf⟩ := DataW.trod_struct Tryd.underlying34 h
  rw [cellsTok] at hl
  obtain ⟨c0, c1, c2, rfl⟩ := listc3 hl
  obtain ⟨y0, y1, y2, rfl⟩ := listc3 hxl
  have h0 : DataW.trod enc Tryd.prog W 0 (fun _ => true) true m 3 (([c0, c1, c2].drop 0).take (Tryd.prog.cellsOf 3)) = some y0 := hf 0 _ rfl
  have h1 : DataW.trod enc Tryd.prog W 0 (fun _ => true) true m 3 (([c0, c1, c2].drop 1).take (Tryd.prog.cellsOf 3)) = some y1 := hf 1 _ rfl
  have h2 : DataW.trod enc Tryd.prog W 0 (fun _ => true) true m 5 (([c0, c1, c2].drop 2).take (Tryd.prog.cellsOf 5)) = some y2 := hf 2 _ rfl
  rw [show Tryd.prog.cellsOf 3 = 1 by kernel_rfl] at h0 h1
  rw [show Tryd.prog.cellsOf 5 = 1 by kernel_rfl] at h2
  simp only [List.drop, List.take] at h0 h1 h2
  obtain ⟨k0, e0, _, _⟩ := DataW.trod_int Tryd.underlying3 h0
  obtain ⟨k1, e1, _, _⟩ := DataW.trod_int Tryd.underlying3 h1
  obtain ⟨k2, e2, _, q2⟩ := DataW.trod_int Tryd.underlying5 h2
  simp at e0 e1 e2
  subst e0 e1 e2
  exact ⟨(k0, k1, k2), byte_wf q2, rfl⟩

/-- A list of tokens that is handed in. -/
theorem open_toks {H : Type} {enc : TypeId × Value → H} {W : World} {ao : Option Addr} {len cap : Nat} {d : DataW H} {ps : List MemPlace}
    (h : DataW.Trod enc Tryd.prog W 0 (fun _ => true) true 22 (.slice ao len cap) d ps) : ∃ R, SK W (.slice ao len cap) R ∧ (∀ t ∈ R, Bt t) ∧ (R = [] ∨ ∃ elems spare, d = .slice elems spare ∧ elems.length = R.length) := by
  obtain ⟨fuel, hf⟩ := h
  rcases open_slice Tryd.underlying22 hf with ⟨hcs, _⟩ | ⟨a, ln, cp, m, n, D, Pl, hcs, _, hl, hm, hmm, hx, hel⟩
  · simp [Value.cells] at hcs
    obtain ⟨rfl, rfl, rfl⟩ := hcs
    exact ⟨[], ⟨none, 0, rfl, Nat.le_refl _, Nat.zero_le _, fun _ => rfl, fun x hx => by cases hx⟩, (fun t ht => by cases ht), .inl rfl⟩
  · simp [Value.cells] at hcs
    obtain ⟨rfl, rfl, rfl⟩ := hcs
    simp only [if_true] at hmm
    obtain ⟨R, hlo, hR⟩ := exists_list (fun i (o : Tk) => Bt o ∧ W.cell? (a.add (i * 3)) = some (.int .i64 o.1) ∧ W.cell? (a.add (i * 3 + 1)) = some (.int .i64 o.2.1) ∧ W.cell? (a.add (i * 3 + 2)) = some (.int .u8 o.2.2)) len (fun i hi => by
      obtain ⟨cs', hc, ht⟩ := hel i (by omega)
      obtain ⟨o, hbo, rfl⟩ := open_tok ht
      rw [cellsTok] at hc
      obtain ⟨_, _, hcell⟩ := World.cells?_some hc
      have hab' : ∃ b' of', a = ⟨b', of', none⟩ := by
        obtain ⟨cs0, hc0, ht0⟩ := hel 0 (by omega)
        rw [cellsTok] at hc0
        obtain ⟨_, hl0, hcell0⟩ := World.cells?_some hc0
        have h0 := hcell0 0 (by omega)
        rw [List.getElem?_eq_getElem (show 0 < cs0.length by omega), show (a.add (0 * 3)).add 0 = a.add 0 by simp [Addr.add]] at h0
        exact addr_lit h0
      obtain ⟨b', of', rfl⟩ := hab'
      have hc' : ∀ j, j < 3 → W.cell? ⟨b', of' + i * 3 + j, none⟩ = [Value.int .i64 o.1, .int .i64 o.2.1, .int .u8 o.2.2][j]? := fun j hj => by
        have := hcell j hj
        rw [Addr.add_lit, Addr.add_lit] at this
        exact this
      exact ⟨o, hbo, by rw [Addr.add_lit]; exact hc' 0 (by omega), by rw [Addr.add_lit]; exact hc' 1 (by omega), by rw [Addr.add_lit]; exact hc' 2 (by omega)⟩)
    simp only [Prod.mk.injEq] at hx
    refine ⟨R, ⟨some a, cap, by rw [hlo], by omega, hm, (fun e => by cases e), fun x hx i hi => ?_⟩, fun t ht => ?_, .inr ⟨_, _, hx.1, by simp [hlo]⟩⟩
    · cases hx
      have := hR i (R.getD i tk0) (by simp [hi])
      exact this.2
    · obtain ⟨i, hi, rfl⟩ := List.getElem_of_mem ht
      exact (hR i _ (by simp [hi])).1

theorem reach_toks {H : Type} {ts : List TypeId} {ds : List (DataW H)} {j : Nat} {R : List Tk} {d : DataW H} (h : (DataW.weightsEach Tryd.prog ts ds).all (· ≤ reachBytes) = true) (ht : ts[j]? = some 22) (hd : ds[j]? = some d)
    (hl : R = [] ∨ ∃ elems spare, d = .slice elems spare ∧ elems.length = R.length) : R.length ≤ 5864062014800 := by
  rcases hl with rfl | ⟨elems, spare, rfl, hl⟩
  · simp
  · have := sized_slice h ht hd Tryd.underlying22
    rw [bytesTok] at this
    simp only [reachBytes] at this
    omega
end Go.Proofs.YtknjblgnjoocbaaDoor

