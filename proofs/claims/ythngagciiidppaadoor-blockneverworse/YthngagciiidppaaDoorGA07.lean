import Derived.Test.YthngagciiidppaaDoorGA06
import Derived.Test.YthngagciiidppaaDoorGA00
import Derived.Lib.SmallJoins
import Derived.Deep.Slices
import Derived.Test.YthngagciiidppaaDoorGA03
import Derived.OpenShut
import Derived.Test.YthngagciiidppaaDoorGA05
namespace Go.Proofs.YthngagciiidppaaDoor
open Go.RowKit Go.Maps
set_option maxRecDepth 20000
set_option linter.unusedVariables false
set_option linter.unusedSimpArgs false

theorem list3 {α : Type} {l : List α} (h : l.length = 3) : ∃ a b c, l = [a, b, c] := by
  match l, h with
  | [a, b, c], _ => exact ⟨a, b, c, rfl⟩

theorem tok_st : Tryd.prog.underlying 36 = some (.struct (Tryd.prog.fieldsOf 36)) := by kernel_rfl
theorem tok_held : Tryd.prog.stoodInHeld 36 = false := by kernel_rfl
theorem tok_guard : Tryd.prog.eqGuardType Tryd.prog.depth 36 = false := by kernel_rfl
theorem tok_fields : (Tryd.prog.fieldsOf 36).toList.map (fun f => (decide (f.name ≠ "_"), f.type, f.offset)) = [(true, 3, 0), (true, 3, 1), (true, 5, 2)] := by kernel_rfl

theorem tk_eq (w : World) (a b c d e f : Int) : (Op.equalIn 10000 36 (.agg #[.int .i64 a, .int .i64 b, .int .u8 c]) (.agg #[.int .i64 d, .int .i64 e, .int .u8 f])).run Tryd.prog w = .ok (a == d && (b == e && c == f)) w := by
  rw [run_equalIn_struct w 9999 36 _ _ tok_st tok_held]
  have hf := tok_fields
  obtain ⟨f1, f2, f3, hfg⟩ := list3 (l := (Tryd.prog.fieldsOf 36).toList) (by have := congrArg List.length hf; simpa using this)
  rw [hfg] at hf ⊢
  · simp only [List.map_cons, List.map_nil, List.cons.injEq, Prod.mk.injEq, decide_eq_true_eq, and_true] at hf
    obtain ⟨⟨n1, t1, o1⟩, ⟨n2, t2, o2⟩, n3, t3, o3⟩ := hf
    simp only [Op.eqFields, if_pos n1, if_pos n2, if_pos n3, t1, t2, t3, o1, o2, o3]
    have p1 : ∀ x y z : Int, (part 3 #[.int .i64 x, .int .i64 y, .int .u8 z] 0).run Tryd.prog w = .ok (.int .i64 x) w := fun x y z => by kernel_rfl
    have p2 : ∀ x y z : Int, (part 3 #[.int .i64 x, .int .i64 y, .int .u8 z] 1).run Tryd.prog w = .ok (.int .i64 y) w := fun x y z => by kernel_rfl
    have p3 : ∀ x y z : Int, (part 5 #[.int .i64 x, .int .i64 y, .int .u8 z] 2).run Tryd.prog w = .ok (.int .u8 z) w := fun x y z => by kernel_rfl
    have q : ∀ x y : Int, (Op.equalIn 9999 3 (.int .i64 x) (.int .i64 y)).run Tryd.prog w = .ok (x == y) w := fun x y => run_equalIn_int w 9998 3 .i64 .i64 x y Tryd.underlying3
    have q8 : ∀ x y : Int, (Op.equalIn 9999 5 (.int .u8 x) (.int .u8 y)).run Tryd.prog w = .ok (x == y) w := fun x y => run_equalIn_int w 9998 5 .u8 .u8 x y Tryd.underlying5
    simp only [Sem.run_bind, p1, p2, p3, q, q8, Result.andThen_ok]
    by_cases e1 : a = d
    · subst e1
      by_cases e2 : b = e
      · subst e2
        by_cases e3 : c = f
        · subst e3; simp [p1, p2, p3, q, q8]
        · simp [p1, p2, p3, q, q8, e3]
      · simp [p1, p2, p3, q, q8, e2]
    · simp [e1]

theorem tk_neq (w : World) (a b c d e f : Int) : (binOp .neq 36 (.agg #[.int .i64 a, .int .i64 b, .int .u8 c]) (.agg #[.int .i64 d, .int .i64 e, .int .u8 f])).run Tryd.prog w = .ok (.bool (!(a == d && (b == e && c == f)))) w := by
  rw [run_neq_struct, tk_eq]; rfl
theorem tk_eql (w : World) (a b c d e f : Int) : (binOp .eql 36 (.agg #[.int .i64 a, .int .i64 b, .int .u8 c]) (.agg #[.int .i64 d, .int .i64 e, .int .u8 f])).run Tryd.prog w = .ok (.bool (a == d && (b == e && c == f))) w := by
  rw [run_eql_struct, tk_eq]; rfl

def eqK (l1 l2 : List Tk) : Bool := decide (l1 = l2)
theorem eqK_self (l : List Tk) : eqK l l = true := by simp [eqK]
theorem eqB_self (l : List Int) : eqB l l = true := by simp [eqB]

theorem ktake_step {l1 l2 : List Tk} {k : Nat} (h1 : k < l1.length) (hl : l1.length = l2.length) (ht : l1.take k = l2.take k) :
    (l1.getD k tk0 = l2.getD k tk0 → l1.take (k + 1) = l2.take (k + 1)) ∧ (l1.getD k tk0 ≠ l2.getD k tk0 → l1 ≠ l2) := by
  refine ⟨fun h => ?_, fun h e => h (by rw [e])⟩
  rw [tk_snoc h1, tk_snoc (by omega), ht, h]

theorem lnum_any (w : World) (x : Int) : Calls Tryd.prog 7 #[.int .i64 x] w fun e w' => e = .returned (.int .i64 x) ∧ w' = w := by
  go_enter Tryd.func7, Tryd.ntmps7
  go_wp2
  go_ret
  exact ⟨rfl, rfl⟩

theorem infoTok2 : (Tryd.prog.info? 36).map (·.size) = some 3 := by kernel_rfl

/-- Two more tokens. -/
theorem wpTok2 {w : World} {ops : Array Oper} {rest : List Oper} {o : Oper} {a : Act} {Q : Exit → Act → World → Prop} (hgd : o.guard = none) (s x : Operand)
    (ho : o.op = .call { callee := .builtin .append, args := #[s, x], argTypes := #[22, 22] }) (base : Nat) (v : Value) (R : List Tk) (p1 p2 p3 q1 q2 q3 : Int) (hs : a.eval s = v) (hown : OK w base v R)
    (c : Nat) (hx : a.eval x = .slice (some ⟨w.heap.size, 0, none⟩) 2 c) (hn : R.length ≤ 5864062014800) (hbase : base ≤ w.heap.size)
    (h : ∀ v' w', OK w' base v' (R ++ [(p1, p2, p3), (q1, q2, q3)]) → (w.alloc (.cells #[.int .i64 p1, .int .i64 p2, .int .u8 p3, .int .i64 q1, .int .i64 q2, .int .u8 q3] 36)).grownBy w' v.ownBlock → wpList Tryd.prog ops Q rest (a.put o.dst v') w') :
    wpList Tryd.prog ops Q (o :: rest) a (w.alloc (.cells #[.int .i64 p1, .int .i64 p2, .int .u8 p3, .int .i64 q1, .int .i64 q2, .int .u8 q3] 36)) := by
  obtain ⟨i0, hi0, hz0, hz1, hz2⟩ := info_parts infoTok
  refine wpList_append_own_at _ hgd s x 22 ho base 36 i0 _ 3 24 Tryd.underlying22 hi0 hz0 hz1 hz2 rfl (by omega) v R.length (fr3 R) hs (hown.alloc _) ⟨w.heap.size, 0, none⟩ 2 c [.int .i64 p1, .int .i64 p2, .int .u8 p3, .int .i64 q1, .int .i64 q2, .int .u8 q3] hx rfl (World.news_of_block (cs := #[.int .i64 p1, .int .i64 p2, .int .u8 p3, .int .i64 q1, .int .i64 q2, .int .u8 q3]) (t := 36) (fr := (0, 0)) (heap_alloc_new w _))
    (fun u hu => by
      simp only [List.mem_cons, List.not_mem_nil, or_false] at hu
      rcases hu with rfl | rfl | rfl | rfl | rfl | rfl <;> rfl) (by unfold maxLen; omega) (by omega) (by simp; omega) fun v' w' h1 h2 _ _ => h v' w' ?_ h2
  show World.ownsRow _ _ _ _ _ _ _
  rw [List.length_append, fr3_app]
  exact h1

end Go.Proofs.YthngagciiidppaaDoor

namespace Go.Proofs.YthngagciiidppaaDoor
open Go.ChangeShapes Go.WideShapes Go.ChangeAt Go.RowKit Go.Joins Go.Deep

theorem own : ownKnob Tryd.prog.godebug = none := by kernel_rfl
theorem laidOut : laidOutB Tryd.prog = true := by kernel_rfl
theorem bytesByte : Tryd.prog.bytesOf 5 = 1 := by kernel_rfl

theorem byte_wf {n : Int} (h : (Lit.int .u8 n).wf = true) : 0 ≤ n ∧ n < 256 := by
  simp [Lit.wf, IntKind.min, IntKind.max, IntKind.signed, IntKind.bits] at h
  omega

theorem i64_in {n : Int} (h : (Lit.int .i64 n).wf = true) : -9223372036854775808 ≤ n ∧ n ≤ 9223372036854775807 := by
  simp [Lit.wf, IntKind.min, IntKind.max, IntKind.signed, IntKind.bits] at h
  omega

theorem exists_list {α : Type} (P : Nat → α → Prop) : ∀ n, (∀ i, i < n → ∃ a, P i a) → ∃ l : List α, l.length = n ∧ ∀ i a, l[i]? = some a → P i a
  | 0, _ => ⟨[], rfl, fun i a h => by simp at h⟩
  | n + 1, h => by
    obtain ⟨l, hl, hp⟩ := exists_list P n fun i hi => h i (by omega)
    obtain ⟨a, ha⟩ := h n (by omega)
    refine ⟨l ++ [a], by simp [hl], fun i x hx => ?_⟩
    by_cases hi : i < l.length
    · rw [List.getElem?_append_left hi] at hx
      exact hp i x hx
    · rw [List.getElem?_append_right (by omega)] at hx
      have : i - l.length = 0 := by
        by_cases e : i - l.length = 0
        · exact e
        · rw [List.getElem?_eq_none (by simp; omega)] at hx; cases hx
      rw [this] at hx
      simp at hx
      rw [← hx, show i = n by omega]
      exact ha

theorem u32_in {n : Int} (h : (Lit.int .u32 n).wf = true) : 0 ≤ n ∧ n < 4294967296 := by
  simp [Lit.wf, IntKind.min, IntKind.max, IntKind.signed, IntKind.bits] at h
  omega

theorem below_of_same {f : FuncId} {args : Array Value} {W : World} {r : Ending} (h : Calls Tryd.prog f args W fun e w' => e = r ∧ w' = W) : Calls Tryd.prog f args W fun e w' => e = r ∧ Below W.heap.size W w' :=
  h.mono fun e w' ⟨he, hw⟩ => ⟨he, by rw [hw]; exact Below.refl _ _⟩

end Go.Proofs.YthngagciiidppaaDoor

namespace Go.Proofs.YthngagciiidppaaDoor
open Go.ChangeShapes Go.WideShapes Go.ChangeAt Go.RowKit Go.Joins Go.Deep
set_option maxRecDepth 20000

theorem bytesTok : Tryd.prog.bytesOf 36 = 24 := by kernel_rfl
theorem cellsTok : Tryd.prog.cellsOf 36 = 3 := by kernel_rfl

theorem listc3 {α : Type} {l : List α} (h : l.length = 3) : ∃ a b c, l = [a, b, c] := by
  match l, h with
  | [a, b, c], _ => exact ⟨a, b, c, rfl⟩

theorem open_tok {H : Type} {enc : TypeId × Value → H} {W : World} {n : Nat} {cs : List Value} {y : DataW H × List MemPlace} (h : DataW.trod enc Tryd.prog W 0 (fun _ => true) true n 36 cs = some y) :
    ∃ o : Tk, Bt o ∧ cs = [.int .i64 o.1, .int .i64 o.2.1, .int .u8 o.2.2] := by
  obtain ⟨xs, m, _, rfl, hl, hxl, hf⟩ := DataW.trod_struct Tryd.underlying36 h
  rw [cellsTok] at hl
  obtain ⟨c0, c1, c2, rfl⟩ := listc3 hl
  obtain ⟨y0, y1, y2, rfl⟩ := listc3 hxl
  have h0 : DataW.trod enc Tryd.prog W 0 (fun _ => true) true m 3 (([c0, c1, c2].drop 0).take (Tryd.prog.cellsOf 3)) = some y0 := hf 0 _ rfl
  have h1 : DataW.trod enc Tryd.prog W 0 (fun _ => true) true m 3 (([c0, c1, c2].drop 1).take (Tryd.prog.cellsOf 3)) = some y1 := hf 1 _ rfl
  have h2 : DataW.trod enc Tryd.prog W 0 (fun _ => true) true m 5 (([c0, c1, c2].drop 2).take (Tryd.prog.cellsOf 5)) = some y2 := hf 2 _ rfl
  rw [show Tryd.prog.cellsOf 3 = 1 by kernel_rfl] at h0 h1
  rw [show Tryd.prog.cellsOf 5 = 1 by kernel_rfl] at h2
  simp only [List.drop, List.take] at h0 h1 h2
  obtain ⟨k0, e0, _, _⟩ := DataW.trod_int Tryd.underlying3 h0
  obtain ⟨k1, e1, _, _⟩ := DataW.trod_int Tryd.underlying3 h1
  obtain ⟨k2, e2, _, q2⟩ := DataW.trod_int Tryd.underlying5 h2
  simp at e0 e1 e2
  subst e0 e1 e2
  exact ⟨(k0, k1, k2), byte_wf q2, rfl⟩

/-- A list of tokens that is handed in. -/
theorem open_toks {H : Type} {enc : TypeId × Value → H} {W : World} {ao : Option Addr} {len cap : Nat} {d : DataW H} {ps : List MemPlace}
    (h : DataW.Trod enc Tryd.prog W 0 (fun _ => true) true 22 (.slice ao len cap) d ps) : ∃ R, SK W (.slice ao len cap) R ∧ (∀ t ∈ R, Bt t) ∧ (R = [] ∨ ∃ elems spare, d = .slice elems spare ∧ elems.length = R.length) := by
  obtain ⟨fuel, hf⟩ := h
  rcases open_slice Tryd.underlying22 hf with ⟨hcs, _⟩ | ⟨a, ln, cp, m, n, D, Pl, hcs, _, hl, hm, hmm, hx, hel⟩
  · simp [Value.cells] at hcs
    obtain ⟨rfl, rfl, rfl⟩ := hcs
    exact ⟨[], ⟨none, 0, rfl, Nat.le_refl _, Nat.zero_le _, fun _ => rfl, fun x hx => by cases hx⟩, (fun t ht => by cases ht), .inl rfl⟩
  · simp [Value.cells] at hcs
    obtain ⟨rfl, rfl, rfl⟩ := hcs
    simp only [if_true] at hmm
    obtain ⟨R, hlo, hR⟩ := exists_list (fun i (o : Tk) => Bt o ∧ W.cell? (a.add (i * 3)) = some (.int .i64 o.1) ∧ W.cell? (a.add (i * 3 + 1)) = some (.int .i64 o.2.1) ∧ W.cell? (a.add (i * 3 + 2)) = some (.int .u8 o.2.2)) len (fun i hi => by
      obtain ⟨cs', hc, ht⟩ := hel i (by omega)
      obtain ⟨o, hbo, rfl⟩ := open_tok ht
      rw [cellsTok] at hc
      obtain ⟨_, _, hcell⟩ := World.cells?_some hc
      have hab' : ∃ b' of', a = ⟨b', of', none⟩ := by
        obtain ⟨cs0, hc0, ht0⟩ := hel 0 (by omega)
        rw [cellsTok] at hc0
        obtain ⟨_, hl0, hcell0⟩ := World.cells?_some hc0
        have h0 := hcell0 0 (by omega)
        rw [List.getElem?_eq_getElem (show 0 < cs0.length by omega), show (a.add (0 * 3)).add 0 = a.add 0 by simp [Addr.add]] at h0
        exact addr_lit h0
      obtain ⟨b', of', rfl⟩ := hab'
      have hc' : ∀ j, j < 3 → W.cell? ⟨b', of' + i * 3 + j, none⟩ = [Value.int .i64 o.1, .int .i64 o.2.1, .int .u8 o.2.2][j]? := fun j hj => by
        have := hcell j hj
        rw [Addr.add_lit, Addr.add_lit] at this
        exact this
      exact ⟨o, hbo, by rw [Addr.add_lit]; exact hc' 0 (by omega), by rw [Addr.add_lit]; exact hc' 1 (by omega), by rw [Addr.add_lit]; exact hc' 2 (by omega)⟩)
    simp only [Prod.mk.injEq] at hx
    refine ⟨R, ⟨some a, cap, by rw [hlo], by omega, hm, (fun e => by cases e), fun x hx i hi => ?_⟩, fun t ht => ?_, .inr ⟨_, _, hx.1, by simp [hlo]⟩⟩
    · cases hx
      have := hR i (R.getD i tk0) (by simp [hi])
      exact this.2
    · obtain ⟨i, hi, rfl⟩ := List.getElem_of_mem ht
      exact (hR i _ (by simp [hi])).1

theorem reach_toks {H : Type} {ts : List TypeId} {ds : List (DataW H)} {j : Nat} {R : List Tk} {d : DataW H} (h : (DataW.weightsEach Tryd.prog ts ds).all (· ≤ reachBytes) = true) (ht : ts[j]? = some 22) (hd : ds[j]? = some d)
    (hl : R = [] ∨ ∃ elems spare, d = .slice elems spare ∧ elems.length = R.length) : R.length ≤ 5864062014800 := by
  rcases hl with rfl | ⟨elems, spare, rfl, hl⟩
  · simp
  · have := sized_slice h ht hd Tryd.underlying22
    rw [bytesTok] at this
    simp only [reachBytes] at this
    omega
end Go.Proofs.YthngagciiidppaaDoor

namespace Go.Proofs.YthngagciiidppaaDoor
open Go.RowKit Go.Maps
set_option maxRecDepth 20000
set_option linter.unusedVariables false

theorem eqI_self (l : List Int) : eqI l l = true := by simp [eqI]

end Go.Proofs.YthngagciiidppaaDoor

