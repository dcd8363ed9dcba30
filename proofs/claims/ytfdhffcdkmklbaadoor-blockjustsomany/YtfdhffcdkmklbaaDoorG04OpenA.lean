import Derived.Test.YtfdhffcdkmklbaaDoorG00Tkw
import Derived.Lib.SmallJoins
import Derived.Deep.Slices
namespace Go.Proofs.YtfdhffcdkmklbaaDoor
open Go.RowKit Go.Maps
set_option maxRecDepth 20000
set_option linter.unusedVariables false

end Go.Proofs.YtfdhffcdkmklbaaDoor

namespace Go.Proofs.YtfdhffcdkmklbaaDoor
open Go.RowKit Go.Maps
set_option maxRecDepth 20000
set_option linter.unusedVariables false

theorem OB.form {w : World} {base : Nat} {v : Value} {l : List Int} (h : OB w base v l) (h0 : 0 < l.length) : ∃ g c, v = .slice (some ⟨g, 0, none⟩) l.length c ∧ l.length ≤ c ∧ c ≤ 9223372036854775807 ∧ ∀ i, i < l.length → w.cell? ⟨g, i, none⟩ = some (.int .u8 (l.getD i 0)) := by
  have hc := @World.ownsRow.cells _ _ _ _ _ _ _ h
  rcases h.2 with ⟨rfl, h1⟩ | ⟨g, cap, cur, rfl, _, _, h3, h4, _, _⟩
  · omega
  · unfold maxLen at h4
    refine ⟨g, cap, rfl, h3, by omega, fun i hi => ?_⟩
    have := hc (g := g) rfl i (.int .u8 (l.getD i 0)) (by simp [hi])
    rwa [Addr.add_lit, Nat.zero_add] at this

theorem OB.top {w : World} {base : Nat} {v : Value} {l : List Int} (h : OB w base v l) : ∃ a c, v = .slice a l.length c ∧ l.length ≤ c ∧ c ≤ 9223372036854775807 := by
  rcases h.2 with ⟨rfl, h0⟩ | ⟨g, cap, cur, rfl, _, _, h3, h4, _⟩
  · exact ⟨none, 0, by rw [h0], by omega, by omega⟩
  · unfold maxLen at h4; exact ⟨_, _, rfl, h3, by omega⟩

end Go.Proofs.YtfdhffcdkmklbaaDoor

namespace Go.Proofs.YtfdhffcdkmklbaaDoor
open Go.RowKit Go.Maps
set_option maxRecDepth 20000
set_option linter.unusedVariables false

/-- Expand's error and answer. -/
def xE (lim : Int) (R : List Tk) : Int := if lim < 0 ∨ 16777216 < lim then 1 else exE lim [] R
def xL (lim : Int) (R : List Tk) : List Int := if xE lim R = 0 then exT [] R else []

theorem xE_in {lim : Int} {R : List Tk} (h0 : 0 ≤ lim) (h1 : lim ≤ 16777216) : xE lim R = exE lim [] R := by unfold xE; rw [if_neg (by omega)]

theorem xL_bad {lim : Int} {R : List Tk} {e : Int} (h : xE lim R = e) (he : e ≠ 0) : xL lim R = [] := by unfold xL; rw [if_neg (by omega)]

theorem ext_le {lim : Int} {R : List Tk} (h : exE lim [] R = 0) (h0 : 0 ≤ lim) : ∀ k, k ≤ R.length → ((exT [] (R.take k)).length : Int) ≤ lim := by
  intro k
  induction k with
  | zero => intro _; simpa [exT] using h0
  | succ k ih =>
    intro hk
    obtain ⟨h1, h2⟩ := means_at h (k := k) (by omega)
    obtain ⟨s1, s2, s3⟩ := stE_zero h2
    rw [ext_at (by omega), ptk_len s1]
    omega

end Go.Proofs.YtfdhffcdkmklbaaDoor

namespace Go.Proofs.YtfdhffcdkmklbaaDoor
open Go.RowKit Go.Maps
set_option maxRecDepth 20000
set_option linter.unusedVariables false

/-- A block that an append onto another leaves alone. -/
theorem Grew.keep {wr w3 : World} {u v3 : Value} {o : Obj} (hg : Grew (wr.alloc o) w3 u v3) {g : Nat} (hz : g < wr.heap.size) (hn : u.ownBlock ≠ some g) : w3.heap[g]? = wr.heap[g]? ∧ g < w3.heap.size ∧ v3.ownBlock ≠ some g := by
  refine ⟨(hg.by.block _ (by simp; omega) (fun q => hn q.symm)).trans (Below.heap_alloc wr _ _ hz), ?_, fun q => ?_⟩
  · have := hg.by.size
    simp at this
    omega
  · rcases hg.at with e | e
    · rw [e] at q; simp at q; omega
    · rw [e] at q; exact hn q

theorem cell_keep {w w' : World} {g i : Nat} {u : Value} (h : w'.heap[g]? = w.heap[g]?) (hc : w.cell? ⟨g, i, none⟩ = some u) : w'.cell? ⟨g, i, none⟩ = some u := by
  unfold World.cell? at hc ⊢
  simp only at hc ⊢
  rw [h]
  exact hc

end Go.Proofs.YtfdhffcdkmklbaaDoor

namespace Go.Proofs.YtfdhffcdkmklbaaDoor
open Go.RowKit Go.Maps
set_option maxRecDepth 20000
set_option linter.unusedVariables false
set_option linter.unusedSimpArgs false

theorem list3 {α : Type} {l : List α} (h : l.length = 3) : ∃ a b c, l = [a, b, c] := by
  match l, h with
  | [a, b, c], _ => exact ⟨a, b, c, rfl⟩

theorem tok_st : Tryd.prog.underlying 65 = some (.struct (Tryd.prog.fieldsOf 65)) := by kernel_rfl
theorem tok_held : Tryd.prog.stoodInHeld 65 = false := by kernel_rfl
theorem tok_guard : Tryd.prog.eqGuardType Tryd.prog.depth 65 = false := by kernel_rfl
theorem tok_fields : (Tryd.prog.fieldsOf 65).toList.map (fun f => (decide (f.name ≠ "_"), f.type, f.offset)) = [(true, 3, 0), (true, 3, 1), (true, 5, 2)] := by kernel_rfl

theorem tk_eq (w : World) (a b c d e f : Int) : (Op.equalIn 10000 65 (.agg #[.int .i64 a, .int .i64 b, .int .u8 c]) (.agg #[.int .i64 d, .int .i64 e, .int .u8 f])).run Tryd.prog w = .ok (a == d && (b == e && c == f)) w := by
  rw [run_equalIn_struct w 9999 65 _ _ tok_st tok_held]
  have hf := tok_fields
  obtain ⟨f1, f2, f3, hfg⟩ := list3 (l := (Tryd.prog.fieldsOf 65).toList) (by have := congrArg List.length hf; simpa using this)
  rw [hfg] at hf ⊢
  · simp only [List.map_cons, List.map_nil, List.cons.injEq, Prod.mk.injEq, decide_eq_true_eq, and_true] at hf
    obtain ⟨⟨n1, t1, o1⟩, ⟨n2, t2, o2⟩, n3, t3, o3⟩ := hf
    simp only [Op.eqFields, if_pos n1, if_pos n2, if_pos n3, t1, t2, t3, o1, o2, o3]
    have p1 : ∀ x y z : Int, (part 3 #[.int .i64 x, .int .i64 y, .int .u8 z] 0).run Tryd.prog w = .ok (.int .i64 x) w := fun x y z => by kernel_rfl
    have p2 : ∀ x y z : Int, (part 3 #[.int .i64 x, .int .i64 y, .int .u8 z] 1).run Tryd.prog w = .ok (.int .i64 y) w := fun x y z => by kernel_rfl
    have p3 : ∀ x y z : Int, (part 5 #[.int .i64 x, .int .i64 y, .int .u8 z] 2).run Tryd.prog w = .ok (.int .u8 z) w := fun x y z => by kernel_rfl
    have q : ∀ x y : Int, (Op.equalIn 9999 3 (.int .i64 x) (.int .i64 y)).run Tryd.prog w = .ok (x == y) w := fun x y => run_equalIn_int w 9998 3 .i64 .i64 x y Tryd.underlying3
    have q8 : ∀ x y : Int, (Op.equalIn 9999 5 (.int .u8 x) (.int .u8 y)).run Tryd.prog w = .ok (x == y) w := fun x y => run_equalIn_int w 9998 5 .u8 .u8 x y Tryd.underlying5
    simp only [Sem.run_bind, p1, p2, p3, q, q8, Result.andThen_ok]
    by_cases e1 : a = d
    · subst e1
      by_cases e2 : b = e
      · subst e2
        by_cases e3 : c = f
        · subst e3; simp [p1, p2, p3, q, q8]
        · simp [p1, p2, p3, q, q8, e3]
      · simp [p1, p2, p3, q, q8, e2]
    · simp [e1]

theorem tk_neq (w : World) (a b c d e f : Int) : (binOp .neq 65 (.agg #[.int .i64 a, .int .i64 b, .int .u8 c]) (.agg #[.int .i64 d, .int .i64 e, .int .u8 f])).run Tryd.prog w = .ok (.bool (!(a == d && (b == e && c == f)))) w := by
  rw [run_neq_struct, tk_eq]; rfl
theorem tk_eql (w : World) (a b c d e f : Int) : (binOp .eql 65 (.agg #[.int .i64 a, .int .i64 b, .int .u8 c]) (.agg #[.int .i64 d, .int .i64 e, .int .u8 f])).run Tryd.prog w = .ok (.bool (a == d && (b == e && c == f))) w := by
  rw [run_eql_struct, tk_eq]; rfl

def eqK (l1 l2 : List Tk) : Bool := decide (l1 = l2)
theorem eqK_self (l : List Tk) : eqK l l = true := by simp [eqK]
theorem eqB_self (l : List Int) : eqB l l = true := by simp [eqB]

theorem ktake_step {l1 l2 : List Tk} {k : Nat} (h1 : k < l1.length) (hl : l1.length = l2.length) (ht : l1.take k = l2.take k) :
    (l1.getD k tk0 = l2.getD k tk0 → l1.take (k + 1) = l2.take (k + 1)) ∧ (l1.getD k tk0 ≠ l2.getD k tk0 → l1 ≠ l2) := by
  refine ⟨fun h => ?_, fun h e => h (by rw [e])⟩
  rw [tk_snoc h1, tk_snoc (by omega), ht, h]

theorem lnum_any (w : World) (x : Int) : Calls Tryd.prog 10 #[.int .i64 x] w fun e w' => e = .returned (.int .i64 x) ∧ w' = w := by
  go_enter Tryd.func10, Tryd.ntmps10
  go_wp2
  go_ret
  exact ⟨rfl, rfl⟩

theorem infoTok2 : (Tryd.prog.info? 65).map (·.size) = some 3 := by kernel_rfl

/-- Two more tokens. -/
theorem wpTok2 {w : World} {ops : Array Oper} {rest : List Oper} {o : Oper} {a : Act} {Q : Exit → Act → World → Prop} (hgd : o.guard = none) (s x : Operand)
    (ho : o.op = .call { callee := .builtin .append, args := #[s, x], argTypes := #[23, 23] }) (base : Nat) (v : Value) (R : List Tk) (p1 p2 p3 q1 q2 q3 : Int) (hs : a.eval s = v) (hown : OK w base v R)
    (c : Nat) (hx : a.eval x = .slice (some ⟨w.heap.size, 0, none⟩) 2 c) (hn : R.length ≤ 5864062014800) (hbase : base ≤ w.heap.size)
    (h : ∀ v' w', OK w' base v' (R ++ [(p1, p2, p3), (q1, q2, q3)]) → (w.alloc (.cells #[.int .i64 p1, .int .i64 p2, .int .u8 p3, .int .i64 q1, .int .i64 q2, .int .u8 q3] 65)).grownBy w' v.ownBlock → wpList Tryd.prog ops Q rest (a.put o.dst v') w') :
    wpList Tryd.prog ops Q (o :: rest) a (w.alloc (.cells #[.int .i64 p1, .int .i64 p2, .int .u8 p3, .int .i64 q1, .int .i64 q2, .int .u8 q3] 65)) := by
  obtain ⟨i0, hi0, hz0, hz1, hz2⟩ := info_parts infoTok
  refine wpList_append_own_at _ hgd s x 23 ho base 65 i0 _ 3 24 Tryd.underlying23 hi0 hz0 hz1 hz2 rfl (by omega) v R.length (fr3 R) hs (hown.alloc _) ⟨w.heap.size, 0, none⟩ 2 c [.int .i64 p1, .int .i64 p2, .int .u8 p3, .int .i64 q1, .int .i64 q2, .int .u8 q3] hx rfl (World.news_of_block (cs := #[.int .i64 p1, .int .i64 p2, .int .u8 p3, .int .i64 q1, .int .i64 q2, .int .u8 q3]) (t := 65) (fr := (0, 0)) (heap_alloc_new w _))
    (fun u hu => by
      simp only [List.mem_cons, List.not_mem_nil, or_false] at hu
      rcases hu with rfl | rfl | rfl | rfl | rfl | rfl <;> rfl) (by unfold maxLen; omega) (by omega) (by simp; omega) fun v' w' h1 h2 _ _ => h v' w' ?_ h2
  show World.ownsRow _ _ _ _ _ _ _
  rw [List.length_append, fr3_app]
  exact h1

end Go.Proofs.YtfdhffcdkmklbaaDoor

namespace Go.Proofs.YtfdhffcdkmklbaaDoor
open Go.ChangeShapes Go.WideShapes Go.ChangeAt Go.RowKit Go.Joins Go.Deep

theorem own : ownKnob Tryd.prog.godebug = none := by kernel_rfl
theorem laidOut : laidOutB Tryd.prog = true := by kernel_rfl
theorem bytesByte : Tryd.prog.bytesOf 5 = 1 := by kernel_rfl

theorem byte_wf {n : Int} (h : (Lit.int .u8 n).wf = true) : 0 ≤ n ∧ n < 256 := by
  simp [Lit.wf, IntKind.min, IntKind.max, IntKind.signed, IntKind.bits] at h
  omega

theorem i64_in {n : Int} (h : (Lit.int .i64 n).wf = true) : -9223372036854775808 ≤ n ∧ n ≤ 9223372036854775807 := by
  simp [Lit.wf, IntKind.min, IntKind.max, IntKind.signed, IntKind.bits] at h
  omega

theorem open_bytes {H : Type} {enc : TypeId × Value → H} {W : World} {ao : Option Addr} {len cap : Nat} {d : DataW H} {ps : List MemPlace}
    (h : DataW.Trod enc Tryd.prog W 0 (fun _ => true) true 24 (.slice ao len cap) d ps) :
    ∃ l, SB W (.slice ao len cap) l ∧ Byt l ∧ (l = [] ∨ ∃ elems spare, d = .slice elems spare ∧ l.length ≤ elems.length + spare.length) := by
  obtain ⟨fuel, hf⟩ := h
  rcases open_ints Tryd.underlying24 Tryd.underlying5 (by kernel_rfl) hf with ⟨hcs, _⟩ | ⟨x, ll, c, zs, hcs, _, hl, hm, hz, hx, hcell, hwz⟩
  · simp [Value.cells] at hcs
    obtain ⟨rfl, rfl, rfl⟩ := hcs
    exact ⟨[], ⟨none, 0, rfl, Nat.le_refl _, Nat.zero_le _, fun _ => rfl, fun x hx => by cases hx⟩, (fun i => by simp), .inl rfl⟩
  · simp [Value.cells] at hcs
    obtain ⟨rfl, rfl, rfl⟩ := hcs
    simp only [if_true] at hz
    have e : (zs.take len).length = len := by rw [List.length_take]; omega
    simp only [Prod.mk.injEq] at hx
    have hbz : Byt zs := by
      intro i
      by_cases hi : i < zs.length
      · have : zs.getD i 0 = zs[i] := by simp [hi]
        rw [this]
        exact byte_wf (hwz _ (List.getElem_mem hi))
      · have : zs.getD i 0 = 0 := by simp [hi]
        rw [this]; decide
    refine ⟨zs.take len, ⟨some x, cap, by rw [e], by omega, hm, (fun h => by cases h), fun y hy i hi => ?_⟩, byt_take hbz _, .inr ⟨_, _, hx.1, ?_⟩⟩
    · cases hy
      rw [e] at hi
      rw [hcell i (by omega)]
      simp [List.getD, hi]
    · simp [lits]

theorem reach_bytes {H : Type} {ts : List TypeId} {ds : List (DataW H)} {j : Nat} {l : List Int} {d : DataW H} (h : (DataW.weightsEach Tryd.prog ts ds).all (· ≤ reachBytes) = true) (ht : ts[j]? = some 24) (hd : ds[j]? = some d)
    (hl : l = [] ∨ ∃ elems spare, d = .slice elems spare ∧ l.length ≤ elems.length + spare.length) : l.length ≤ 140737488351232 := by
  rcases hl with rfl | ⟨elems, spare, rfl, hl⟩
  · simp
  · have := sized_slice h ht hd Tryd.underlying24
    rw [bytesByte] at this
    simp only [reachBytes] at this
    omega

theorem exists_list {α : Type} (P : Nat → α → Prop) : ∀ n, (∀ i, i < n → ∃ a, P i a) → ∃ l : List α, l.length = n ∧ ∀ i a, l[i]? = some a → P i a
  | 0, _ => ⟨[], rfl, fun i a h => by simp at h⟩
  | n + 1, h => by
    obtain ⟨l, hl, hp⟩ := exists_list P n fun i hi => h i (by omega)
    obtain ⟨a, ha⟩ := h n (by omega)
    refine ⟨l ++ [a], by simp [hl], fun i x hx => ?_⟩
    by_cases hi : i < l.length
    · rw [List.getElem?_append_left hi] at hx
      exact hp i x hx
    · rw [List.getElem?_append_right (by omega)] at hx
      have : i - l.length = 0 := by
        by_cases e : i - l.length = 0
        · exact e
        · rw [List.getElem?_eq_none (by simp; omega)] at hx; cases hx
      rw [this] at hx
      simp at hx
      rw [← hx, show i = n by omega]
      exact ha

theorem u32_in {n : Int} (h : (Lit.int .u32 n).wf = true) : 0 ≤ n ∧ n < 4294967296 := by
  simp [Lit.wf, IntKind.min, IntKind.max, IntKind.signed, IntKind.bits] at h
  omega

theorem below_of_same {f : FuncId} {args : Array Value} {W : World} {r : Ending} (h : Calls Tryd.prog f args W fun e w' => e = r ∧ w' = W) : Calls Tryd.prog f args W fun e w' => e = r ∧ Below W.heap.size W w' :=
  h.mono fun e w' ⟨he, hw⟩ => ⟨he, by rw [hw]; exact Below.refl _ _⟩

end Go.Proofs.YtfdhffcdkmklbaaDoor

