import Derived.Test.YtknjblgnjoocbaaDoorGTk
namespace Go.Proofs.YtknjblgnjoocbaaDoor
open Go.RowKit Go.Maps
set_option maxRecDepth 20000
set_option linter.unusedVariables false

end Go.Proofs.YtknjblgnjoocbaaDoor

namespace Go.Proofs.YtknjblgnjoocbaaDoor
open Go.RowKit Go.Maps
set_option maxRecDepth 20000
set_option linter.unusedVariables false

theorem OB.form {w : World} {base : Nat} {v : Value} {l : List Int} (h : OB w base v l) (h0 : 0 < l.length) : ∃ g c, v = .slice (some ⟨g, 0, none⟩) l.length c ∧ l.length ≤ c ∧ c ≤ 9223372036854775807 ∧ ∀ i, i < l.length → w.cell? ⟨g, i, none⟩ = some (.int .u8 (l.getD i 0)) := by
  have hc := @World.ownsRow.cells _ _ _ _ _ _ _ h
  rcases h.2 with ⟨rfl, h1⟩ | ⟨g, cap, cur, rfl, _, _, h3, h4, _, _⟩
  · omega
  · unfold maxLen at h4
    refine ⟨g, cap, rfl, h3, by omega, fun i hi => ?_⟩
    have := hc (g := g) rfl i (.int .u8 (l.getD i 0)) (by simp [hi])
    rwa [Addr.add_lit, Nat.zero_add] at this

theorem OB.top {w : World} {base : Nat} {v : Value} {l : List Int} (h : OB w base v l) : ∃ a c, v = .slice a l.length c ∧ l.length ≤ c ∧ c ≤ 9223372036854775807 := by
  rcases h.2 with ⟨rfl, h0⟩ | ⟨g, cap, cur, rfl, _, _, h3, h4, _⟩
  · exact ⟨none, 0, by rw [h0], by omega, by omega⟩
  · unfold maxLen at h4; exact ⟨_, _, rfl, h3, by omega⟩

end Go.Proofs.YtknjblgnjoocbaaDoor

namespace Go.Proofs.YtknjblgnjoocbaaDoor
open Go.RowKit Go.Maps
set_option maxRecDepth 20000
set_option linter.unusedVariables false

/-- Expand's error and answer. -/
def xE (lim : Int) (R : List Tk) : Int := if lim < 0 ∨ 16777216 < lim then 1 else exE lim [] R
def xL (lim : Int) (R : List Tk) : List Int := if xE lim R = 0 then exT [] R else []

theorem xE_in {lim : Int} {R : List Tk} (h0 : 0 ≤ lim) (h1 : lim ≤ 16777216) : xE lim R = exE lim [] R := by unfold xE; rw [if_neg (by omega)]

theorem xL_bad {lim : Int} {R : List Tk} {e : Int} (h : xE lim R = e) (he : e ≠ 0) : xL lim R = [] := by unfold xL; rw [if_neg (by omega)]

theorem ext_le {lim : Int} {R : List Tk} (h : exE lim [] R = 0) (h0 : 0 ≤ lim) : ∀ k, k ≤ R.length → ((exT [] (R.take k)).length : Int) ≤ lim := by
  intro k
  induction k with
  | zero => intro _; simpa [exT] using h0
  | succ k ih =>
    intro hk
    obtain ⟨h1, h2⟩ := means_at h (k := k) (by omega)
    obtain ⟨s1, s2, s3⟩ := stE_zero h2
    rw [ext_at (by omega), ptk_len s1]
    omega

end Go.Proofs.YtknjblgnjoocbaaDoor

namespace Go.Proofs.YtknjblgnjoocbaaDoor
open Go.RowKit Go.Maps
set_option maxRecDepth 20000
set_option linter.unusedVariables false

/-- A block that an append onto another leaves alone. -/
theorem Grew.keep {wr w3 : World} {u v3 : Value} {o : Obj} (hg : Grew (wr.alloc o) w3 u v3) {g : Nat} (hz : g < wr.heap.size) (hn : u.ownBlock ≠ some g) : w3.heap[g]? = wr.heap[g]? ∧ g < w3.heap.size ∧ v3.ownBlock ≠ some g := by
  refine ⟨(hg.by.block _ (by simp; omega) (fun q => hn q.symm)).trans (Below.heap_alloc wr _ _ hz), ?_, fun q => ?_⟩
  · have := hg.by.size
    simp at this
    omega
  · rcases hg.at with e | e
    · rw [e] at q; simp at q; omega
    · rw [e] at q; exact hn q

theorem cell_keep {w w' : World} {g i : Nat} {u : Value} (h : w'.heap[g]? = w.heap[g]?) (hc : w.cell? ⟨g, i, none⟩ = some u) : w'.cell? ⟨g, i, none⟩ = some u := by
  unfold World.cell? at hc ⊢
  simp only at hc ⊢
  rw [h]
  exact hc

end Go.Proofs.YtknjblgnjoocbaaDoor

namespace Go.Proofs.YtknjblgnjoocbaaDoor
open Go.RowKit Go.Maps
set_option maxRecDepth 20000
set_option linter.unusedVariables false
set_option linter.unusedSimpArgs false

theorem list3 {α : Type} {l : List α} (h : l.length = 3) : ∃ a b c, l = [a, b, c] := by
  match l, h with
  | [a, b, c], _ => exact ⟨a, b, c, rfl⟩

theorem tok_st : Tryd.prog.underlying 34 = some (.struct (Tryd.prog.fieldsOf 34)) := by kernel_rfl
theorem tok_held : Tryd.prog.stoodInHeld 34 = false := by kernel_rfl
theorem tok_guard : Tryd.prog.eqGuardType Tryd.prog.depth 34 = false := by kernel_rfl
theorem tok_fields : (Tryd.prog.fieldsOf 34).toList.map (fun f => (decide (f.name ≠ "_"), f.type, f.offset)) = [(true, 3, 0), (true, 3, 1), (true, 5, 2)] := by kernel_rfl

theorem tk_eq (w : World) (a b c d e f : Int) : (Op.equalIn 10000 34 (.agg #[.int .i64 a, .int .i64 b, .int .u8 c]) (.agg #[.int .i64 d, .int .i64 e, .int .u8 f])).run Tryd.prog w = .ok (a == d && (b == e && c == f)) w := by
  rw [run_equalIn_struct w 9999 34 _ _ tok_st tok_held]
  have hf := tok_fields
  obtain ⟨f1, f2, f3, hfg⟩ := list3 (l := (Tryd.prog.fieldsOf 34).toList) (by have := congrArg List.length hf; simpa using this)
  rw [hfg] at hf ⊢
  · simp only [List.map_cons, List.map_nil, List.cons.injEq, Prod.mk.injEq, decide_eq_true_eq, and_true] at hf
    obtain ⟨⟨n1, t1, o1⟩, ⟨n2, t2, o2⟩, n3, t3, o3⟩ := hf
    simp only [Op.eqFields, if_pos n1, if_pos n2, if_pos n3, t1, t2, t3, o1, o2, o3]
    have p1 : ∀ x y z : Int, (part 3 #[.int .i64 x, .int .i64 y, .int .u8 z] 0).run Tryd.prog w = .ok (.int .i64 x) w := fun x y z => by kernel_rfl
    have p2 : ∀ x y z : Int, (part 3 #[.int .i64 x, .int .i64 y, .int .u8 z] 1).run Tryd.prog w = .ok (.int .i64 y) w := fun x y z => by kernel_rfl
    have p3 : ∀ x y z : Int, (part 5 #[.int .i64 x, .int .i64 y, .int .u8 z] 2).run Tryd.prog w = .ok (.int .u8 z) w := fun x y z => by kernel_rfl
    have q : ∀ x y : Int, (Op.equalIn 9999 3 (.int .i64 x) (.int .i64 y)).run Tryd.prog w = .ok (x == y) w := fun x y => run_equalIn_int w 9998 3 .i64 .i64 x y Tryd.underlying3
    have q8 : ∀ x y : Int, (Op.equalIn 9999 5 (.int .u8 x) (.int .u8 y)).run Tryd.prog w = .ok (x == y) w := fun x y => run_equalIn_int w 9998 5 .u8 .u8 x y Tryd.underlying5
    simp only [Sem.run_bind, p1, p2, p3, q, q8, Result.andThen_ok]
    by_cases e1 : a = d
    · subst e1
      by_cases e2 : b = e
      · subst e2
        by_cases e3 : c = f
        · subst e3; simp [p1, p2, p3, q, q8]
        · simp [p1, p2, p3, q, q8, e3]
      · simp [p1, p2, p3, q, q8, e2]
    · simp [e1]

theorem tk_neq (w : World) (a b c d e f : Int) : (binOp .neq 34 (.agg #[.int .i64 a, .int .i64 b, .int .u8 c]) (.agg #[.int .i64 d, .int .i64 e, .int .u8 f])).run Tryd.prog w = .ok (.bool (!(a == d && (b == e && c == f)))) w := by
  rw [run_neq_struct, tk_eq]; rfl
theorem tk_eql (w : World) (a b c d e f : Int) : (binOp .eql 34 (.agg #[.int .i64 a, .int .i64 b, .int .u8 c]) (.agg #[.int .i64 d, .int .i64 e, .int .u8 f])).run Tryd.prog w = .ok (.bool (a == d && (b == e && c == f))) w := by
  rw [run_eql_struct, tk_eq]; rfl

def eqK (l1 l2 : List Tk) : Bool := decide (l1 = l2)
theorem eqK_self (l : List Tk) : eqK l l = true := by simp [eqK]
theorem eqB_self (l : List Int) : eqB l l = true := by simp [eqB]

theorem ktake_step {l1 l2 : List Tk} {k : Nat} (h1 : k < l1.length) (hl : l1.length = l2.length) (ht : l1.take k = l2.take k) :
    (l1.getD k tk0 = l2.getD k tk0 → l1.take (k + 1) = l2.take (k + 1)) ∧ (l1.getD k tk0 ≠ l2.getD k tk0 → l1 ≠ l2) := by
  refine ⟨fun h => ?_, fun h e => h (by rw [e])⟩
  rw [tk_snoc h1, tk_snoc (by omega), ht, h]

theorem infoTok2 : (Tryd.prog.info? 34).map (·.size) = some 3 := by kernel_rfl

end Go.Proofs.YtknjblgnjoocbaaDoor

