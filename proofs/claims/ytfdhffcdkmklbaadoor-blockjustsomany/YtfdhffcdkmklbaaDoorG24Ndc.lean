import Derived.Test.YtfdhffcdkmklbaaDoorG23Drr
import Derived.Deep.RegionLaw
namespace Go.Proofs.YtfdhffcdkmklbaaDoor
open Go.RowKit Go.Maps
set_option maxRecDepth 20000

theorem wpList_loadB {ops : Array Oper} {rest : List Oper} {a : Act} {w : World} {Q : Exit → Act → World → Prop} {dst : Option Tmp} {x : Operand} {ty : TypeId} {pos : String} {after : Array Edge} (g : Nat) (vl vw : Value)
    (hx : a.eval x = .pointer (some ⟨g, 0, none⟩)) (hg : w.heap[g]? = some (.cells #[vl, vw] 101 (0, 0))) (h : wpList Tryd.prog ops Q rest (a.put dst (.agg #[vl, vw])) w) :
    wpList Tryd.prog ops Q ({ dst := dst, op := .load 101 x, type := ty, pos := pos, after := after, guard := none } :: rest) a w :=
  wpList_load_row rfl 101 x rfl g hx 101 #[vl, vw] (0, 0) _ hg Tryd.underlying101 rfl (by kernel_rfl) h

theorem step_loadP {ops : Array Oper} {o : Oper} {a : Act} {w : World} {K : Act → World → Prop} {Q : Exit → Act → World → Prop} {E : Prop} (hgd : o.guard = none) (x : Operand) (ho : o.op = .load 127 x) (g : Nat) (f : Nat → Int)
    (hx : a.eval x = .pointer (some ⟨g, 0, none⟩)) (hg : w.heap[g]? = some (.cells (av f) 127 (0, 0))) (h : K (a.put o.dst (.agg (av f))) w) :
    if Region.wanted o (yielded ops a.tmps) = true then Oper.wp Tryd.prog o a w K Q else E := by
  have hw : Region.wanted o (yielded ops a.tmps) = true := by simp [Region.wanted, hgd]
  rw [if_pos hw]
  exact wp_load_row 127 x ho g hx 127 (av f) (0, 0) _ hg Tryd.underlying127 rfl (sizePer f) h

theorem step_call1 {P : Program} {ops : Array Oper} {o : Oper} {a : Act} {w : World} {K : Act → World → Prop} {Q : Exit → Act → World → Prop} {E : Prop} (hgd : o.guard = none) (x0 : Operand) (t0 : TypeId) (f : FuncId)
    (ho : o.op = .call { callee := .value (.func f), args := #[x0], argTypes := #[t0] }) (hcall : ∀ args w, (callFunc f args).run P w = .ok (.enter f args) w) (v0 : Value) (h0 : a.eval x0 = v0) {R : Value → World → Prop}
    (hc : Calls P f #[v0] w fun e w' => ∃ u, e = .returned u ∧ R u w') (h : ∀ v w', R v w' → K (a.put o.dst v) w') :
    if Region.wanted o (yielded ops a.tmps) = true then Oper.wp P o a w K Q else E := by
  have hw : Region.wanted o (yielded ops a.tmps) = true := by simp [Region.wanted, hgd]
  rw [if_pos hw]
  have hrun : (execOp a.eval o).run P w = .ok (.enter f #[v0]) w := by
    obtain ⟨dst, op, type, pos, after, guard⟩ := o
    simp only [] at ho
    subst ho
    rw [execOp_call_go, hcall]
    simp [h0]
  unfold Oper.wp
  rw [hrun, Oper.upon_enter]
  refine hc.mono fun e w'' hh => ?_
  obtain ⟨v, rfl, hr⟩ := hh
  exact h _ _ hr

theorem step_call3 {P : Program} {ops : Array Oper} {o : Oper} {a : Act} {w : World} {K : Act → World → Prop} {Q : Exit → Act → World → Prop} {E : Prop} (hgd : o.guard = none) (x y z : Operand) (t u s : TypeId) (f : FuncId)
    (ho : o.op = .call { callee := .value (.func f), args := #[x, y, z], argTypes := #[t, u, s] }) (hcall : ∀ args w, (callFunc f args).run P w = .ok (.enter f args) w) (v1 v2 v3 : Value) (hx : a.eval x = v1) (hy : a.eval y = v2) (hz : a.eval z = v3) {R : Value → World → Prop}
    (hc : Calls P f #[v1, v2, v3] w fun e w' => ∃ u, e = .returned u ∧ R u w') (h : ∀ v w', R v w' → K (a.put o.dst v) w') :
    if Region.wanted o (yielded ops a.tmps) = true then Oper.wp P o a w K Q else E := by
  have hw : Region.wanted o (yielded ops a.tmps) = true := by simp [Region.wanted, hgd]
  rw [if_pos hw]
  have hrun : (execOp a.eval o).run P w = .ok (.enter f #[v1, v2, v3]) w := by
    obtain ⟨dst, op, type, pos, after, guard⟩ := o
    simp only [] at ho
    subst ho
    rw [execOp_call_go, hcall]
    simp [hx, hy, hz]
  unfold Oper.wp
  rw [hrun, Oper.upon_enter]
  refine hc.mono fun e w'' hh => ?_
  obtain ⟨v, rfl, hr⟩ := hh
  exact h _ _ hr

def dcE (l : List Int) : Int := if bkE l ≠ 0 then bkE l else if shp l = 0 then 53 else 0

theorem dv_new (vl vw : Value) : dv vl vw (.slice none 0 0) (fun _ => 0) (fun _ => 0) = #[vl, vw, .slice none 0 0, .int .i64 0, .int .i64 0, .int .i64 0, .int .i64 0, .int .i64 0, .int .i64 0, .int .i64 0, .int .i64 0, .int .i64 0, .int .i64 0, .int .i64 0, .int .i64 0, .int .i64 0, .int .i64 0, .int .i64 0, .int .i64 0, .int .i64 0, .int .i64 0, .int .i64 0, .int .i64 0, .int .i64 0, .int .i64 0, .int .i64 0, .int .i64 0, .int .i64 0, .int .i64 0, .int .i64 0, .int .i64 0, .int .i64 0, .int .i64 0, .int .i64 0, .int .i64 0] := by
  simp [dv, av_zero]

end Go.Proofs.YtfdhffcdkmklbaaDoor

