import Derived.Test.YtiabhmdefaabgacGreatDoorGBk
import Derived.Deep.RegionLaw
import Derived.Test.YtiabhmdefaabgacGreatDoorG3b
namespace Go.Proofs.YtiabhmdefaabgacGreatDoor
open Go.RowKit Go.Maps
set_option maxRecDepth 20000

theorem wpList_loadB {ops : Array Oper} {rest : List Oper} {a : Act} {w : World} {Q : Exit → Act → World → Prop} {dst : Option Tmp} {x : Operand} {ty : TypeId} {pos : String} {after : Array Edge} (g : Nat) (vl vw : Value)
    (hx : a.eval x = .pointer (some ⟨g, 0, none⟩)) (hg : w.heap[g]? = some (.cells #[vl, vw] 104 (0, 0))) (h : wpList Tryz.prog ops Q rest (a.put dst (.agg #[vl, vw])) w) :
    wpList Tryz.prog ops Q ({ dst := dst, op := .load 104 x, type := ty, pos := pos, after := after, guard := none } :: rest) a w :=
  wpList_load_row rfl 104 x rfl g hx 104 #[vl, vw] (0, 0) _ hg Tryz.underlying104 rfl (by kernel_rfl) h

theorem step_loadP {ops : Array Oper} {o : Oper} {a : Act} {w : World} {K : Act → World → Prop} {Q : Exit → Act → World → Prop} {E : Prop} (hgd : o.guard = none) (x : Operand) (ho : o.op = .load 126 x) (g : Nat) (f : Nat → Int)
    (hx : a.eval x = .pointer (some ⟨g, 0, none⟩)) (hg : w.heap[g]? = some (.cells (av f) 126 (0, 0))) (h : K (a.put o.dst (.agg (av f))) w) :
    if Region.wanted o (yielded ops a.tmps) = true then Oper.wp Tryz.prog o a w K Q else E := by
  have hw : Region.wanted o (yielded ops a.tmps) = true := by simp [Region.wanted, hgd]
  rw [if_pos hw]
  exact wp_load_row 126 x ho g hx 126 (av f) (0, 0) _ hg Tryz.underlying126 rfl (sizePer f) h

theorem step_call1 {P : Program} {ops : Array Oper} {o : Oper} {a : Act} {w : World} {K : Act → World → Prop} {Q : Exit → Act → World → Prop} {E : Prop} (hgd : o.guard = none) (x0 : Operand) (t0 : TypeId) (f : FuncId)
    (ho : o.op = .call { callee := .value (.func f), args := #[x0], argTypes := #[t0] }) (hcall : ∀ args w, (callFunc f args).run P w = .ok (.enter f args) w) (v0 : Value) (h0 : a.eval x0 = v0) {R : Value → World → Prop}
    (hc : Calls P f #[v0] w fun e w' => ∃ u, e = .returned u ∧ R u w') (h : ∀ v w', R v w' → K (a.put o.dst v) w') :
    if Region.wanted o (yielded ops a.tmps) = true then Oper.wp P o a w K Q else E := by
  have hw : Region.wanted o (yielded ops a.tmps) = true := by simp [Region.wanted, hgd]
  rw [if_pos hw]
  have hrun : (execOp a.eval o).run P w = .ok (.enter f #[v0]) w := by
    obtain ⟨dst, op, type, pos, after, guard⟩ := o
    simp only [] at ho
    subst ho
    rw [execOp_call_go, hcall]
    simp [h0]
  unfold Oper.wp
  rw [hrun, Oper.upon_enter]
  refine hc.mono fun e w'' hh => ?_
  obtain ⟨v, rfl, hr⟩ := hh
  exact h _ _ hr

theorem step_call3 {P : Program} {ops : Array Oper} {o : Oper} {a : Act} {w : World} {K : Act → World → Prop} {Q : Exit → Act → World → Prop} {E : Prop} (hgd : o.guard = none) (x y z : Operand) (t u s : TypeId) (f : FuncId)
    (ho : o.op = .call { callee := .value (.func f), args := #[x, y, z], argTypes := #[t, u, s] }) (hcall : ∀ args w, (callFunc f args).run P w = .ok (.enter f args) w) (v1 v2 v3 : Value) (hx : a.eval x = v1) (hy : a.eval y = v2) (hz : a.eval z = v3) {R : Value → World → Prop}
    (hc : Calls P f #[v1, v2, v3] w fun e w' => ∃ u, e = .returned u ∧ R u w') (h : ∀ v w', R v w' → K (a.put o.dst v) w') :
    if Region.wanted o (yielded ops a.tmps) = true then Oper.wp P o a w K Q else E := by
  have hw : Region.wanted o (yielded ops a.tmps) = true := by simp [Region.wanted, hgd]
  rw [if_pos hw]
  have hrun : (execOp a.eval o).run P w = .ok (.enter f #[v1, v2, v3]) w := by
    obtain ⟨dst, op, type, pos, after, guard⟩ := o
    simp only [] at ho
    subst ho
    rw [execOp_call_go, hcall]
    simp [hx, hy, hz]
  unfold Oper.wp
  rw [hrun, Oper.upon_enter]
  refine hc.mono fun e w'' hh => ?_
  obtain ⟨v, rfl, hr⟩ := hh
  exact h _ _ hr

def dcE (l : List Int) : Int := if bkE l ≠ 0 then bkE l else if shp l = 0 then 53 else 0

theorem dv_new (vl vw : Value) : dv vl vw (.slice none 0 0) (fun _ => 0) (fun _ => 0) = #[vl, vw, .slice none 0 0, .int .i64 0, .int .i64 0, .int .i64 0, .int .i64 0, .int .i64 0, .int .i64 0, .int .i64 0, .int .i64 0, .int .i64 0, .int .i64 0, .int .i64 0, .int .i64 0, .int .i64 0, .int .i64 0, .int .i64 0, .int .i64 0, .int .i64 0, .int .i64 0, .int .i64 0, .int .i64 0, .int .i64 0, .int .i64 0, .int .i64 0, .int .i64 0, .int .i64 0, .int .i64 0, .int .i64 0, .int .i64 0, .int .i64 0, .int .i64 0, .int .i64 0, .int .i64 0] := by
  simp [dv, av_zero]

end Go.Proofs.YtiabhmdefaabgacGreatDoor

namespace Go.Proofs.YtiabhmdefaabgacGreatDoor
open Go.RowKit Go.Maps
set_option maxRecDepth 20000

/-- The first bits as a number, the first one the highest. -/
def mir (v : Int) (n : Nat) : Int := val (bts v n).reverse

theorem mir_succ (v : Int) (k : Nat) : mir v (k + 1) = v / 2 ^ k % 2 + 2 * mir v k := rev_snoc v k

theorem mir_bound (v : Int) (k : Nat) : 0 ≤ mir v k ∧ mir v k < 2 ^ k := rev_bound v k

def rowN (v : Int) : Nat := (mir v 15).toNat

theorem mir_div (v : Int) : ∀ m k, mir v k = mir v (k + m) / 2 ^ m
  | 0, k => by simp
  | m + 1, k => by
    rw [mir_div v m k, show k + (m + 1) = (k + m) + 1 by omega, mir_succ, pow_add1, ← Int.ediv_ediv_of_nonneg (by omega)]
    congr 1
    omega

theorem mir_row (v : Int) {n : Nat} (h : n ≤ 15) : mir v n = ((rowN v / 2 ^ (15 - n) : Nat) : Int) := by
  rw [mir_div v (15 - n) n, show n + (15 - n) = 15 by omega]
  unfold rowN
  have := (mir_bound v 15).1
  rw [Int.natCast_ediv, Int.toNat_of_nonneg this]
  push_cast
  rfl

theorem row_lt (v : Int) : rowN v < 32768 := by
  have := mir_bound v 15
  unfold rowN
  omega

noncomputable def fdS (l : List Int) (R : Nat) : Nat := by
  classical
  exact if h : ∃ s, Hit l R s then h.choose else 0

noncomputable def fdB (l : List Int) (R : Nat) : Bool := by
  classical
  exact decide (∃ s, Hit l R s)

theorem fd_hit {l : List Int} (hl : Lens l) {R s : Nat} (h : Hit l R s) : fdS l R = s ∧ fdB l R = true := by
  have he : ∃ s, Hit l R s := ⟨s, h⟩
  constructor
  · unfold fdS
    rw [dif_pos he]
    exact he.choose_spec.one hl h
  · unfold fdB
    exact @decide_eq_true _ (Classical.propDecidable _) he

theorem fd_none {l : List Int} {R : Nat} (h : ¬ ∃ s, Hit l R s) : fdS l R = 0 ∧ fdB l R = false := by
  constructor
  · unfold fdS
    rw [dif_neg h]
  · unfold fdB
    exact @decide_eq_false _ (Classical.propDecidable _) h

theorem i64_or1 {t b : Int} (h0 : 0 ≤ t) (h1 : t < 2147483648) (hb : b = 0 ∨ b = 1) : bits .or .i64 (t * 2) b = 2 * t + b := by
  rw [bits_join .i64 63 (by decide) (fun n a b => by rw [IntKind.wrap_i64]; omega) 1 (t * 2) b (by omega) (by omega) (by omega) (by omega) (by omega) (by omega)]
  omega

theorem dcE_zero {l : List Int} (h : dcE l = 0) : Lens l ∧ shp l ≠ 0 ∧ shp l ≠ 2 ∧ shp l ≠ 3 := by
  unfold dcE at h
  by_cases h0 : bkE l = 0
  · rw [if_neg (by simp [h0])] at h
    by_cases h2 : shp l = 0
    · rw [if_pos h2] at h; omega
    · have := bkE_zero h0
      exact ⟨this.1, h2, this.2⟩
  · rw [if_pos h0] at h; exact absurd h h0

theorem hit_sym {l sy : List Int} (hl : Lens l) (hs : SymOk l sy) {R n : Nat} (hn : n ≤ 15) (h0 : us l n ≤ R) (h1 : R < us l (n + 1)) : ∃ s j : Nat, Hit l R s ∧ shf l n + ((R / 2 ^ (15 - n) : Nat) : Int) = (j : Int) ∧ j < sy.length ∧ sy.getD j 0 = (s : Int) := by
  obtain ⟨s, a1, a2, a3⟩ := hit_at (l := l) hn h0 h1
  refine ⟨s, ix l s, a1, ?_, by rw [hs.1]; exact ix_lt hl a1.1, hs.2 s a1.1⟩
  rw [a3]
  unfold shf ix
  rw [a2]
  push_cast
  omega

end Go.Proofs.YtiabhmdefaabgacGreatDoor

