import Derived.Test.YthngagciiidppaaGreatDoorGA27
import Derived.Test.YthngagciiidppaaGreatDoorGA04
import Derived.Deep.RegionLaw
namespace Go.Proofs.YthngagciiidppaaGreatDoor
open Go.RowKit Go.Maps
set_option maxRecDepth 20000

def bkE (l : List Int) : Int := if chkE l ≠ 0 then chkE l else if shp l = 2 then 52 else if shp l = 3 then 51 else 0

theorem bkE_zero {l : List Int} (h : bkE l = 0) : Lens l ∧ shp l ≠ 2 ∧ shp l ≠ 3 := by
  unfold bkE at h
  by_cases h0 : chkE l = 0
  · rw [if_neg (by simp [h0])] at h
    by_cases h2 : shp l = 2
    · rw [if_pos h2] at h; omega
    · rw [if_neg h2] at h
      by_cases h3 : shp l = 3
      · rw [if_pos h3] at h; omega
      · exact ⟨(chkE_zero h0).1, h2, h3⟩
  · rw [if_pos h0] at h; exact absurd h h0

/-- A book, or none. -/
def BookOf (w w' : World) (l : List Int) (vl vw : Value) : Prop := (bkE l ≠ 0 ∧ vl = .slice none 0 0 ∧ vw = .slice none 0 0) ∨ (bkE l = 0 ∧ OI w' w.heap.size vl l ∧ OI w' w.heap.size vw (wds l))

theorem below_setRow {w w' : World} {B g : Nat} {cs : Array Value} (h : Below B w w') (hg : B ≤ g) : Below B w (w'.setRow g cs) :=
  ⟨h.os, h.tape, h.output, by rw [size_setRow]; exact h.size, fun k hk => (setRow_other w' g k cs (by omega)).trans (h.block k hk)⟩

def Made (w : World) (l : List Int) (e : Ending) (w' : World) : Prop := ∃ vl vw, e = .returned (.tuple #[.agg #[vl, vw], .int .i64 (bkE l)]) ∧ BookOf w w' l vl vw ∧ Below w.heap.size w w'

end Go.Proofs.YthngagciiidppaaGreatDoor

namespace Go.Proofs.YthngagciiidppaaGreatDoor
open Go.RowKit Go.Maps
set_option maxRecDepth 20000

/-- A decoder's cells. -/
def dv (vl vw vs : Value) (f g : Nat → Int) : Array Value := #[vl, vw, vs] ++ av f ++ av g

theorem dv_size (vl vw vs : Value) (f g : Nat → Int) : (dv vl vw vs f g).size = 35 := by simp [dv, av_size]

theorem dv_0 (vl vw vs : Value) (f g : Nat → Int) : (dv vl vw vs f g)[0]? = some vl := by simp [dv, Array.getElem?_append]
theorem dv_1 (vl vw vs : Value) (f g : Nat → Int) : (dv vl vw vs f g)[1]? = some vw := by simp [dv, Array.getElem?_append]
theorem dv_2 (vl vw vs : Value) (f g : Nat → Int) : (dv vl vw vs f g)[2]? = some vs := by simp [dv, Array.getElem?_append]

theorem dv_f (vl vw vs : Value) (f g : Nat → Int) {n : Nat} (h : n < 16) : (dv vl vw vs f g)[3 + n]? = some (.int .i64 (f n)) := by
  simp only [dv, Array.getElem?_append, Array.size_append, av_size]
  rw [if_pos (by simp; omega), if_neg (by simp)]
  simp only [List.size_toArray, List.length_cons, List.length_nil]
  rw [show 3 + n - (0 + 1 + 1 + 1) = n by omega, av_get f h]

theorem dv_g (vl vw vs : Value) (f g : Nat → Int) {n : Nat} (h : n < 16) : (dv vl vw vs f g)[19 + n]? = some (.int .i64 (g n)) := by
  simp only [dv, Array.getElem?_append, Array.size_append, av_size]
  rw [if_neg (by simp)]
  simp only [List.size_toArray, List.length_cons, List.length_nil]
  rw [show 19 + n - (0 + 1 + 1 + 1 + 16) = n by omega, av_get g h]

theorem dv_ext {A : Array Value} {vl vw vs : Value} {f g : Nat → Int} (hs : A.size = 35) (h0 : A[0]? = some vl) (h1 : A[1]? = some vw) (h2 : A[2]? = some vs) (hf : ∀ n, n < 16 → A[3 + n]? = some (.int .i64 (f n))) (hg : ∀ n, n < 16 → A[19 + n]? = some (.int .i64 (g n))) : A = dv vl vw vs f g := by
  apply Array.ext_getElem?
  intro i
  by_cases c0 : i = 0
  · subst c0; rw [h0, dv_0]
  by_cases c1 : i = 1
  · subst c1; rw [h1, dv_1]
  by_cases c2 : i = 2
  · subst c2; rw [h2, dv_2]
  by_cases c3 : i < 19
  · obtain ⟨n, rfl⟩ : ∃ n, i = 3 + n := ⟨i - 3, by omega⟩
    rw [hf n (by omega), dv_f _ _ _ _ _ (by omega)]
  by_cases c4 : i < 35
  · obtain ⟨n, rfl⟩ : ∃ n, i = 19 + n := ⟨i - 19, by omega⟩
    rw [hg n (by omega), dv_g _ _ _ _ _ (by omega)]
  · rw [Array.getElem?_eq_none (by omega), Array.getElem?_eq_none (by rw [dv_size]; omega)]

theorem dv_setf (vl vw vs : Value) (f g : Nat → Int) {n : Nat} (h : n < 16) (x : Int) : (dv vl vw vs f g).setIfInBounds (3 + n) (.int .i64 x) = dv vl vw vs (upf f n x) g := by
  refine dv_ext (by simp [dv_size]) ?_ ?_ ?_ (fun k hk => ?_) (fun k hk => ?_)
  · rw [Array.getElem?_setIfInBounds, if_neg (by omega), dv_0]
  · rw [Array.getElem?_setIfInBounds, if_neg (by omega), dv_1]
  · rw [Array.getElem?_setIfInBounds, if_neg (by omega), dv_2]
  · rw [Array.getElem?_setIfInBounds]
    unfold upf
    by_cases e : n = k
    · subst e; rw [if_pos rfl, if_pos (by rw [dv_size]; omega), if_pos rfl]
    · rw [if_neg (by omega), dv_f _ _ _ _ _ hk, if_neg (fun x => e x.symm)]
  · rw [Array.getElem?_setIfInBounds, if_neg (by omega), dv_g _ _ _ _ _ hk]

theorem dv_setg (vl vw vs : Value) (f g : Nat → Int) {n : Nat} (h : n < 16) (x : Int) : (dv vl vw vs f g).setIfInBounds (19 + n) (.int .i64 x) = dv vl vw vs f (upf g n x) := by
  refine dv_ext (by simp [dv_size]) ?_ ?_ ?_ (fun k hk => ?_) (fun k hk => ?_)
  · rw [Array.getElem?_setIfInBounds, if_neg (by omega), dv_0]
  · rw [Array.getElem?_setIfInBounds, if_neg (by omega), dv_1]
  · rw [Array.getElem?_setIfInBounds, if_neg (by omega), dv_2]
  · rw [Array.getElem?_setIfInBounds, if_neg (by omega), dv_f _ _ _ _ _ hk]
  · rw [Array.getElem?_setIfInBounds]
    unfold upf
    by_cases e : n = k
    · subst e; rw [if_pos rfl, if_pos (by rw [dv_size]; omega), if_pos rfl]
    · rw [if_neg (by omega), dv_g _ _ _ _ _ hk, if_neg (fun x => e x.symm)]

theorem dv_sets (vl vw vs : Value) (f g : Nat → Int) (x : Value) : (dv vl vw vs f g).setIfInBounds 2 x = dv vl vw x f g := by
  refine dv_ext (by simp [dv_size]) ?_ ?_ ?_ (fun k hk => ?_) (fun k hk => ?_)
  · rw [Array.getElem?_setIfInBounds, if_neg (by omega), dv_0]
  · rw [Array.getElem?_setIfInBounds, if_neg (by omega), dv_1]
  · rw [Array.getElem?_setIfInBounds, if_pos rfl, if_pos (by rw [dv_size]; omega)]
  · rw [Array.getElem?_setIfInBounds, if_neg (by omega), dv_f _ _ _ _ _ hk]
  · rw [Array.getElem?_setIfInBounds, if_neg (by omega), dv_g _ _ _ _ _ hk]

def shf (l : List Int) (n : Nat) : Int := (sh l n : Int) - fi l n
def en (l : List Int) (n : Nat) : Int := (fi l n : Int) + cn l n
def upTo (f : Nat → Int) (k n : Nat) : Int := if n < k then f n else 0

theorem upTo_succ (f : Nat → Int) (k : Nat) (x : Int) (hx : x = f k) : upf (upTo f k) k x = upTo f (k + 1) := by
  funext n
  unfold upf upTo
  by_cases e : n = k
  · subst e; rw [if_pos rfl, if_pos (by omega), hx]
  · rw [if_neg e]
    by_cases h : n < k
    · rw [if_pos h, if_pos (by omega)]
    · rw [if_neg h, if_neg (by omega)]

theorem grownBy_drewN {w w' : World} {r : Option Nat} (h : w.grownBy w' r) (n : Nat) : w.grownBy (w'.drewN n) r := ⟨h.os, h.tape, h.output, h.size, h.block⟩

theorem grownBy_at {w w' : World} {g o : Nat} {u : Value} (h : w.grownBy w' (some g)) : w.grownBy (w'.setCell ⟨g, o, none⟩ u) (some g) :=
  ⟨h.os, h.tape, h.output, by rw [size_setCell]; exact h.size, fun k hk hr => (setCell_others w' g o u k (fun e => hr (by rw [e]))).trans (h.block k hk hr)⟩

def SymOk (l sy : List Int) : Prop := sy.length = sh l 16 ∧ ∀ s, Has l s → sy.getD (ix l s) 0 = (s : Int)

theorem OI.still {w wr : World} {g : Nat} {v : Value} {L : List Int} (h : OI w 0 v L) (hg : w.grownBy wr (some g)) (hn : v.ownBlock ≠ some g) : OI wr 0 v L :=
  h.move fun k hk => hg.block k (h.lt k hk).2 (fun e => hn (by rw [hk, e]))

theorem ix_eq {l : List Int} {k : Nat} (hh : Has l k) : shf l (ln l k) + (wd l k : Int) = (ix l k : Int) := by
  rw [hh.wd]
  unfold shf ix
  push_cast
  omega

end Go.Proofs.YthngagciiidppaaGreatDoor

namespace Go.Proofs.YthngagciiidppaaGreatDoor
open Go.RowKit Go.Maps
set_option maxRecDepth 20000

theorem step_loadP {ops : Array Oper} {o : Oper} {a : Act} {w : World} {K : Act → World → Prop} {Q : Exit → Act → World → Prop} {E : Prop} (hgd : o.guard = none) (x : Operand) (ho : o.op = .load 133 x) (g : Nat) (f : Nat → Int)
    (hx : a.eval x = .pointer (some ⟨g, 0, none⟩)) (hg : w.heap[g]? = some (.cells (av f) 133 (0, 0))) (h : K (a.put o.dst (.agg (av f))) w) :
    if Region.wanted o (yielded ops a.tmps) = true then Oper.wp Tryz.prog o a w K Q else E := by
  have hw : Region.wanted o (yielded ops a.tmps) = true := by simp [Region.wanted, hgd]
  rw [if_pos hw]
  exact wp_load_row 133 x ho g hx 133 (av f) (0, 0) _ hg Tryz.underlying133 rfl (sizePer f) h

theorem step_call1 {P : Program} {ops : Array Oper} {o : Oper} {a : Act} {w : World} {K : Act → World → Prop} {Q : Exit → Act → World → Prop} {E : Prop} (hgd : o.guard = none) (x0 : Operand) (t0 : TypeId) (f : FuncId)
    (ho : o.op = .call { callee := .value (.func f), args := #[x0], argTypes := #[t0] }) (hcall : ∀ args w, (callFunc f args).run P w = .ok (.enter f args) w) (v0 : Value) (h0 : a.eval x0 = v0) {R : Value → World → Prop}
    (hc : Calls P f #[v0] w fun e w' => ∃ u, e = .returned u ∧ R u w') (h : ∀ v w', R v w' → K (a.put o.dst v) w') :
    if Region.wanted o (yielded ops a.tmps) = true then Oper.wp P o a w K Q else E := by
  have hw : Region.wanted o (yielded ops a.tmps) = true := by simp [Region.wanted, hgd]
  rw [if_pos hw]
  have hrun : (execOp a.eval o).run P w = .ok (.enter f #[v0]) w := by
    obtain ⟨dst, op, type, pos, after, guard⟩ := o
    simp only [] at ho
    subst ho
    rw [execOp_call_go, hcall]
    simp [h0]
  unfold Oper.wp
  rw [hrun, Oper.upon_enter]
  refine hc.mono fun e w'' hh => ?_
  obtain ⟨v, rfl, hr⟩ := hh
  exact h _ _ hr

theorem step_call3 {P : Program} {ops : Array Oper} {o : Oper} {a : Act} {w : World} {K : Act → World → Prop} {Q : Exit → Act → World → Prop} {E : Prop} (hgd : o.guard = none) (x y z : Operand) (t u s : TypeId) (f : FuncId)
    (ho : o.op = .call { callee := .value (.func f), args := #[x, y, z], argTypes := #[t, u, s] }) (hcall : ∀ args w, (callFunc f args).run P w = .ok (.enter f args) w) (v1 v2 v3 : Value) (hx : a.eval x = v1) (hy : a.eval y = v2) (hz : a.eval z = v3) {R : Value → World → Prop}
    (hc : Calls P f #[v1, v2, v3] w fun e w' => ∃ u, e = .returned u ∧ R u w') (h : ∀ v w', R v w' → K (a.put o.dst v) w') :
    if Region.wanted o (yielded ops a.tmps) = true then Oper.wp P o a w K Q else E := by
  have hw : Region.wanted o (yielded ops a.tmps) = true := by simp [Region.wanted, hgd]
  rw [if_pos hw]
  have hrun : (execOp a.eval o).run P w = .ok (.enter f #[v1, v2, v3]) w := by
    obtain ⟨dst, op, type, pos, after, guard⟩ := o
    simp only [] at ho
    subst ho
    rw [execOp_call_go, hcall]
    simp [hx, hy, hz]
  unfold Oper.wp
  rw [hrun, Oper.upon_enter]
  refine hc.mono fun e w'' hh => ?_
  obtain ⟨v, rfl, hr⟩ := hh
  exact h _ _ hr

def dcE (l : List Int) : Int := if bkE l ≠ 0 then bkE l else if shp l = 0 then 53 else 0

theorem dv_new (vl vw : Value) : dv vl vw (.slice none 0 0) (fun _ => 0) (fun _ => 0) = #[vl, vw, .slice none 0 0, .int .i64 0, .int .i64 0, .int .i64 0, .int .i64 0, .int .i64 0, .int .i64 0, .int .i64 0, .int .i64 0, .int .i64 0, .int .i64 0, .int .i64 0, .int .i64 0, .int .i64 0, .int .i64 0, .int .i64 0, .int .i64 0, .int .i64 0, .int .i64 0, .int .i64 0, .int .i64 0, .int .i64 0, .int .i64 0, .int .i64 0, .int .i64 0, .int .i64 0, .int .i64 0, .int .i64 0, .int .i64 0, .int .i64 0, .int .i64 0, .int .i64 0, .int .i64 0] := by
  simp [dv, av_zero]

end Go.Proofs.YthngagciiidppaaGreatDoor

namespace Go.Proofs.YthngagciiidppaaGreatDoor
open Go.RowKit Go.Maps
set_option maxRecDepth 20000

/-- The first bits as a number, the first one the highest. -/
def mir (v : Int) (n : Nat) : Int := val (bts v n).reverse

theorem mir_succ (v : Int) (k : Nat) : mir v (k + 1) = v / 2 ^ k % 2 + 2 * mir v k := rev_snoc v k

theorem mir_bound (v : Int) (k : Nat) : 0 ≤ mir v k ∧ mir v k < 2 ^ k := rev_bound v k

def rowN (v : Int) : Nat := (mir v 15).toNat

theorem mir_div (v : Int) : ∀ m k, mir v k = mir v (k + m) / 2 ^ m
  | 0, k => by simp
  | m + 1, k => by
    rw [mir_div v m k, show k + (m + 1) = (k + m) + 1 by omega, mir_succ, pow_add1, ← Int.ediv_ediv_of_nonneg (by omega)]
    congr 1
    omega

theorem mir_row (v : Int) {n : Nat} (h : n ≤ 15) : mir v n = ((rowN v / 2 ^ (15 - n) : Nat) : Int) := by
  rw [mir_div v (15 - n) n, show n + (15 - n) = 15 by omega]
  unfold rowN
  have := (mir_bound v 15).1
  rw [Int.natCast_ediv, Int.toNat_of_nonneg this]
  push_cast
  rfl

theorem row_lt (v : Int) : rowN v < 32768 := by
  have := mir_bound v 15
  unfold rowN
  omega

noncomputable def fdS (l : List Int) (R : Nat) : Nat := by
  classical
  exact if h : ∃ s, Hit l R s then h.choose else 0

noncomputable def fdB (l : List Int) (R : Nat) : Bool := by
  classical
  exact decide (∃ s, Hit l R s)

theorem fd_hit {l : List Int} (hl : Lens l) {R s : Nat} (h : Hit l R s) : fdS l R = s ∧ fdB l R = true := by
  have he : ∃ s, Hit l R s := ⟨s, h⟩
  constructor
  · unfold fdS
    rw [dif_pos he]
    exact he.choose_spec.one hl h
  · unfold fdB
    exact @decide_eq_true _ (Classical.propDecidable _) he

theorem fd_none {l : List Int} {R : Nat} (h : ¬ ∃ s, Hit l R s) : fdS l R = 0 ∧ fdB l R = false := by
  constructor
  · unfold fdS
    rw [dif_neg h]
  · unfold fdB
    exact @decide_eq_false _ (Classical.propDecidable _) h

theorem i64_or1 {t b : Int} (h0 : 0 ≤ t) (h1 : t < 2147483648) (hb : b = 0 ∨ b = 1) : bits .or .i64 (t * 2) b = 2 * t + b := by
  rw [bits_join .i64 63 (by decide) (fun n a b => by rw [IntKind.wrap_i64]; omega) 1 (t * 2) b (by omega) (by omega) (by omega) (by omega) (by omega) (by omega)]
  omega

theorem dcE_zero {l : List Int} (h : dcE l = 0) : Lens l ∧ shp l ≠ 0 ∧ shp l ≠ 2 ∧ shp l ≠ 3 := by
  unfold dcE at h
  by_cases h0 : bkE l = 0
  · rw [if_neg (by simp [h0])] at h
    by_cases h2 : shp l = 0
    · rw [if_pos h2] at h; omega
    · have := bkE_zero h0
      exact ⟨this.1, h2, this.2⟩
  · rw [if_pos h0] at h; exact absurd h h0

theorem hit_sym {l sy : List Int} (hl : Lens l) (hs : SymOk l sy) {R n : Nat} (hn : n ≤ 15) (h0 : us l n ≤ R) (h1 : R < us l (n + 1)) : ∃ s j : Nat, Hit l R s ∧ shf l n + ((R / 2 ^ (15 - n) : Nat) : Int) = (j : Int) ∧ j < sy.length ∧ sy.getD j 0 = (s : Int) := by
  obtain ⟨s, a1, a2, a3⟩ := hit_at (l := l) hn h0 h1
  refine ⟨s, ix l s, a1, ?_, by rw [hs.1]; exact ix_lt hl a1.1, hs.2 s a1.1⟩
  rw [a3]
  unfold shf ix
  rw [a2]
  push_cast
  omega

end Go.Proofs.YthngagciiidppaaGreatDoor

