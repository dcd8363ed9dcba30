import Derived.Test.YtjldmphfdaoecaaG04Tke
import Derived.Test.YtjldmphfdaoecaaG07Rg6
import Derived.Sort.BigQuietIn
import Derived.OrdersHeld
import Derived.BigCall
import Derived.Test.YtjldmphfdaoecaaG05Bcd
namespace Go.Proofs.Ytjldmphfdaoecaa
open Go.RowKit Go.Shelf
attribute [local go_sem] Oper.semAt_some
set_option maxRecDepth 20000
set_option linter.unusedVariables false

theorem bwd_any (a : Option Addr) (n c : Nat) (w : World) : Calls Try.prog 29 #[.slice a n c] w fun e w' => e = .returned (.func (.func 32) #[] #[.pointer (some ⟨w.heap.size, 0, none⟩)]) ∧ w' = w.alloc (.cells #[.slice a n c] 54) := by
  go_enter Try.func29, Try.ntmps29
  go_wp2
  go_ret
  exact ⟨rfl, rfl⟩

def Bturn (B : Nat) (ao : Option Addr) (c K : Nat) (Iy : Nat × Int → World → Prop) (Ie : World → Prop) (m : Nat) (W : World) : Prop :=
  m ≤ K ∧ W.cell? ⟨B, 0, none⟩ = some (.slice ao K c) ∧ (m = 0 → Ie W) ∧ ∀ k, m = k + 1 → ∃ b f x, ao = some ⟨b, f, none⟩ ∧ W.cell? ⟨b, f + k, none⟩ = some (.int .i64 x) ∧ Iy (k, x) W

set_option maxHeartbeats 1000000 in
theorem bwd_in (l B : Nat) (ao : Option Addr) (c K : Nat) (hK : K ≤ 1000000000) (I : Nat → World → Prop) (Iy : Nat → Nat × Int → World → Prop) (Ie Jx : World → Prop) (hI : ∀ m W, I m W → Bturn B ao c K (Iy m) Ie m W)
    (hY : ∀ m x W, Iy m x W → YieldAt Fence.wide 1 Try.prog l #[.int .i64 (x.1 : Int), .int .i64 x.2] W fun e W' => (e = .returned (.bool true) ∧ ∃ m', m' + 1 = m ∧ I m' W') ∨ (e = .returned (.bool false) ∧ Jx W'))
    (W : World) (h : I K W) (F : Fence) (hF : F = Fence.wide) :
    CallsIn F 2 Try.prog 32 #[.func (.yield l) #[] #[], .pointer (some ⟨B, 0, none⟩)] W fun e W' => (∃ v, e = .returned v) ∧ (Ie W' ∨ Jx W') := by
  subst hF
  obtain ⟨_, hc0, _⟩ := hI _ _ h
  refine callsIn_of_wp Try.func32 rfl trivial ?_ rfl
  simp only [Try.ntmps32, List.size_toArray, List.length_cons, List.length_nil, Nat.reduceAdd, Nat.reduceSub, Array.replicate_succ, Array.replicate_zero, List.push_toArray, List.append_toArray, List.nil_append, List.cons_append]
  gi_wp2
  gi_loopw [3] (fun p wr => ∃ m : Nat, m ≤ K ∧ p = .int .i64 ((m : Int) - 1) ∧ Hid (I m wr)) (fun p _ => ((intOf p) + 1).toNat)
  case atStart => exact ⟨K, Nat.le_refl _, by go_num, h⟩
  case round =>
    obtain ⟨m, hm, rfl, HI⟩ := hrel
    obtain ⟨h1, h2, h3, h4⟩ := hI _ _ HI.out
    by_cases h0 : m = 0
    · have HE := hide (h3 h0)
      subst h0
      have hn : ¬ (0 : Int) ≤ ((0 : Nat) : Int) - 1 := by omega
      clear h3 h4
      gi_wp2
      refine bodyPost_end (results_none rfl _ _ _) rfl ?_
      exact ⟨⟨_, rfl⟩, .inl HE.out⟩
    · obtain ⟨k, rfl⟩ : ∃ k, m = k + 1 := ⟨m - 1, by omega⟩
      obtain ⟨b, f, x, ha, h5, h6⟩ := h4 k rfl
      subst ha
      have e1 : ((k + 1 : Nat) : Int) - 1 = (k : Int) := by omega
      have hk0 : (0 : Int) ≤ (k : Int) := by omega
      have hkK : (k : Int) < (K : Int) := by omega
      rw [e1]
      obtain ⟨fn, tmps, assign, body, hy, hRd⟩ := hY _ _ _ h6
      dsimp only at hy
      clear h3 h4 h6 e1
      gi_wp2
      refine hRd.mono ?_
      rintro e W3 (⟨rfl, m', hm', hI3⟩ | ⟨rfl, hJx3⟩)
      · obtain rfl : m' = k := by omega
        have HI3 := hide hI3
        clear hI3
        gi_wp2
        go_roundw
        case rel => exact ⟨m', by omega, by go_num, HI3⟩
        case measure => simp [intOf]
      · gi_wp2
        refine bodyPost_ret (results_none rfl _ _ _) rfl ?_
        exact ⟨⟨_, rfl⟩, .inr hJx3⟩
end Go.Proofs.Ytjldmphfdaoecaa

namespace Go.Proofs.Ytjldmphfdaoecaa
open Go.RowKit
set_option linter.unusedVariables false

theorem oper_inRound {F : Fence} {n : Nat} {P : Program} {o : Oper} {a : Act} {w : World} {K : Act → World → Prop} {Q : Exit → Act → World → Prop} (l : Nat) (hnd : ∀ c, o.op ≠ Op.defer c)
    (h : o.wpIn F n P a w K Q) : o.wpIn (F.inRound l) n P a w K Q := by
  unfold Oper.wpIn at *
  refine ⟨h.1, ?_⟩
  have h2 := h.2
  rw [Oper.semAt_plain _ _ _ hnd] at h2 ⊢
  exact h2

theorem wpAnyIn_inRound {F : Fence} {n : Nat} {P : Program} {md : Region.Mode} {ops : Array Oper} {Q : Exit → Act → World → Prop} (l : Nat) (hnd : ∀ (i : Nat) (o : Oper), ops[i]? = some o → ∀ c, o.op ≠ Op.defer c) :
    ∀ (fuel : Nat) (listed : Array Bool) (a : Act) (w : World), wpAnyIn F n P md ops Q fuel listed a w → wpAnyIn (F.inRound l) n P md ops Q fuel listed a w
  | 0, _, _, _, h => h
  | fuel + 1, listed, a, w, h => by
    refine ⟨h.1, fun i hi => ?_⟩
    have h2 := wpOpIn_mono (K' := wpAnyIn (F.inRound l) n P md ops Q fuel (listed.setIfInBounds i true)) (fun a' w' h' => wpAnyIn_inRound l hnd fuel _ a' w' h') (h.2 i hi)
    unfold wpOpIn at h2 ⊢
    cases ho : ops[i]? with
    | none => simp only [ho] at h2 ⊢; exact h2
    | some o =>
      simp only [ho] at h2 ⊢
      split
      · rename_i hw
        simp only [hw, if_true] at h2
        exact oper_inRound l (hnd i o ho) h2
      · rename_i hw
        simp only [hw] at h2
        exact h2

def plainOps (l : List Oper) : Bool := l.all fun o => match o.op with | .defer _ => false | _ => true

theorem plainOps_spec {l : List Oper} (h : plainOps l = true) : ∀ (i : Nat) (o : Oper), l.toArray[i]? = some o → ∀ c, o.op ≠ Op.defer c := by
  intro i o hi c e
  have hm : o ∈ l := by
    have : l[i]? = some o := by simpa using hi
    exact List.mem_of_getElem? this
  have := List.all_eq_true.1 h o hm
  rw [e] at this
  cases this

theorem wpIn_quiet_round {F : Fence} {n : Nat} {P : Program} {id : Nat} {Q : Exit → Act → World → Prop} {a : Act} {w : World} {l : List Oper} (l0 : Nat) (hro : F.round = none) (hm : P.follows .mixedOrders = true) (hB : Region.lexB .any l.toArray = true) (hnd : plainOps l = true)
    (h : wpQuietIn F n P l.toArray (fun w' => ∃ n, w' = w.drewN n) (fun a' => ∀ w', (∃ n, w' = w.drewN n) → Q .normal a' w') l a) : (Code.region id l.toArray true).wpIn (F.inRound l0) n P Q a w := by
  simp only [Region.lexB, Bool.and_eq_true] at hB
  refine wpIn_region_any hm (wpAnyIn_inRound l0 (plainOps_spec hnd) _ _ _ _ (wpAnyIn_of_quiet (Q := fun a' => ∀ w', (∃ n, w' = w.drewN n) → Q .normal a' w') (C := fun w' => ∃ n, w' = w.drewN n) hro (fun _ w' hw' h => h w' hw') _ _ _ _ ⟨1, rfl⟩ ?_))
  have := wpAnyQIn_lex (F := F) (n := n) (C := fun w' => ∃ n, w' = w.drewN n) (md := .any) hB.1 l 0 (Array.replicate l.toArray.size false) a (by simp) (by simpa using hB.2) h
  simpa using this

def noPan (Q : Exit → Act → World → Prop) : Exit → Act → World → Prop
  | .panic _, _, _ => False
  | e, a, w => Q e a w

theorem wpIn_noPan {F : Fence} {n : Nat} {P : Program} {c : Code} {Q : Exit → Act → World → Prop} {a : Act} {w : World} (h : c.wpIn F n P (noPan Q) a w) : c.wpIn F n P Q a w := by
  refine wpIn_mono h ?_
  intro e a w hq
  cases e with
  | panic _ => exact hq.elim
  | normal => exact hq
  | ret => exact hq
  | exit _ => exact hq
  | goto _ => exact hq
  | outgrown => exact hq

theorem mixd : Try.prog.follows Departure.mixedOrders = true := by kernel_rfl

theorem oper_wide {n : Nat} {P : Program} {o : Oper} {a : Act} {w : World} {K : Act → World → Prop} {Q : Exit → Act → World → Prop} (h : o.wp P a w K Q) : o.wpIn Fence.wide n P a w K Q := by
  refine ⟨fun _ _ => trivial, ?_⟩
  unfold Oper.wp at h
  have e : o.semAt Fence.wide.round a.eval = execOp a.eval o := by show o.semAt none a.eval = _; simp [Oper.semAt]
  rw [e]
  generalize (execOp a.eval o).run P w = r at h ⊢
  cases r with
  | ok x w' =>
    cases x with
    | value v => exact h
    | skip => exact h
    | defer d => exact h
    | enter f args => exact ⟨(fun q => by cases q), callsIn_wide.2 h⟩
    | row r args => exact ⟨(fun q => by cases q), fun c cs _ => by
        obtain ⟨v, w'', h1, h2⟩ := h c cs
        exact ⟨v, w'', h1, stepsIn_wide.2 h2⟩⟩
    | _ => exact h.elim
  | halt x w' =>
    cases x with
    | panic v => exact h
    | _ => exact h.elim

theorem wpAnyIn_of_any {n : Nat} {P : Program} {md : Region.Mode} {ops : Array Oper} {Q : Exit → Act → World → Prop} (hL : ¬ LetsOut Q) :
    ∀ (fuel : Nat) (listed : Array Bool) (a : Act) (w : World), wpAny P md ops Q fuel listed a w → wpAnyIn Fence.wide n P md ops Q fuel listed a w
  | 0, _, _, _, h => h
  | fuel + 1, listed, a, w, h => by
    refine ⟨h.1, fun i hi => ?_⟩
    have h2 := wpOp_mono (K' := wpAnyIn Fence.wide n P md ops Q fuel (listed.setIfInBounds i true)) (fun a' w' h' => wpAnyIn_of_any hL fuel _ a' w' h') (h.2 i hi)
    unfold wpOp at h2
    unfold wpOpIn
    cases ho : ops[i]? with
    | none => simp only [ho] at h2 ⊢; exact h2
    | some o =>
      simp only [ho] at h2 ⊢
      split
      · rename_i hw
        simp only [hw, if_true] at h2
        rcases h2 with h2 | h2
        · exact oper_wide h2
        · exact absurd h2.2 hL
      · rename_i hw
        simp only [hw] at h2
        exact ⟨fun _ _ => trivial, h2⟩

theorem wpIn_held_round {n : Nat} {P : Program} {id : Nat} {Q : Exit → Act → World → Prop} {a : Act} {w : World} {l : List Oper} (l0 : Nat) (S : World → Prop) (hm : P.follows .mixedOrders = true) (hnd : plainOps l = true) (hL : ¬ LetsOut Q)
    (h : wpAnyH P .any l.toArray Q S l.toArray.size (Array.replicate l.toArray.size false) a w.drew) : (Code.region id l.toArray true).wpIn (Fence.wide.inRound l0) n P Q a w :=
  wpIn_region_any hm (wpAnyIn_inRound l0 (plainOps_spec hnd) _ _ _ _ (wpAnyIn_of_any hL _ _ _ _ (wpAny_of_held _ _ _ _ h)))

theorem held_call {P : Program} {ops : Array Oper} {i : Nat} {o : Oper} {a : Act} {w : World} {K : Act → World → Prop} {Q : Exit → Act → World → Prop} (hi : ops[i]? = some o) (hgd : o.guard = none) (xs : Array Operand) (ts : Array TypeId) (f : FuncId)
    (ho : o.op = .call { callee := .value (.func f), args := xs, argTypes := ts }) (hcall : ∀ args w, (callFunc f args).run P w = .ok (.enter f args) w) (vs : Array Value) (hx : xs.map a.eval = vs)
    {R : Ending → World → Prop} (hc : Calls P f vs w R) (h : ∀ e w', R e w' → ∃ v, e = .returned v ∧ K (a.put o.dst v) w') : wpOp P ops Q i K a w := by
  have hw : Region.wanted o (yielded ops a.tmps) = true := by simp [Region.wanted, hgd]
  have hrun : (execOp a.eval o).run P w = .ok (.enter f vs) w := by
    obtain ⟨dst, op, type, pos, after, guard⟩ := o
    simp only [] at ho
    subst ho
    rw [execOp_call_go, hcall, hx]
    simp
  unfold wpOp
  simp only [hi, hw, if_true]
  refine .inl ?_
  unfold Oper.wp
  rw [hrun, Oper.upon_enter]
  refine hc.mono fun e w'' hh => ?_
  obtain ⟨v, rfl, hr⟩ := h _ _ hh
  exact hr
end Go.Proofs.Ytjldmphfdaoecaa

namespace Go.Proofs.Ytjldmphfdaoecaa
open Go.RowKit Go.Maps Go.Shelf
set_option maxRecDepth 20000
set_option linter.unusedVariables false

structure Lst (wb : World) (d gB : Nat) (s : Nat × Nat) (o : Obj) (W : World) : Prop where
  dfr : W.heap[d]? = some (.deferred (some []))
  lp : W.heap[d + 1]? = some o
  os : W.os = wb.os
  tape : W.tape = wb.tape
  output : W.output = wb.output
  size : d + 2 ≤ W.heap.size
  blk : ∀ k, k < d → k ≠ gB → W.heap[k]? = wb.heap[k]?
  best : W.heap[gB]? = some (.cells #[.int .i64 (s.1 : Int), .int .i64 (s.2 : Int), .int .u8 0] 38 (0, 0))

theorem Lst.put {wb : World} {d gB : Nat} {s : Nat × Nat} {o o' : Obj} {W : World} (h : Lst wb d gB s o W) (h1 : gB < d) : Lst wb d gB s o' (W.putObj (d + 1) o') := by
  have hp : ∀ k, k ≠ d + 1 → (W.putObj (d + 1) o').heap[k]? = W.heap[k]? := fun k hk => by
    show (W.heap.setIfInBounds (d + 1) o')[k]? = _
    rw [Array.getElem?_setIfInBounds_ne (fun e => hk e.symm)]
  have hs : (W.putObj (d + 1) o').heap.size = W.heap.size := by show (W.heap.setIfInBounds (d + 1) o').size = _; simp
  refine ⟨by rw [hp _ (by omega)]; exact h.dfr, ?_, h.os, h.tape, h.output, by rw [hs]; exact h.size, fun k a b => by rw [hp _ (by omega)]; exact h.blk k a b, by rw [hp _ (by omega)]; exact h.best⟩
  show (W.heap.setIfInBounds (d + 1) o')[d + 1]? = some o'
  have := h.size
  rw [Array.getElem?_setIfInBounds_self_of_lt (by omega)]

theorem Lst.drewN {wb : World} {d gB : Nat} {s : Nat × Nat} {o : Obj} {W : World} (h : Lst wb d gB s o W) (n : Nat) : Lst wb d gB s o (W.drewN n) := ⟨h.dfr, h.lp, h.os, h.tape, h.output, h.size, h.blk, h.best⟩
theorem Lst.drew {wb : World} {d gB : Nat} {s : Nat × Nat} {o : Obj} {W : World} (h : Lst wb d gB s o W) : Lst wb d gB s o W.drew := ⟨h.dfr, h.lp, h.os, h.tape, h.output, h.size, h.blk, h.best⟩

theorem Lst.cell {wb : World} {d gB : Nat} {s : Nat × Nat} {o : Obj} {W : World} (h : Lst wb d gB s o W) {a : Addr} (h1 : a.block < d) (h2 : a.block ≠ gB) : W.cell? a = wb.cell? a := by
  unfold World.cell?
  rw [h.blk _ h1 h2]

theorem Lst.store {wb : World} {d gB : Nat} {s s' : Nat × Nat} {o : Obj} {W W' : World} (h : Lst wb d gB s o W) (h1 : gB < d) (ho : ∀ k, k ≠ gB → W'.heap[k]? = W.heap[k]?) (hs : W'.heap.size = W.heap.size) (e1 : W'.os = W.os) (e2 : W'.tape = W.tape) (e3 : W'.output = W.output)
    (hb : W'.heap[gB]? = some (.cells #[.int .i64 (s'.1 : Int), .int .i64 (s'.2 : Int), .int .u8 0] 38 (0, 0))) : Lst wb d gB s' o W' :=
  ⟨by rw [ho _ (by omega)]; exact h.dfr, by rw [ho _ (by omega)]; exact h.lp, e1.trans h.os, e2.trans h.tape, e3.trans h.output, by rw [hs]; exact h.size, fun k a b => by rw [ho _ b]; exact h.blk k a b, hb⟩

theorem Lst.set3 {wb : World} {d gB : Nat} {s : Nat × Nat} {o : Obj} {W : World} (h : Lst wb d gB s o W) (h1 : gB < d) (r x : Nat) : Lst wb d gB (r, x) o (((W.setCell ⟨gB, 0, none⟩ (.int .i64 (r : Int))).setCell ⟨gB, 1, none⟩ (.int .i64 (x : Int))).setCell ⟨gB, 2, none⟩ (.int .u8 0)) := by
  refine h.store h1 (fun k hk => ?_) (by rw [size_setCell, size_setCell, size_setCell]) rfl rfl rfl ?_
  · rw [setCell_others _ _ _ _ k hk, setCell_others _ _ _ _ k hk, setCell_others _ _ _ _ k hk]
  · rw [heap_setCell_at _ (heap_setCell_at _ (heap_setCell_at _ h.best))]
    rfl

theorem lst_end {wb w : World} {d gB gR n0 : Nat} {s : Nat × Nat} {o : Obj} {W : World} {cur : Array Value} (hL : Lst wb d gB s o W) (hR : W.heap[gR]? = some (.cells cur 38 (0, 0))) (hc : cur.size = 3) (x y z : Value) (h1 : gR < d) (h2 : gR ≠ gB) (h3 : n0 ≤ gB) (h4 : n0 ≤ gR) (h5 : n0 ≤ d) (hw : w.heap.size = n0) (hb : Below n0 w wb) :
    (((W.setCell ⟨gR, 0, none⟩ x).setCell ⟨gR, 1, none⟩ y).setCell ⟨gR, 2, none⟩ z).heap[d]? = some (.deferred (some [])) ∧
    ((((W.setCell ⟨gR, 0, none⟩ x).setCell ⟨gR, 1, none⟩ y).setCell ⟨gR, 2, none⟩ z).putObj d (.deferred none)).heap[gR]? = some (.cells #[x, y, z] 38 (0, 0)) ∧
    Below w.heap.size w ((((W.setCell ⟨gR, 0, none⟩ x).setCell ⟨gR, 1, none⟩ y).setCell ⟨gR, 2, none⟩ z).putObj d (.deferred none)) := by
  have hs : ∀ k, k ≠ gR → (((W.setCell ⟨gR, 0, none⟩ x).setCell ⟨gR, 1, none⟩ y).setCell ⟨gR, 2, none⟩ z).heap[k]? = W.heap[k]? := fun k hk => by
    rw [setCell_others _ _ _ _ k hk, setCell_others _ _ _ _ k hk, setCell_others _ _ _ _ k hk]
  have hr : (((W.setCell ⟨gR, 0, none⟩ x).setCell ⟨gR, 1, none⟩ y).setCell ⟨gR, 2, none⟩ z).heap[gR]? = some (.cells #[x, y, z] 38 (0, 0)) := by
    rw [heap_setCell_at _ (heap_setCell_at _ (heap_setCell_at _ hR))]
    congr 2
    apply Array.ext'
    obtain ⟨l⟩ := cur
    match l, hc with
    | [a, b, c], _ => rfl
  have hz : (((W.setCell ⟨gR, 0, none⟩ x).setCell ⟨gR, 1, none⟩ y).setCell ⟨gR, 2, none⟩ z).heap.size = W.heap.size := by rw [size_setCell, size_setCell, size_setCell]
  obtain ⟨V, hV⟩ : ∃ V, ((W.setCell ⟨gR, 0, none⟩ x).setCell ⟨gR, 1, none⟩ y).setCell ⟨gR, 2, none⟩ z = V := ⟨_, rfl⟩
  have e1 : V.os = W.os := by rw [← hV]; rfl
  have e2 : V.tape = W.tape := by rw [← hV]; rfl
  have e3 : V.output = W.output := by rw [← hV]; rfl
  rw [hV] at hs hr hz ⊢
  have hp : ∀ k, k ≠ d → (V.putObj d (.deferred none)).heap[k]? = V.heap[k]? := fun k hk => by
    show (V.heap.setIfInBounds d (.deferred none))[k]? = _
    rw [Array.getElem?_setIfInBounds_ne (fun e => hk e.symm)]
  refine ⟨by rw [hs d (by omega)]; exact hL.dfr, by rw [hp _ (by omega)]; exact hr, ?_⟩
  rw [hw]
  refine ⟨e1.trans (hL.os.trans hb.os), e2.trans (hL.tape.trans hb.tape), e3.trans (hL.output.trans hb.output), ?_, fun j hj => ?_⟩
  · show w.heap.size ≤ (V.heap.setIfInBounds d (.deferred none)).size
    have := hL.size
    simp
    omega
  · rw [hp j (by omega), hs j (by omega), hL.blk j (by omega) (by omega), hb.block j hj]

def LgI (D : List Int) (i : Nat) (l : List Nat) (b : Nat) (wb : World) (d gB : Nat) (m : Nat) (o : Obj) (W : World) : Prop :=
  m ≤ l.length ∧ Lst wb d gB (pick D i (l.reverse.take (l.length - m)) (b, 0)) o W

def LgY (D : List Int) (i : Nat) (l : List Nat) (b : Nat) (wb : World) (d gB : Nat) (m : Nat) (x : Nat × Int) (o : Obj) (W : World) : Prop :=
  m = x.1 + 1 ∧ x.2 = ((l.getD x.1 0 : Nat) : Int) ∧ LgI D i l b wb d gB m o W

def LgX (D : List Int) (i : Nat) (l : List Nat) (b : Nat) (wb : World) (d gB : Nat) (c : Code) (o : Obj) (W : World) : Prop :=
  c = .exit 0 ∧ Lst wb d gB (pick D i l.reverse (b, 0)) o W

theorem lgI_rec {D : List Int} {i : Nat} {l : List Nat} {b : Nat} {wb : World} {d gB : Nat} (m : Nat) (h1 : gB < d) : H4.Rec (d + 1) (LgI D i l b wb d gB m) :=
  ⟨fun o W ⟨_, h⟩ => h.lp, fun o o' W ⟨a, h⟩ => ⟨a, h.put h1⟩⟩
theorem lgY_rec {D : List Int} {i : Nat} {l : List Nat} {b : Nat} {wb : World} {d gB : Nat} (m : Nat) (x : Nat × Int) (h1 : gB < d) : H4.Rec (d + 1) (LgY D i l b wb d gB m x) :=
  ⟨fun o W ⟨_, _, _, h⟩ => h.lp, fun o o' W ⟨a, b, c, h⟩ => ⟨a, b, c, h.put h1⟩⟩
theorem lgX_rec {D : List Int} {i : Nat} {l : List Nat} {b : Nat} {wb : World} {d gB : Nat} (c : Code) (h1 : gB < d) : H4.Rec (d + 1) (LgX D i l b wb d gB c) :=
  ⟨fun o W ⟨_, h⟩ => h.lp, fun o o' W ⟨a, h⟩ => ⟨a, h.put h1⟩⟩

theorem rvt {l : List Nat} {k : Nat} (h : k < l.length) : l.reverse.take (l.length - k) = l.reverse.take (l.length - (k + 1)) ++ [l.getD k 0] := by
  have e : l.length - k = (l.length - (k + 1)) + 1 := by omega
  rw [e, List.take_succ_eq_append_getElem (by simp; omega)]
  congr 1
  simp only [List.getElem_reverse]
  have e2 : l.length - 1 - (l.length - (k + 1)) = k := by omega
  simp [e2, h]

theorem pick_more {D : List Int} {i : Nat} {l : List Nat} {b k : Nat} (h : k < l.length) : pick D i (l.reverse.take (l.length - k)) (b, 0) = stp D i (pick D i (l.reverse.take (l.length - (k + 1))) (b, 0)) (l.getD k 0) := by
  rw [rvt h, pick_snoc]

theorem pick_full {D : List Int} {i : Nat} {l : List Nat} {b m : Nat} (hi : i < D.length) (h : min 258 (D.length - i) ≤ (pick D i (l.reverse.take (l.length - m)) (b, 0)).1) : pick D i (l.reverse.take (l.length - m)) (b, 0) = pick D i l.reverse (b, 0) := by
  have e : pick D i l.reverse (b, 0) = pick D i (l.reverse.drop (l.length - m)) (pick D i (l.reverse.take (l.length - m)) (b, 0)) := by
    conv => lhs; rw [← List.take_append_drop (l.length - m) l.reverse]
    simp only [pick, List.foldl_append]
  refine (e.trans (pick_stay _ _ ?_)).symm
  intro j _
  have h1 := rno_le D j i
  have h2 := rno_len (j := j) hi
  omega
end Go.Proofs.Ytjldmphfdaoecaa

namespace Go.Proofs.Ytjldmphfdaoecaa
open Go.RowKit Go.Maps Go.Shelf
attribute [local go_sem] Oper.semAt_some
set_option maxRecDepth 20000
set_option linter.unusedVariables false

theorem five (w : World) (a b c d e : Obj) : ((((w.alloc a).alloc b).alloc c).alloc d |>.alloc e).heap.size = w.heap.size + 5 ∧ ((((w.alloc a).alloc b).alloc c).alloc d |>.alloc e).heap[w.heap.size]? = some a ∧ ((((w.alloc a).alloc b).alloc c).alloc d |>.alloc e).heap[w.heap.size + 1]? = some b ∧
    ((((w.alloc a).alloc b).alloc c).alloc d |>.alloc e).heap[w.heap.size + 2]? = some c ∧ ((((w.alloc a).alloc b).alloc c).alloc d |>.alloc e).heap[w.heap.size + 3]? = some d ∧ ((((w.alloc a).alloc b).alloc c).alloc d |>.alloc e).heap[w.heap.size + 4]? = some e ∧ Below w.heap.size w ((((w.alloc a).alloc b).alloc c).alloc d |>.alloc e) := by
  have s1 := size_alloc' w a
  have s2 := size_alloc' (w.alloc a) b
  have s3 := size_alloc' ((w.alloc a).alloc b) c
  have s4 := size_alloc' (((w.alloc a).alloc b).alloc c) d
  have s5 := size_alloc' ((((w.alloc a).alloc b).alloc c).alloc d) e
  have n1 := heap_alloc_new w a
  have n2 := heap_alloc_new (w.alloc a) b
  have n3 := heap_alloc_new ((w.alloc a).alloc b) c
  have n4 := heap_alloc_new (((w.alloc a).alloc b).alloc c) d
  have n5 := heap_alloc_new ((((w.alloc a).alloc b).alloc c).alloc d) e
  rw [s1] at n2
  rw [s2, s1] at n3
  rw [s3, s2, s1] at n4
  rw [s4, s3, s2, s1] at n5
  refine ⟨by omega, ?_, ?_, ?_, ?_, n5, ((((((Below.refl _ _).alloc (Nat.le_refl _) _).alloc (by omega) _).alloc (by omega) _).alloc (by omega) _).alloc (by omega) _)⟩
  · rw [Below.heap_alloc _ _ _ (by omega), Below.heap_alloc _ _ _ (by omega), Below.heap_alloc _ _ _ (by omega), Below.heap_alloc _ _ _ (by omega)]; exact n1
  · rw [Below.heap_alloc _ _ _ (by omega), Below.heap_alloc _ _ _ (by omega), Below.heap_alloc _ _ _ (by omega)]; exact n2
  · rw [Below.heap_alloc _ _ _ (by omega), Below.heap_alloc _ _ _ (by omega)]; exact n3
  · rw [Below.heap_alloc _ _ _ (by omega)]; exact n4

theorem cellOf {w : World} {g k : Nat} {cur : Array Value} {t : TypeId} {fz : Nat × Nat} {u : Value} (h : w.heap[g]? = some (.cells cur t fz)) (hk : cur[k]? = some u) : w.cell? ⟨g, k, none⟩ = some u := by
  unfold World.cell?
  simp only [h]
  exact hk

theorem frozenOf {w : World} {g k : Nat} {cur : Array Value} {t : TypeId} (h : w.heap[g]? = some (.cells cur t (0, 0))) : w.frozen? ⟨g, k, none⟩ = false := by
  unfold World.frozen?
  simp [h]

set_option maxHeartbeats 4000000 in
theorem longest_small (v pv : Value) (D : List Int) (i b K : Nat) (l : List Nat) (w : World) (h : SB w v D) (hp : SI w pv (ins l)) (hB : Byt D) (hi : i < D.length) (hn : D.length ≤ 1000000000) (hl : l.length ≤ 1000000000) (hlt : ∀ j ∈ l, j < i) (hb : b ≤ 1000)
    (hK : D.length = i + K) (hK2 : K < 258) :
    Calls Try.prog 26 #[v, .int .i64 i, pv, .int .i64 b] w fun e w' => e = .returned (.agg #[.int .i64 ((lng D i l.reverse b).1 : Nat), .int .i64 ((lng D i l.reverse b).2 : Nat), .int .u8 0]) ∧ Below w.heap.size w w' := by
  have HS := hide h
  have HP := hide hp
  have HLT := hide hlt
  have HBT := hide hB
  obtain ⟨ao, cap, rfl, hlc, hcm⟩ := h.open
  obtain ⟨po, pcap, rfl, hpc, hpm⟩ := hp.open
  obtain ⟨bb, bo, rfl, _⟩ := HS.out.get (Below.refl _ _) (k := i) hi
  have hil := ins_len l
  have HPI : Hid (SI w (.slice po (ins l).length pcap) (ins l)) := hide HP.out
  rw [hil] at hpc HP ⊢
  have HIL := hide hil
  have kK : (D.length : Int) - (i : Int) = (K : Int) := by omega
  have HM : Hid (K = min 258 (D.length - i)) := by show _ = _; omega
  have HKK := hide hK
  clear h hp hlt hB hil hK
  have hk3 : (K : Int) < 258 := by omega
  refine (callsIn_wide (n := 3)).1 ?_
  refine callsIn_of_wp_marks Try.func26 rfl trivial ?_ rfl
  simp only [Try.ntmps26, List.size_toArray, List.length_cons, List.length_nil, Nat.reduceAdd, Nat.reduceSub, Array.replicate_succ, Array.replicate_zero, List.push_toArray, List.append_toArray, List.nil_append, List.cons_append]
  gi_wp2_with fail
  obtain ⟨w5, hw5⟩ : ∃ w5, (((((w.alloc (.cells #[.slice (some ⟨bb, bo, none⟩) D.length cap] 22)).alloc (.cells #[.int .i64 (i : Int)] 3)).alloc (.cells #[.int .i64 0, .int .i64 0, .int .u8 0] 38)).alloc (.cells #[.int .i64 (K : Int)] 3)).alloc (.cells #[.int .i64 (b : Int), .int .i64 0, .int .u8 0] 38)) = w5 := ⟨_, rfl⟩
  have hfv := five w (.cells #[.slice (some ⟨bb, bo, none⟩) D.length cap] 22) (.cells #[.int .i64 (i : Int)] 3) (.cells #[.int .i64 0, .int .i64 0, .int .u8 0] 38) (.cells #[.int .i64 (K : Int)] 3) (.cells #[.int .i64 (b : Int), .int .i64 0, .int .u8 0] 38)
  rw [hw5] at hfv ⊢
  clear hw5
  refine ⟨trivial, (callsIn_wide.2 (bwd_any _ _ _ _)).mono ?_⟩
  rintro e w6 ⟨rfl, hw6⟩
  obtain ⟨z5, f0, f1, f2, f3, f4, fb⟩ := hfv
  obtain ⟨n0, hn0⟩ : ∃ n, w.heap.size = n := ⟨_, rfl⟩
  have HN0 := hide hn0
  obtain ⟨gA, hgA⟩ : ∃ g, n0 + 1 = g := ⟨_, rfl⟩
  obtain ⟨gR, hgR⟩ : ∃ g, gA + 1 = g := ⟨_, rfl⟩
  obtain ⟨gM, hgM⟩ : ∃ g, gR + 1 = g := ⟨_, rfl⟩
  obtain ⟨gB, hgB⟩ : ∃ g, gM + 1 = g := ⟨_, rfl⟩
  obtain ⟨Bx, hBx⟩ : ∃ g, w5.heap.size = g := ⟨_, rfl⟩
  rw [hn0, hgA, hgR, hgM, hgB, hBx]
  have q0 : n0 < Bx ∧ gA < Bx ∧ gR < Bx ∧ gM < Bx ∧ gB < Bx ∧ n0 ≠ gB ∧ gA ≠ gB ∧ gR ≠ gB ∧ gM ≠ gB ∧ n0 ≤ gA ∧ n0 ≤ gR ∧ n0 ≤ gM ∧ n0 ≤ gB ∧ gR ≠ n0 ∧ gR ≠ gA ∧ gR ≠ gM := by omega
  have e0 : w.heap.size + 1 = gA ∧ w.heap.size + 2 = gR ∧ w.heap.size + 3 = gM ∧ w.heap.size + 4 = gB := by omega
  rw [e0.1] at f1
  rw [e0.2.1] at f2
  rw [e0.2.2.1] at f3
  rw [e0.2.2.2] at f4
  rw [hn0] at f0
  have b6 : Below w5.heap.size w5 w6 := by rw [hw6]; exact (Below.refl _ _).alloc (Nat.le_refl _) _
  have z6 : w6.heap.size = Bx + 1 := by rw [hw6, size_alloc', hBx]
  have g0 : w6.heap[n0]? = some (.cells #[.slice (some ⟨bb, bo, none⟩) D.length cap] 22 (0, 0)) := by rw [b6.block _ (by omega)]; exact f0
  have g1 : w6.heap[gA]? = some (.cells #[.int .i64 (i : Int)] 3 (0, 0)) := by rw [b6.block _ (by omega)]; exact f1
  have g2 : w6.heap[gR]? = some (.cells #[.int .i64 0, .int .i64 0, .int .u8 0] 38 (0, 0)) := by rw [b6.block _ (by omega)]; exact f2
  have g3 : w6.heap[gM]? = some (.cells #[.int .i64 (K : Int)] 3 (0, 0)) := by rw [b6.block _ (by omega)]; exact f3
  have g4 : w6.heap[gB]? = some (.cells #[.int .i64 (b : Int), .int .i64 0, .int .u8 0] 38 (0, 0)) := by rw [b6.block _ (by omega)]; exact f4
  have g5 : w6.heap[Bx]? = some (.cells #[.slice po l.length pcap] 54 (0, 0)) := by rw [hw6, ← hBx]; exact heap_alloc_new w5 _
  have g6 : Below n0 w w6 := by rw [← hn0]; exact fb.trans (b6.mono (by omega))
  have HL6 := hide (And.intro g0 (And.intro g1 (And.intro g2 (And.intro g3 (And.intro g4 (And.intro g5 g6))))))
  obtain ⟨d, hd⟩ : ∃ d, w6.heap.size = d := ⟨_, rfl⟩
  have hdB : Bx + 1 ≤ d ∧ d ≤ Bx + 1 := by omega
  have HD := hide hd
  have hgd : gB < w6.heap.size := by omega
  have HGD := hide hgd
  have hnw : w.heap.size ≤ n0 ∧ n0 ≤ w.heap.size := by omega
  clear z5 f0 f1 f2 f3 f4 fb hn0 hgA hgR hgM hgB hBx e0 b6 hw6 z6 g0 g1 g2 g3 g4 g5 g6 hd
  gi_wp2_with fail
  refine wp_range2 (α := Nat × Int) l.length rfl (by decide) (gf := 32) (lb := #[.pointer (some ⟨Bx, 0, none⟩)]) rfl trivial (enters_of Try.func32 (by kernel_rfl) rfl)
    (encs := fun x => #[.int .i64 (x.1 : Int), .int .i64 x.2]) (fun _ => rfl) (LgI D i l b w6 w6.heap.size gB) (LgY D i l b w6 w6.heap.size gB) (LgI D i l b w6 w6.heap.size gB 0) (LgX D i l b w6 w6.heap.size gB)
    (fun m => lgI_rec m hgd) (fun m x => lgY_rec m x hgd) (lgI_rec 0 hgd) (fun c => lgX_rec c hgd) ?start ?seq ?a1 ?assign ?body ?done ?stop
  case start =>
    intro o
    obtain ⟨p0, p1, p2, p3, p4, p5, p6⟩ := HL6.out
    have hlt : ∀ k, k < w6.heap.size → ((w6.alloc (.deferred (some []))).alloc o).heap[k]? = w6.heap[k]? := fun k hk => by
      rw [Below.heap_alloc _ _ _ (by simp; omega), Below.heap_alloc _ _ _ hk]
    refine ⟨Nat.le_refl _, ⟨(heap_two w6 _ o).2, (heap_two w6 _ o).1, rfl, rfl, rfl, by simp, fun k hk _ => hlt k hk, ?_⟩⟩
    rw [hlt _ hgd, p4]
    simp [pick]
  case seq =>
    intro o Jx hY W hW
    refine bwd_in (w6.heap.size + 1) Bx po pcap l.length hl (fun m W => LgI D i l b w6 w6.heap.size gB m o W) (fun m x W => LgY D i l b w6 w6.heap.size gB m x o W) (LgI D i l b w6 w6.heap.size gB 0 o) Jx (fun m W hm => ?_) hY W hW Fence.wide rfl
    obtain ⟨hmL, hL⟩ := hm
    obtain ⟨p0, p1, p2, p3, p4, p5, p6⟩ := HL6.out
    have hd' := HD.out
    refine ⟨hmL, ?_, fun e => by subst e; exact ⟨hmL, hL⟩, fun k hk => ?_⟩
    · rw [hL.cell (by show Bx < _; omega) (by show Bx ≠ _; omega)]
      exact cellOf p5 rfl
    · obtain ⟨bp, ff, e1, c1⟩ := HPI.out.get (w := w6) (p6.mono (by omega)) (k := k) (by rw [HIL.out]; omega)
      have hbw : bp < w.heap.size := by
        obtain ⟨bp', ff', e1', c1'⟩ := HPI.out.get (w := w) (Below.refl _ _) (k := k) (by rw [HIL.out]; omega)
        rw [e1] at e1'
        simp only [Option.some.injEq, Addr.mk.injEq, and_true] at e1'
        rw [e1'.1]
        exact World.block_lt_of_cell? w _ c1'
      have hg : (ins l).getD k 0 = ((l.getD k 0 : Nat) : Int) := by
        have : k < l.length := by omega
        simp [ins, this]
      rw [hg] at c1
      exact ⟨bp, ff, _, e1, by rw [hL.cell (by show bp < _; omega) (by show bp ≠ _; omega)]; exact c1, hk, rfl, hmL, hL⟩
  case assign =>
    intro x W K hK
    gi_wp2
    exact hK
  case body =>
    rintro m ⟨k, u⟩ o W ⟨hm, hu, hmL, hL⟩
    simp only at hm hu
    obtain ⟨j, hj⟩ : ∃ j, j = l.getD k 0 := ⟨_, rfl⟩
    have hkl : k < l.length := by omega
    have hji : j < i := HLT.out j (by rw [hj]; simp [hkl])
    have HPM := hide (pick_more (D := D) (i := i) (b := b) hkl)
    rw [← hj] at hu HPM
    subst hu
    subst hm
    obtain ⟨s, hs⟩ : ∃ s, s = pick D i (l.reverse.take (l.length - (k + 1))) (b, 0) := ⟨_, rfl⟩
    have HPF := hide (pick_full (D := D) (i := i) (l := l) (b := b) (m := k + 1) hi)
    rw [← hs] at HPM HPF hL
    rw [← HM.out] at HPF
    obtain ⟨s1, s2⟩ := s
    obtain ⟨p0, p1, p2, p3, p4, p5, p6⟩ := HL6.out
    have hd' := HD.out
    have c0 : W.cell? ⟨n0, 0, none⟩ = some (.slice (some ⟨bb, bo, none⟩) D.length cap) := by rw [hL.cell (by show n0 < _; omega) (by show n0 ≠ _; omega)]; exact cellOf p0 rfl
    have c1 : W.cell? ⟨gA, 0, none⟩ = some (.int .i64 (i : Int)) := by rw [hL.cell (by show gA < _; omega) (by show gA ≠ _; omega)]; exact cellOf p1 rfl
    have c3 : W.cell? ⟨gM, 0, none⟩ = some (.int .i64 (K : Int)) := by rw [hL.cell (by show gM < _; omega) (by show gM ≠ _; omega)]; exact cellOf p3 rfl
    have c4 : W.cell? ⟨gB, 0, none⟩ = some (.int .i64 (s1 : Int)) := cellOf hL.best rfl
    have HLL := hide hL
    clear p0 p1 p2 p3 p4 p5 p6 hd' hL hs hj
    by_cases hfull : K ≤ s1
    · have gf : decide ((K : Int) ≤ (s1 : Int)) = true := decide_eq_true (by omega)
      have gf2 : decide (K ≤ s1) = true := decide_eq_true hfull
      have HX := hide (HPF.out hfull)
      gi_wp2
      exact ⟨rfl, by rw [← HX.out]; exact HLL.out⟩
    · have gf : decide ((K : Int) ≤ (s1 : Int)) = false := decide_eq_false (by omega)
      have gf2 : decide (K ≤ s1) = false := decide_eq_false hfull
      obtain ⟨n, hnn⟩ : ∃ n, n = s1 + 1 := ⟨_, rfl⟩
      have en : (s1 : Int) + 1 = (n : Int) := by omega
      have HNN := hide hnn
      have hnM : n ≤ 258 ∧ i + n ≤ D.length := by have := HM.out; have := HKK.out; omega
      have hDC : ∀ k, k < D.length → W.cell? ⟨bb, bo + k, none⟩ = some (.int .u8 (D.getD k 0)) := fun k hk => by
        obtain ⟨b1, o1, e1, y1⟩ := HS.out.get (Below.refl _ _) hk
        simp only [Option.some.injEq, Addr.mk.injEq, and_true] at e1
        obtain ⟨rfl, rfl⟩ := e1
        have hbw := World.block_lt_of_cell? w _ y1
        have hd' := HD.out
        obtain ⟨p0, p1, p2, p3, p4, p5, p6⟩ := HL6.out
        rw [HLL.out.cell (by show bb < _; simp only at hbw; omega) (by show bb ≠ _; simp only at hbw; omega), p6.cell (by show bb < _; simp only at hbw; omega)]
        exact y1
      have HDC := hide hDC
      have HEQ : Hid (∀ q, CallsIn Fence.wide 0 Try.prog 30 #[.slice (some ⟨bb, bo + j, none⟩) n (cap - j), .slice (some ⟨bb, bo + i, none⟩) n (cap - i)] (W.drewN q) fun e w'' => e = .returned (.bool (decide (n ≤ rno D j i))) ∧ ∃ m, w'' = W.drewN m) := fun q =>
        (callsIn_wide.2 (equal_any D j i n bb bo (cap - j) (cap - i) (W.drewN q) HBT.out (fun k hk => hDC k hk) hji hnM.2 hnM.1)).mono fun _ _ ⟨h1, h2⟩ => ⟨h1, q, h2⟩
      have k1 : IntKind.i64.wrap ((j : Int) + (n : Int)) = (j : Int) + (n : Int) := by rw [IntKind.wrap_i64]; omega
      have k2 : IntKind.i64.wrap ((i : Int) + (n : Int)) = (i : Int) + (n : Int) := by rw [IntKind.wrap_i64]; omega
      have t1 : ((j : Int) + (n : Int)).toNat = j + n := by omega
      have t2 : ((i : Int) + (n : Int)).toNat = i + n := by omega
      have b1 : (j : Int) + (n : Int) ≤ (cap : Int) := by omega
      have b2 : (i : Int) + (n : Int) ≤ (cap : Int) := by omega
      have b3 : (j : Int) ≤ (j : Int) + (n : Int) := by omega
      have b4 : (i : Int) ≤ (i : Int) + (n : Int) := by omega
      have n1 : ¬ cap = j := by omega
      have n2 : ¬ cap = i := by omega
      clear hDC hnn
      gi_wp2
      clear en
      refine wpIn_quiet_round (F := Fence.wide) (n := 1) _ rfl mixd (by kernel_rfl) (by kernel_rfl) ?_
      have hfw : ∀ f, Fence.wide.fn f = True := fun _ => rfl
      repeat (gi_big_quiet_step (first | (gi_at_call 30; exact HEQ.out _)))
      refine wpQuietIn_nil ?_
      intro _ hw'
      obtain ⟨nq, hw''⟩ := hw'
      subst hw''
      have HL7 := hide (HLL.out.drewN nq)
      obtain ⟨W7, hW7⟩ : ∃ w7, W.drewN nq = w7 := ⟨_, rfl⟩
      have HDC7 : Hid (∀ k, k < D.length → W7.cell? ⟨bb, bo + k, none⟩ = some (.int .u8 (D.getD k 0))) := fun k hk => by rw [← hW7]; exact HDC.out k hk
      have x0 : W7.cell? ⟨n0, 0, none⟩ = some (.slice (some ⟨bb, bo, none⟩) D.length cap) := by rw [← hW7]; exact c0
      have x1 : W7.cell? ⟨gA, 0, none⟩ = some (.int .i64 (i : Int)) := by rw [← hW7]; exact c1
      have x3 : W7.cell? ⟨gM, 0, none⟩ = some (.int .i64 (K : Int)) := by rw [← hW7]; exact c3
      rw [hW7] at HL7 ⊢
      clear hW7 HEQ hfw c0 c1 c3 c4 HLL HDC k1 k2 t1 t2 b1 b2 b3 b4
      by_cases hrn : n ≤ rno D j i
      · have HRT : Hid (decide (n ≤ rno D j i) = true) := decide_eq_true hrn
        rw [HRT.out]
        have HNX : Hid (stp D i (s1, s2) j = (rno D j i, i - j)) := by show _ = _; unfold stp; rw [if_pos (by show s1 < _; have := HNN.out; omega)]
        rw [HNX.out] at HPM
        have hSB7 : SB W7.drew (.slice (some ⟨bb, bo, none⟩) D.length cap) D := by
          obtain ⟨ao', cap', he, h1, h2, h3, h4⟩ := HS.out
          simp only [Value.slice.injEq] at he
          obtain ⟨rfl, -, rfl⟩ := he
          refine ⟨_, _, rfl, h1, h2, h3, fun x hx q hq => ?_⟩
          cases hx
          rw [Addr.add_lit]
          exact HDC7.out q hq
        have HRU : Hid (Calls Try.prog 31 #[.slice (some ⟨bb, bo, none⟩) D.length cap, .int .i64 (j : Int), .int .i64 (i : Int), .int .i64 (n : Int), .int .i64 (K : Int)] W7.drew fun e w' => e = .returned (.int .i64 (rno D j i : Nat)) ∧ ∃ n, w' = W7.drew.drewN n) := mrun_any _ D j i n K W7.drew hSB7 hji hi hn hrn HM.out
        have hrb := rno_le D j i
        obtain ⟨r, HR⟩ : ∃ r, Hid (r = rno D j i) := ⟨_, rfl⟩
        rw [← HR.out] at HRU HPM hrb
        have y0 : IntKind.i64.wrap ((i : Int) - (j : Int)) = (i : Int) - (j : Int) := by rw [IntKind.wrap_i64]; omega
        have y1 : (i : Int) - (j : Int) = ((i - j : Nat) : Int) := by omega
        obtain ⟨ds, hds⟩ : ∃ ds, ds = i - j := ⟨_, rfl⟩
        rw [← hds] at HPM y1
        have y2 : IntKind.i64.wrap (ds : Int) = (ds : Int) := by rw [IntKind.wrap_i64]; omega
        clear hrn hds hSB7
        gi_wp2
        refine wpIn_held_round _ (fun W => W.cell? ⟨n0, 0, none⟩ = some (.slice (some ⟨bb, bo, none⟩) D.length cap) ∧ W.cell? ⟨gA, 0, none⟩ = some (.int .i64 (i : Int)) ∧ W.cell? ⟨gM, 0, none⟩ = some (.int .i64 (K : Int))) mixd (by kernel_rfl) (fun ⟨_, _, h⟩ => h) ?_
        have hS : W7.drew.cell? ⟨n0, 0, none⟩ = some (.slice (some ⟨bb, bo, none⟩) D.length cap) ∧ W7.drew.cell? ⟨gA, 0, none⟩ = some (.int .i64 (i : Int)) ∧ W7.drew.cell? ⟨gM, 0, none⟩ = some (.int .i64 (K : Int)) := ⟨x0, x1, x3⟩
        refine wpAnyH_take (i := 0) (v := .slice (some ⟨bb, bo, none⟩) D.length cap) rfl (by kernel_rfl) (by kernel_rfl) (by kernel_rfl) (fun _ _ _ h => h) (Or.inl ⟨by rfl, fun w hw => by obtain ⟨s1, s2, s3⟩ := hw; go_simp⟩) hS ?_
        refine wpAnyH_take (i := 1) (v := .int .i64 (j : Int)) rfl (by kernel_rfl) (by kernel_rfl) (by kernel_rfl) (fun _ _ _ h => h) (Or.inl ⟨by rfl, fun w hw => by obtain ⟨s1, s2, s3⟩ := hw; go_simp⟩) hS ?_
        refine wpAnyH_take (i := 2) (v := .int .i64 (i : Int)) rfl (by kernel_rfl) (by kernel_rfl) (by kernel_rfl) (fun _ _ _ h => h) (Or.inl ⟨by rfl, fun w hw => by obtain ⟨s1, s2, s3⟩ := hw; go_simp⟩) hS ?_
        refine wpAnyH_take (i := 3) (v := .int .i64 (n : Int)) rfl (by kernel_rfl) (by kernel_rfl) (by kernel_rfl) (fun _ _ _ h => h) (Or.inl ⟨by rfl, fun w hw => by obtain ⟨s1, s2, s3⟩ := hw; go_simp⟩) hS ?_
        refine wpAnyH_take (i := 4) (v := .int .i64 (K : Int)) rfl (by kernel_rfl) (by kernel_rfl) (by kernel_rfl) (fun _ _ _ h => h) (Or.inl ⟨by rfl, fun w hw => by obtain ⟨s1, s2, s3⟩ := hw; go_simp⟩) hS ?_
        refine wpAnyH_take (i := 6) (v := .int .i64 (i : Int)) rfl (by kernel_rfl) (by kernel_rfl) (by kernel_rfl) (fun _ _ _ h => h) (Or.inl ⟨by rfl, fun w hw => by obtain ⟨s1, s2, s3⟩ := hw; go_simp⟩) hS ?_
        refine wpAnyH_take (i := 7) (v := .int .i64 (j : Int)) rfl (by kernel_rfl) (by kernel_rfl) (by kernel_rfl) (fun _ _ _ h => h) (Or.inl ⟨by rfl, fun w hw => by obtain ⟨s1, s2, s3⟩ := hw; go_simp⟩) hS ?_
        refine wpAnyH_take (i := 8) (v := .int .i64 (ds : Int)) rfl (by kernel_rfl) (by kernel_rfl) (by kernel_rfl) (fun _ _ _ h => h) (Or.inl ⟨by rfl, fun w hw => by obtain ⟨s1, s2, s3⟩ := hw; go_simp⟩) hS ?_
        refine wpAnyH_all (rs := [5]) (by kernel_rfl) (by simp) (fun q hq => ?_)
        obtain rfl : q = 5 := by simpa using hq
        refine held_call rfl rfl #[.tmp 45, .tmp 46, .tmp 47, .tmp 48, .tmp 49] _ 31 rfl Try.call31 #[.slice (some ⟨bb, bo, none⟩) D.length cap, .int .i64 (j : Int), .int .i64 (i : Int), .int .i64 (n : Int), .int .i64 (K : Int)] (by simp [Act.eval, Act.put]) HRU.out ?_
        rintro e w8 ⟨rfl, n8, hw8⟩
        subst hw8
        refine ⟨_, rfl, hS, ?_⟩
        clear hq HRU
        have hS8 : (W7.drew.drewN n8).cell? ⟨n0, 0, none⟩ = some (.slice (some ⟨bb, bo, none⟩) D.length cap) ∧ (W7.drew.drewN n8).cell? ⟨gA, 0, none⟩ = some (.int .i64 (i : Int)) ∧ (W7.drew.drewN n8).cell? ⟨gM, 0, none⟩ = some (.int .i64 (K : Int)) := ⟨x0, x1, x3⟩
        refine wpAnyH_take (i := 9) (v := .agg #[.int .i64 (r : Int), .int .i64 (ds : Int), .int .u8 0]) rfl (by kernel_rfl) (by kernel_rfl) (by kernel_rfl) (fun _ _ _ h => h) (Or.inl ⟨by rfl, fun w hw => by obtain ⟨s1, s2, s3⟩ := hw; go_simp⟩) hS8 ?_
        refine wpAnyH_all (rs := [10]) (by kernel_rfl) (by simp) (fun q hq => ?_)
        obtain rfl : q = 10 := by simpa using hq
        have HL8 := hide (HL7.out.drew.drewN n8)
        obtain ⟨W8, hW8⟩ : ∃ W8, W7.drew.drewN n8 = W8 := ⟨_, rfl⟩
        rw [hW8] at HL8 hS8 ⊢
        clear hW8 hS x0 x1 x3 hq HL7 HDC7
        have z0 : W8.cell? ⟨gB, 0, none⟩ = some (.int .i64 (s1 : Int)) := cellOf HL8.out.best rfl
        have z1 : W8.cell? ⟨gB, 1, none⟩ = some (.int .i64 (s2 : Int)) := cellOf HL8.out.best rfl
        have z2 : W8.cell? ⟨gB, 2, none⟩ = some (.int .u8 0) := cellOf HL8.out.best rfl
        have z3 : W8.frozen? ⟨gB, 0, none⟩ = false := frozenOf HL8.out.best
        have z4 : W8.frozen? ⟨gB, 1, none⟩ = false := frozenOf HL8.out.best
        have z5 : W8.frozen? ⟨gB, 2, none⟩ = false := frozenOf HL8.out.best
        unfold wpOp
        refine .inl ?_
        unfold Oper.wp
        go_simp
        have HL9 := hide (HL8.out.set3 hgd r ds)
        rw [← HPM.out] at HL9
        clear z0 z1 z2 z3 z4 z5 hS8 HL8 HPM
        refine wpAnyH_done (by kernel_rfl) ?_ _
        gi_wp2
        exact ⟨k, rfl, by omega, HL9.out⟩
      · have HRT : Hid (decide (n ≤ rno D j i) = false) := decide_eq_false hrn
        rw [HRT.out]
        have HNX : Hid (stp D i (s1, s2) j = (s1, s2)) := by show _ = _; unfold stp; rw [if_neg (by show ¬ s1 < _; have := HNN.out; omega)]
        rw [HNX.out] at HPM
        rw [← HPM.out] at HL7
        clear hrn HPM
        gi_wp2
        exact ⟨k, rfl, by omega, HL7.out⟩
  case done =>
    rintro o W ⟨_, hL⟩
    have e0 : l.reverse.take (l.length - 0) = l.reverse := by rw [Nat.sub_zero, List.take_of_length_le (by simp)]
    rw [e0] at hL
    clear e0
    obtain ⟨p0, p1, p2, p3, p4, p5, p6⟩ := HL6.out
    have hd' := HD.out
    have HLG : Hid (lng D i l.reverse b = if (pick D i l.reverse (b, 0)).2 = 0 then (0, 0) else pick D i l.reverse (b, 0)) := rfl
    obtain ⟨s, hs⟩ : ∃ s, s = pick D i l.reverse (b, 0) := ⟨_, rfl⟩
    rw [← hs] at hL HLG
    obtain ⟨s1, s2⟩ := s
    have z0 : W.cell? ⟨gB, 0, none⟩ = some (.int .i64 (s1 : Int)) := cellOf hL.best rfl
    have z1 : W.cell? ⟨gB, 1, none⟩ = some (.int .i64 (s2 : Int)) := cellOf hL.best rfl
    have z2 : W.cell? ⟨gB, 2, none⟩ = some (.int .u8 0) := cellOf hL.best rfl
    have hR : W.heap[gR]? = some (.cells #[.int .i64 0, .int .i64 0, .int .u8 0] 38 (0, 0)) := by rw [hL.blk gR (by omega) (by omega)]; exact p2
    have r0 : W.cell? ⟨gR, 0, none⟩ = some (.int .i64 0) := cellOf hR rfl
    have r1 : W.cell? ⟨gR, 1, none⟩ = some (.int .i64 0) := cellOf hR rfl
    have r2 : W.cell? ⟨gR, 2, none⟩ = some (.int .u8 0) := cellOf hR rfl
    have r3 : W.frozen? ⟨gR, 0, none⟩ = false := frozenOf hR
    have r4 : W.frozen? ⟨gR, 1, none⟩ = false := frozenOf hR
    have r5 : W.frozen? ⟨gR, 2, none⟩ = false := frozenOf hR
    have hRB : ¬ gR = gB := by omega
    have HLL := hide hL
    have HRR := hide hR
    clear hs hL hR p0 p1 p2 p3 p4 p5 p6 hd'
    by_cases h0 : s2 = 0
    · subst h0
      gi_wp2
      have hF := lst_end (w := w) (n0 := n0) HLL.out HRR.out rfl (.int .i64 0) (.int .i64 0) (.int .u8 0) (by have := HD.out; omega) (by omega) (by omega) (by omega) (by have := HD.out; omega) HN0.out HL6.out.2.2.2.2.2.2
      have HFF := hide hF
      have HLE : Hid (lng D i l.reverse b = (0, 0)) := by show _ = _; rw [HLG.out]; rfl
      clear hF z0 z1 z2 r0 r1 r2 r3 r4 r5
      refine ⟨by simp, .inl ⟨_, _, rfl, run_takeDeferred HFF.out.1, ?_⟩⟩
      rw [HLE.out]
      exact ⟨_, results_cell_row rfl _ _ gR 38 _ (0, 0) _ rfl HFF.out.2.1 Try.underlying38 rfl (by kernel_rfl), rfl, HFF.out.2.2⟩
    · have g0 : ((s2 : Int) == 0) = false := by simp; omega
      gi_wp2
      have hF := lst_end (w := w) (n0 := n0) HLL.out HRR.out rfl (.int .i64 (s1 : Int)) (.int .i64 (s2 : Int)) (.int .u8 0) (by have := HD.out; omega) (by omega) (by omega) (by omega) (by have := HD.out; omega) HN0.out HL6.out.2.2.2.2.2.2
      have HFF := hide hF
      have HLE : Hid (lng D i l.reverse b = (s1, s2)) := by show _ = _; rw [HLG.out]; rw [if_neg h0]
      clear hF z0 z1 z2 r0 r1 r2 r3 r4 r5
      refine ⟨by simp, .inl ⟨_, _, rfl, run_takeDeferred HFF.out.1, ?_⟩⟩
      rw [HLE.out]
      exact ⟨_, results_cell_row rfl _ _ gR 38 _ (0, 0) _ rfl HFF.out.2.1 Try.underlying38 rfl (by kernel_rfl), rfl, HFF.out.2.2⟩
  case stop =>
    rintro c o W ⟨rfl, hL⟩
    obtain ⟨p0, p1, p2, p3, p4, p5, p6⟩ := HL6.out
    have hd' := HD.out
    have HLG : Hid (lng D i l.reverse b = if (pick D i l.reverse (b, 0)).2 = 0 then (0, 0) else pick D i l.reverse (b, 0)) := rfl
    obtain ⟨s, hs⟩ : ∃ s, s = pick D i l.reverse (b, 0) := ⟨_, rfl⟩
    rw [← hs] at hL HLG
    obtain ⟨s1, s2⟩ := s
    have z0 : W.cell? ⟨gB, 0, none⟩ = some (.int .i64 (s1 : Int)) := cellOf hL.best rfl
    have z1 : W.cell? ⟨gB, 1, none⟩ = some (.int .i64 (s2 : Int)) := cellOf hL.best rfl
    have z2 : W.cell? ⟨gB, 2, none⟩ = some (.int .u8 0) := cellOf hL.best rfl
    have hR : W.heap[gR]? = some (.cells #[.int .i64 0, .int .i64 0, .int .u8 0] 38 (0, 0)) := by rw [hL.blk gR (by omega) (by omega)]; exact p2
    have r0 : W.cell? ⟨gR, 0, none⟩ = some (.int .i64 0) := cellOf hR rfl
    have r1 : W.cell? ⟨gR, 1, none⟩ = some (.int .i64 0) := cellOf hR rfl
    have r2 : W.cell? ⟨gR, 2, none⟩ = some (.int .u8 0) := cellOf hR rfl
    have r3 : W.frozen? ⟨gR, 0, none⟩ = false := frozenOf hR
    have r4 : W.frozen? ⟨gR, 1, none⟩ = false := frozenOf hR
    have r5 : W.frozen? ⟨gR, 2, none⟩ = false := frozenOf hR
    have hRB : ¬ gR = gB := by omega
    have HLL := hide hL
    have HRR := hide hR
    clear hs hL hR p0 p1 p2 p3 p4 p5 p6 hd'
    by_cases h0 : s2 = 0
    · subst h0
      gi_wp2
      have hF := lst_end (w := w) (n0 := n0) HLL.out HRR.out rfl (.int .i64 0) (.int .i64 0) (.int .u8 0) (by have := HD.out; omega) (by omega) (by omega) (by omega) (by have := HD.out; omega) HN0.out HL6.out.2.2.2.2.2.2
      have HFF := hide hF
      have HLE : Hid (lng D i l.reverse b = (0, 0)) := by show _ = _; rw [HLG.out]; rfl
      clear hF z0 z1 z2 r0 r1 r2 r3 r4 r5
      refine ⟨by simp, .inl ⟨_, _, rfl, run_takeDeferred HFF.out.1, ?_⟩⟩
      rw [HLE.out]
      exact ⟨_, results_cell_row rfl _ _ gR 38 _ (0, 0) _ rfl HFF.out.2.1 Try.underlying38 rfl (by kernel_rfl), rfl, HFF.out.2.2⟩
    · have g0 : ((s2 : Int) == 0) = false := by simp; omega
      gi_wp2
      have hF := lst_end (w := w) (n0 := n0) HLL.out HRR.out rfl (.int .i64 (s1 : Int)) (.int .i64 (s2 : Int)) (.int .u8 0) (by have := HD.out; omega) (by omega) (by omega) (by omega) (by have := HD.out; omega) HN0.out HL6.out.2.2.2.2.2.2
      have HFF := hide hF
      have HLE : Hid (lng D i l.reverse b = (s1, s2)) := by show _ = _; rw [HLG.out]; rw [if_neg h0]
      clear hF z0 z1 z2 r0 r1 r2 r3 r4 r5
      refine ⟨by simp, .inl ⟨_, _, rfl, run_takeDeferred HFF.out.1, ?_⟩⟩
      rw [HLE.out]
      exact ⟨_, results_cell_row rfl _ _ gR 38 _ (0, 0) _ rfl HFF.out.2.1 Try.underlying38 rfl (by kernel_rfl), rfl, HFF.out.2.2⟩

set_option maxHeartbeats 4000000 in
theorem longest_big (v pv : Value) (D : List Int) (i b K : Nat) (l : List Nat) (w : World) (h : SB w v D) (hp : SI w pv (ins l)) (hB : Byt D) (hi : i < D.length) (hn : D.length ≤ 1000000000) (hl : l.length ≤ 1000000000) (hlt : ∀ j ∈ l, j < i) (hb : b ≤ 1000)
    (hK : D.length = i + K) (hK2 : 258 ≤ K) :
    Calls Try.prog 26 #[v, .int .i64 i, pv, .int .i64 b] w fun e w' => e = .returned (.agg #[.int .i64 ((lng D i l.reverse b).1 : Nat), .int .i64 ((lng D i l.reverse b).2 : Nat), .int .u8 0]) ∧ Below w.heap.size w w' := by
  have HS := hide h
  have HP := hide hp
  have HLT := hide hlt
  have HBT := hide hB
  obtain ⟨ao, cap, rfl, hlc, hcm⟩ := h.open
  obtain ⟨po, pcap, rfl, hpc, hpm⟩ := hp.open
  obtain ⟨bb, bo, rfl, _⟩ := HS.out.get (Below.refl _ _) (k := i) hi
  have hil := ins_len l
  have HPI : Hid (SI w (.slice po (ins l).length pcap) (ins l)) := hide HP.out
  rw [hil] at hpc HP ⊢
  have HIL := hide hil
  have kK : (D.length : Int) - (i : Int) = (K : Int) := by omega
  have HM : Hid (258 = min 258 (D.length - i)) := by show _ = _; omega
  have HKK := hide hK
  clear h hp hlt hB hil hK
  have hk3 : ¬ (K : Int) < 258 := by omega
  refine (callsIn_wide (n := 3)).1 ?_
  refine callsIn_of_wp_marks Try.func26 rfl trivial ?_ rfl
  simp only [Try.ntmps26, List.size_toArray, List.length_cons, List.length_nil, Nat.reduceAdd, Nat.reduceSub, Array.replicate_succ, Array.replicate_zero, List.push_toArray, List.append_toArray, List.nil_append, List.cons_append]
  gi_wp2_with fail
  obtain ⟨w5, hw5⟩ : ∃ w5, (((((w.alloc (.cells #[.slice (some ⟨bb, bo, none⟩) D.length cap] 22)).alloc (.cells #[.int .i64 (i : Int)] 3)).alloc (.cells #[.int .i64 0, .int .i64 0, .int .u8 0] 38)).alloc (.cells #[.int .i64 258] 3)).alloc (.cells #[.int .i64 (b : Int), .int .i64 0, .int .u8 0] 38)) = w5 := ⟨_, rfl⟩
  have hfv := five w (.cells #[.slice (some ⟨bb, bo, none⟩) D.length cap] 22) (.cells #[.int .i64 (i : Int)] 3) (.cells #[.int .i64 0, .int .i64 0, .int .u8 0] 38) (.cells #[.int .i64 258] 3) (.cells #[.int .i64 (b : Int), .int .i64 0, .int .u8 0] 38)
  rw [hw5] at hfv ⊢
  clear hw5
  refine ⟨trivial, (callsIn_wide.2 (bwd_any _ _ _ _)).mono ?_⟩
  rintro e w6 ⟨rfl, hw6⟩
  obtain ⟨z5, f0, f1, f2, f3, f4, fb⟩ := hfv
  obtain ⟨n0, hn0⟩ : ∃ n, w.heap.size = n := ⟨_, rfl⟩
  have HN0 := hide hn0
  obtain ⟨gA, hgA⟩ : ∃ g, n0 + 1 = g := ⟨_, rfl⟩
  obtain ⟨gR, hgR⟩ : ∃ g, gA + 1 = g := ⟨_, rfl⟩
  obtain ⟨gM, hgM⟩ : ∃ g, gR + 1 = g := ⟨_, rfl⟩
  obtain ⟨gB, hgB⟩ : ∃ g, gM + 1 = g := ⟨_, rfl⟩
  obtain ⟨Bx, hBx⟩ : ∃ g, w5.heap.size = g := ⟨_, rfl⟩
  rw [hn0, hgA, hgR, hgM, hgB, hBx]
  have q0 : n0 < Bx ∧ gA < Bx ∧ gR < Bx ∧ gM < Bx ∧ gB < Bx ∧ n0 ≠ gB ∧ gA ≠ gB ∧ gR ≠ gB ∧ gM ≠ gB ∧ n0 ≤ gA ∧ n0 ≤ gR ∧ n0 ≤ gM ∧ n0 ≤ gB ∧ gR ≠ n0 ∧ gR ≠ gA ∧ gR ≠ gM := by omega
  have e0 : w.heap.size + 1 = gA ∧ w.heap.size + 2 = gR ∧ w.heap.size + 3 = gM ∧ w.heap.size + 4 = gB := by omega
  rw [e0.1] at f1
  rw [e0.2.1] at f2
  rw [e0.2.2.1] at f3
  rw [e0.2.2.2] at f4
  rw [hn0] at f0
  have b6 : Below w5.heap.size w5 w6 := by rw [hw6]; exact (Below.refl _ _).alloc (Nat.le_refl _) _
  have z6 : w6.heap.size = Bx + 1 := by rw [hw6, size_alloc', hBx]
  have g0 : w6.heap[n0]? = some (.cells #[.slice (some ⟨bb, bo, none⟩) D.length cap] 22 (0, 0)) := by rw [b6.block _ (by omega)]; exact f0
  have g1 : w6.heap[gA]? = some (.cells #[.int .i64 (i : Int)] 3 (0, 0)) := by rw [b6.block _ (by omega)]; exact f1
  have g2 : w6.heap[gR]? = some (.cells #[.int .i64 0, .int .i64 0, .int .u8 0] 38 (0, 0)) := by rw [b6.block _ (by omega)]; exact f2
  have g3 : w6.heap[gM]? = some (.cells #[.int .i64 258] 3 (0, 0)) := by rw [b6.block _ (by omega)]; exact f3
  have g4 : w6.heap[gB]? = some (.cells #[.int .i64 (b : Int), .int .i64 0, .int .u8 0] 38 (0, 0)) := by rw [b6.block _ (by omega)]; exact f4
  have g5 : w6.heap[Bx]? = some (.cells #[.slice po l.length pcap] 54 (0, 0)) := by rw [hw6, ← hBx]; exact heap_alloc_new w5 _
  have g6 : Below n0 w w6 := by rw [← hn0]; exact fb.trans (b6.mono (by omega))
  have HL6 := hide (And.intro g0 (And.intro g1 (And.intro g2 (And.intro g3 (And.intro g4 (And.intro g5 g6))))))
  obtain ⟨d, hd⟩ : ∃ d, w6.heap.size = d := ⟨_, rfl⟩
  have hdB : Bx + 1 ≤ d ∧ d ≤ Bx + 1 := by omega
  have HD := hide hd
  have hgd : gB < w6.heap.size := by omega
  have HGD := hide hgd
  have hnw : w.heap.size ≤ n0 ∧ n0 ≤ w.heap.size := by omega
  clear z5 f0 f1 f2 f3 f4 fb hn0 hgA hgR hgM hgB hBx e0 b6 hw6 z6 g0 g1 g2 g3 g4 g5 g6 hd
  gi_wp2_with fail
  refine wp_range2 (α := Nat × Int) l.length rfl (by decide) (gf := 32) (lb := #[.pointer (some ⟨Bx, 0, none⟩)]) rfl trivial (enters_of Try.func32 (by kernel_rfl) rfl)
    (encs := fun x => #[.int .i64 (x.1 : Int), .int .i64 x.2]) (fun _ => rfl) (LgI D i l b w6 w6.heap.size gB) (LgY D i l b w6 w6.heap.size gB) (LgI D i l b w6 w6.heap.size gB 0) (LgX D i l b w6 w6.heap.size gB)
    (fun m => lgI_rec m hgd) (fun m x => lgY_rec m x hgd) (lgI_rec 0 hgd) (fun c => lgX_rec c hgd) ?start ?seq ?a1 ?assign ?body ?done ?stop
  case start =>
    intro o
    obtain ⟨p0, p1, p2, p3, p4, p5, p6⟩ := HL6.out
    have hlt : ∀ k, k < w6.heap.size → ((w6.alloc (.deferred (some []))).alloc o).heap[k]? = w6.heap[k]? := fun k hk => by
      rw [Below.heap_alloc _ _ _ (by simp; omega), Below.heap_alloc _ _ _ hk]
    refine ⟨Nat.le_refl _, ⟨(heap_two w6 _ o).2, (heap_two w6 _ o).1, rfl, rfl, rfl, by simp, fun k hk _ => hlt k hk, ?_⟩⟩
    rw [hlt _ hgd, p4]
    simp [pick]
  case seq =>
    intro o Jx hY W hW
    refine bwd_in (w6.heap.size + 1) Bx po pcap l.length hl (fun m W => LgI D i l b w6 w6.heap.size gB m o W) (fun m x W => LgY D i l b w6 w6.heap.size gB m x o W) (LgI D i l b w6 w6.heap.size gB 0 o) Jx (fun m W hm => ?_) hY W hW Fence.wide rfl
    obtain ⟨hmL, hL⟩ := hm
    obtain ⟨p0, p1, p2, p3, p4, p5, p6⟩ := HL6.out
    have hd' := HD.out
    refine ⟨hmL, ?_, fun e => by subst e; exact ⟨hmL, hL⟩, fun k hk => ?_⟩
    · rw [hL.cell (by show Bx < _; omega) (by show Bx ≠ _; omega)]
      exact cellOf p5 rfl
    · obtain ⟨bp, ff, e1, c1⟩ := HPI.out.get (w := w6) (p6.mono (by omega)) (k := k) (by rw [HIL.out]; omega)
      have hbw : bp < w.heap.size := by
        obtain ⟨bp', ff', e1', c1'⟩ := HPI.out.get (w := w) (Below.refl _ _) (k := k) (by rw [HIL.out]; omega)
        rw [e1] at e1'
        simp only [Option.some.injEq, Addr.mk.injEq, and_true] at e1'
        rw [e1'.1]
        exact World.block_lt_of_cell? w _ c1'
      have hg : (ins l).getD k 0 = ((l.getD k 0 : Nat) : Int) := by
        have : k < l.length := by omega
        simp [ins, this]
      rw [hg] at c1
      exact ⟨bp, ff, _, e1, by rw [hL.cell (by show bp < _; omega) (by show bp ≠ _; omega)]; exact c1, hk, rfl, hmL, hL⟩
  case assign =>
    intro x W K hK
    gi_wp2
    exact hK
  case body =>
    rintro m ⟨k, u⟩ o W ⟨hm, hu, hmL, hL⟩
    simp only at hm hu
    obtain ⟨j, hj⟩ : ∃ j, j = l.getD k 0 := ⟨_, rfl⟩
    have hkl : k < l.length := by omega
    have hji : j < i := HLT.out j (by rw [hj]; simp [hkl])
    have HPM := hide (pick_more (D := D) (i := i) (b := b) hkl)
    rw [← hj] at hu HPM
    subst hu
    subst hm
    obtain ⟨s, hs⟩ : ∃ s, s = pick D i (l.reverse.take (l.length - (k + 1))) (b, 0) := ⟨_, rfl⟩
    have HPF := hide (pick_full (D := D) (i := i) (l := l) (b := b) (m := k + 1) hi)
    rw [← hs] at HPM HPF hL
    rw [← HM.out] at HPF
    obtain ⟨s1, s2⟩ := s
    obtain ⟨p0, p1, p2, p3, p4, p5, p6⟩ := HL6.out
    have hd' := HD.out
    have c0 : W.cell? ⟨n0, 0, none⟩ = some (.slice (some ⟨bb, bo, none⟩) D.length cap) := by rw [hL.cell (by show n0 < _; omega) (by show n0 ≠ _; omega)]; exact cellOf p0 rfl
    have c1 : W.cell? ⟨gA, 0, none⟩ = some (.int .i64 (i : Int)) := by rw [hL.cell (by show gA < _; omega) (by show gA ≠ _; omega)]; exact cellOf p1 rfl
    have c3 : W.cell? ⟨gM, 0, none⟩ = some (.int .i64 258) := by rw [hL.cell (by show gM < _; omega) (by show gM ≠ _; omega)]; exact cellOf p3 rfl
    have c4 : W.cell? ⟨gB, 0, none⟩ = some (.int .i64 (s1 : Int)) := cellOf hL.best rfl
    have HLL := hide hL
    clear p0 p1 p2 p3 p4 p5 p6 hd' hL hs hj
    by_cases hfull : 258 ≤ s1
    · have gf : decide (258 ≤ (s1 : Int)) = true := decide_eq_true (by omega)
      have gf2 : decide (258 ≤ s1) = true := decide_eq_true hfull
      have HX := hide (HPF.out hfull)
      gi_wp2
      exact ⟨rfl, by rw [← HX.out]; exact HLL.out⟩
    · have gf : decide (258 ≤ (s1 : Int)) = false := decide_eq_false (by omega)
      have gf2 : decide (258 ≤ s1) = false := decide_eq_false hfull
      obtain ⟨n, hnn⟩ : ∃ n, n = s1 + 1 := ⟨_, rfl⟩
      have en : (s1 : Int) + 1 = (n : Int) := by omega
      have HNN := hide hnn
      have hnM : n ≤ 258 ∧ i + n ≤ D.length := by have := HM.out; have := HKK.out; omega
      have hDC : ∀ k, k < D.length → W.cell? ⟨bb, bo + k, none⟩ = some (.int .u8 (D.getD k 0)) := fun k hk => by
        obtain ⟨b1, o1, e1, y1⟩ := HS.out.get (Below.refl _ _) hk
        simp only [Option.some.injEq, Addr.mk.injEq, and_true] at e1
        obtain ⟨rfl, rfl⟩ := e1
        have hbw := World.block_lt_of_cell? w _ y1
        have hd' := HD.out
        obtain ⟨p0, p1, p2, p3, p4, p5, p6⟩ := HL6.out
        rw [HLL.out.cell (by show bb < _; simp only at hbw; omega) (by show bb ≠ _; simp only at hbw; omega), p6.cell (by show bb < _; simp only at hbw; omega)]
        exact y1
      have HDC := hide hDC
      have HEQ : Hid (∀ q, CallsIn Fence.wide 0 Try.prog 30 #[.slice (some ⟨bb, bo + j, none⟩) n (cap - j), .slice (some ⟨bb, bo + i, none⟩) n (cap - i)] (W.drewN q) fun e w'' => e = .returned (.bool (decide (n ≤ rno D j i))) ∧ ∃ m, w'' = W.drewN m) := fun q =>
        (callsIn_wide.2 (equal_any D j i n bb bo (cap - j) (cap - i) (W.drewN q) HBT.out (fun k hk => hDC k hk) hji hnM.2 hnM.1)).mono fun _ _ ⟨h1, h2⟩ => ⟨h1, q, h2⟩
      have k1 : IntKind.i64.wrap ((j : Int) + (n : Int)) = (j : Int) + (n : Int) := by rw [IntKind.wrap_i64]; omega
      have k2 : IntKind.i64.wrap ((i : Int) + (n : Int)) = (i : Int) + (n : Int) := by rw [IntKind.wrap_i64]; omega
      have t1 : ((j : Int) + (n : Int)).toNat = j + n := by omega
      have t2 : ((i : Int) + (n : Int)).toNat = i + n := by omega
      have b1 : (j : Int) + (n : Int) ≤ (cap : Int) := by omega
      have b2 : (i : Int) + (n : Int) ≤ (cap : Int) := by omega
      have b3 : (j : Int) ≤ (j : Int) + (n : Int) := by omega
      have b4 : (i : Int) ≤ (i : Int) + (n : Int) := by omega
      have n1 : ¬ cap = j := by omega
      have n2 : ¬ cap = i := by omega
      clear hDC hnn
      gi_wp2
      clear en
      refine wpIn_quiet_round (F := Fence.wide) (n := 1) _ rfl mixd (by kernel_rfl) (by kernel_rfl) ?_
      have hfw : ∀ f, Fence.wide.fn f = True := fun _ => rfl
      repeat (gi_big_quiet_step (first | (gi_at_call 30; exact HEQ.out _)))
      refine wpQuietIn_nil ?_
      intro _ hw'
      obtain ⟨nq, hw''⟩ := hw'
      subst hw''
      have HL7 := hide (HLL.out.drewN nq)
      obtain ⟨W7, hW7⟩ : ∃ w7, W.drewN nq = w7 := ⟨_, rfl⟩
      have HDC7 : Hid (∀ k, k < D.length → W7.cell? ⟨bb, bo + k, none⟩ = some (.int .u8 (D.getD k 0))) := fun k hk => by rw [← hW7]; exact HDC.out k hk
      have x0 : W7.cell? ⟨n0, 0, none⟩ = some (.slice (some ⟨bb, bo, none⟩) D.length cap) := by rw [← hW7]; exact c0
      have x1 : W7.cell? ⟨gA, 0, none⟩ = some (.int .i64 (i : Int)) := by rw [← hW7]; exact c1
      have x3 : W7.cell? ⟨gM, 0, none⟩ = some (.int .i64 258) := by rw [← hW7]; exact c3
      rw [hW7] at HL7 ⊢
      clear hW7 HEQ hfw c0 c1 c3 c4 HLL HDC k1 k2 t1 t2 b1 b2 b3 b4
      by_cases hrn : n ≤ rno D j i
      · have HRT : Hid (decide (n ≤ rno D j i) = true) := decide_eq_true hrn
        rw [HRT.out]
        have HNX : Hid (stp D i (s1, s2) j = (rno D j i, i - j)) := by show _ = _; unfold stp; rw [if_pos (by show s1 < _; have := HNN.out; omega)]
        rw [HNX.out] at HPM
        have hSB7 : SB W7.drew (.slice (some ⟨bb, bo, none⟩) D.length cap) D := by
          obtain ⟨ao', cap', he, h1, h2, h3, h4⟩ := HS.out
          simp only [Value.slice.injEq] at he
          obtain ⟨rfl, -, rfl⟩ := he
          refine ⟨_, _, rfl, h1, h2, h3, fun x hx q hq => ?_⟩
          cases hx
          rw [Addr.add_lit]
          exact HDC7.out q hq
        have HRU : Hid (Calls Try.prog 31 #[.slice (some ⟨bb, bo, none⟩) D.length cap, .int .i64 (j : Int), .int .i64 (i : Int), .int .i64 (n : Int), .int .i64 258] W7.drew fun e w' => e = .returned (.int .i64 (rno D j i : Nat)) ∧ ∃ n, w' = W7.drew.drewN n) := mrun_any _ D j i n 258 W7.drew hSB7 hji hi hn hrn HM.out
        have hrb := rno_le D j i
        obtain ⟨r, HR⟩ : ∃ r, Hid (r = rno D j i) := ⟨_, rfl⟩
        rw [← HR.out] at HRU HPM hrb
        have y0 : IntKind.i64.wrap ((i : Int) - (j : Int)) = (i : Int) - (j : Int) := by rw [IntKind.wrap_i64]; omega
        have y1 : (i : Int) - (j : Int) = ((i - j : Nat) : Int) := by omega
        obtain ⟨ds, hds⟩ : ∃ ds, ds = i - j := ⟨_, rfl⟩
        rw [← hds] at HPM y1
        have y2 : IntKind.i64.wrap (ds : Int) = (ds : Int) := by rw [IntKind.wrap_i64]; omega
        clear hrn hds hSB7
        gi_wp2
        refine wpIn_held_round _ (fun W => W.cell? ⟨n0, 0, none⟩ = some (.slice (some ⟨bb, bo, none⟩) D.length cap) ∧ W.cell? ⟨gA, 0, none⟩ = some (.int .i64 (i : Int)) ∧ W.cell? ⟨gM, 0, none⟩ = some (.int .i64 258)) mixd (by kernel_rfl) (fun ⟨_, _, h⟩ => h) ?_
        have hS : W7.drew.cell? ⟨n0, 0, none⟩ = some (.slice (some ⟨bb, bo, none⟩) D.length cap) ∧ W7.drew.cell? ⟨gA, 0, none⟩ = some (.int .i64 (i : Int)) ∧ W7.drew.cell? ⟨gM, 0, none⟩ = some (.int .i64 258) := ⟨x0, x1, x3⟩
        refine wpAnyH_take (i := 0) (v := .slice (some ⟨bb, bo, none⟩) D.length cap) rfl (by kernel_rfl) (by kernel_rfl) (by kernel_rfl) (fun _ _ _ h => h) (Or.inl ⟨by rfl, fun w hw => by obtain ⟨s1, s2, s3⟩ := hw; go_simp⟩) hS ?_
        refine wpAnyH_take (i := 1) (v := .int .i64 (j : Int)) rfl (by kernel_rfl) (by kernel_rfl) (by kernel_rfl) (fun _ _ _ h => h) (Or.inl ⟨by rfl, fun w hw => by obtain ⟨s1, s2, s3⟩ := hw; go_simp⟩) hS ?_
        refine wpAnyH_take (i := 2) (v := .int .i64 (i : Int)) rfl (by kernel_rfl) (by kernel_rfl) (by kernel_rfl) (fun _ _ _ h => h) (Or.inl ⟨by rfl, fun w hw => by obtain ⟨s1, s2, s3⟩ := hw; go_simp⟩) hS ?_
        refine wpAnyH_take (i := 3) (v := .int .i64 (n : Int)) rfl (by kernel_rfl) (by kernel_rfl) (by kernel_rfl) (fun _ _ _ h => h) (Or.inl ⟨by rfl, fun w hw => by obtain ⟨s1, s2, s3⟩ := hw; go_simp⟩) hS ?_
        refine wpAnyH_take (i := 4) (v := .int .i64 258) rfl (by kernel_rfl) (by kernel_rfl) (by kernel_rfl) (fun _ _ _ h => h) (Or.inl ⟨by rfl, fun w hw => by obtain ⟨s1, s2, s3⟩ := hw; go_simp⟩) hS ?_
        refine wpAnyH_take (i := 6) (v := .int .i64 (i : Int)) rfl (by kernel_rfl) (by kernel_rfl) (by kernel_rfl) (fun _ _ _ h => h) (Or.inl ⟨by rfl, fun w hw => by obtain ⟨s1, s2, s3⟩ := hw; go_simp⟩) hS ?_
        refine wpAnyH_take (i := 7) (v := .int .i64 (j : Int)) rfl (by kernel_rfl) (by kernel_rfl) (by kernel_rfl) (fun _ _ _ h => h) (Or.inl ⟨by rfl, fun w hw => by obtain ⟨s1, s2, s3⟩ := hw; go_simp⟩) hS ?_
        refine wpAnyH_take (i := 8) (v := .int .i64 (ds : Int)) rfl (by kernel_rfl) (by kernel_rfl) (by kernel_rfl) (fun _ _ _ h => h) (Or.inl ⟨by rfl, fun w hw => by obtain ⟨s1, s2, s3⟩ := hw; go_simp⟩) hS ?_
        refine wpAnyH_all (rs := [5]) (by kernel_rfl) (by simp) (fun q hq => ?_)
        obtain rfl : q = 5 := by simpa using hq
        refine held_call rfl rfl #[.tmp 45, .tmp 46, .tmp 47, .tmp 48, .tmp 49] _ 31 rfl Try.call31 #[.slice (some ⟨bb, bo, none⟩) D.length cap, .int .i64 (j : Int), .int .i64 (i : Int), .int .i64 (n : Int), .int .i64 258] (by simp [Act.eval, Act.put]) HRU.out ?_
        rintro e w8 ⟨rfl, n8, hw8⟩
        subst hw8
        refine ⟨_, rfl, hS, ?_⟩
        clear hq HRU
        have hS8 : (W7.drew.drewN n8).cell? ⟨n0, 0, none⟩ = some (.slice (some ⟨bb, bo, none⟩) D.length cap) ∧ (W7.drew.drewN n8).cell? ⟨gA, 0, none⟩ = some (.int .i64 (i : Int)) ∧ (W7.drew.drewN n8).cell? ⟨gM, 0, none⟩ = some (.int .i64 258) := ⟨x0, x1, x3⟩
        refine wpAnyH_take (i := 9) (v := .agg #[.int .i64 (r : Int), .int .i64 (ds : Int), .int .u8 0]) rfl (by kernel_rfl) (by kernel_rfl) (by kernel_rfl) (fun _ _ _ h => h) (Or.inl ⟨by rfl, fun w hw => by obtain ⟨s1, s2, s3⟩ := hw; go_simp⟩) hS8 ?_
        refine wpAnyH_all (rs := [10]) (by kernel_rfl) (by simp) (fun q hq => ?_)
        obtain rfl : q = 10 := by simpa using hq
        have HL8 := hide (HL7.out.drew.drewN n8)
        obtain ⟨W8, hW8⟩ : ∃ W8, W7.drew.drewN n8 = W8 := ⟨_, rfl⟩
        rw [hW8] at HL8 hS8 ⊢
        clear hW8 hS x0 x1 x3 hq HL7 HDC7
        have z0 : W8.cell? ⟨gB, 0, none⟩ = some (.int .i64 (s1 : Int)) := cellOf HL8.out.best rfl
        have z1 : W8.cell? ⟨gB, 1, none⟩ = some (.int .i64 (s2 : Int)) := cellOf HL8.out.best rfl
        have z2 : W8.cell? ⟨gB, 2, none⟩ = some (.int .u8 0) := cellOf HL8.out.best rfl
        have z3 : W8.frozen? ⟨gB, 0, none⟩ = false := frozenOf HL8.out.best
        have z4 : W8.frozen? ⟨gB, 1, none⟩ = false := frozenOf HL8.out.best
        have z5 : W8.frozen? ⟨gB, 2, none⟩ = false := frozenOf HL8.out.best
        unfold wpOp
        refine .inl ?_
        unfold Oper.wp
        go_simp
        have HL9 := hide (HL8.out.set3 hgd r ds)
        rw [← HPM.out] at HL9
        clear z0 z1 z2 z3 z4 z5 hS8 HL8 HPM
        refine wpAnyH_done (by kernel_rfl) ?_ _
        gi_wp2
        exact ⟨k, rfl, by omega, HL9.out⟩
      · have HRT : Hid (decide (n ≤ rno D j i) = false) := decide_eq_false hrn
        rw [HRT.out]
        have HNX : Hid (stp D i (s1, s2) j = (s1, s2)) := by show _ = _; unfold stp; rw [if_neg (by show ¬ s1 < _; have := HNN.out; omega)]
        rw [HNX.out] at HPM
        rw [← HPM.out] at HL7
        clear hrn HPM
        gi_wp2
        exact ⟨k, rfl, by omega, HL7.out⟩
  case done =>
    rintro o W ⟨_, hL⟩
    have e0 : l.reverse.take (l.length - 0) = l.reverse := by rw [Nat.sub_zero, List.take_of_length_le (by simp)]
    rw [e0] at hL
    clear e0
    obtain ⟨p0, p1, p2, p3, p4, p5, p6⟩ := HL6.out
    have hd' := HD.out
    have HLG : Hid (lng D i l.reverse b = if (pick D i l.reverse (b, 0)).2 = 0 then (0, 0) else pick D i l.reverse (b, 0)) := rfl
    obtain ⟨s, hs⟩ : ∃ s, s = pick D i l.reverse (b, 0) := ⟨_, rfl⟩
    rw [← hs] at hL HLG
    obtain ⟨s1, s2⟩ := s
    have z0 : W.cell? ⟨gB, 0, none⟩ = some (.int .i64 (s1 : Int)) := cellOf hL.best rfl
    have z1 : W.cell? ⟨gB, 1, none⟩ = some (.int .i64 (s2 : Int)) := cellOf hL.best rfl
    have z2 : W.cell? ⟨gB, 2, none⟩ = some (.int .u8 0) := cellOf hL.best rfl
    have hR : W.heap[gR]? = some (.cells #[.int .i64 0, .int .i64 0, .int .u8 0] 38 (0, 0)) := by rw [hL.blk gR (by omega) (by omega)]; exact p2
    have r0 : W.cell? ⟨gR, 0, none⟩ = some (.int .i64 0) := cellOf hR rfl
    have r1 : W.cell? ⟨gR, 1, none⟩ = some (.int .i64 0) := cellOf hR rfl
    have r2 : W.cell? ⟨gR, 2, none⟩ = some (.int .u8 0) := cellOf hR rfl
    have r3 : W.frozen? ⟨gR, 0, none⟩ = false := frozenOf hR
    have r4 : W.frozen? ⟨gR, 1, none⟩ = false := frozenOf hR
    have r5 : W.frozen? ⟨gR, 2, none⟩ = false := frozenOf hR
    have hRB : ¬ gR = gB := by omega
    have HLL := hide hL
    have HRR := hide hR
    clear hs hL hR p0 p1 p2 p3 p4 p5 p6 hd'
    by_cases h0 : s2 = 0
    · subst h0
      gi_wp2
      have hF := lst_end (w := w) (n0 := n0) HLL.out HRR.out rfl (.int .i64 0) (.int .i64 0) (.int .u8 0) (by have := HD.out; omega) (by omega) (by omega) (by omega) (by have := HD.out; omega) HN0.out HL6.out.2.2.2.2.2.2
      have HFF := hide hF
      have HLE : Hid (lng D i l.reverse b = (0, 0)) := by show _ = _; rw [HLG.out]; rfl
      clear hF z0 z1 z2 r0 r1 r2 r3 r4 r5
      refine ⟨by simp, .inl ⟨_, _, rfl, run_takeDeferred HFF.out.1, ?_⟩⟩
      rw [HLE.out]
      exact ⟨_, results_cell_row rfl _ _ gR 38 _ (0, 0) _ rfl HFF.out.2.1 Try.underlying38 rfl (by kernel_rfl), rfl, HFF.out.2.2⟩
    · have g0 : ((s2 : Int) == 0) = false := by simp; omega
      gi_wp2
      have hF := lst_end (w := w) (n0 := n0) HLL.out HRR.out rfl (.int .i64 (s1 : Int)) (.int .i64 (s2 : Int)) (.int .u8 0) (by have := HD.out; omega) (by omega) (by omega) (by omega) (by have := HD.out; omega) HN0.out HL6.out.2.2.2.2.2.2
      have HFF := hide hF
      have HLE : Hid (lng D i l.reverse b = (s1, s2)) := by show _ = _; rw [HLG.out]; rw [if_neg h0]
      clear hF z0 z1 z2 r0 r1 r2 r3 r4 r5
      refine ⟨by simp, .inl ⟨_, _, rfl, run_takeDeferred HFF.out.1, ?_⟩⟩
      rw [HLE.out]
      exact ⟨_, results_cell_row rfl _ _ gR 38 _ (0, 0) _ rfl HFF.out.2.1 Try.underlying38 rfl (by kernel_rfl), rfl, HFF.out.2.2⟩
  case stop =>
    rintro c o W ⟨rfl, hL⟩
    obtain ⟨p0, p1, p2, p3, p4, p5, p6⟩ := HL6.out
    have hd' := HD.out
    have HLG : Hid (lng D i l.reverse b = if (pick D i l.reverse (b, 0)).2 = 0 then (0, 0) else pick D i l.reverse (b, 0)) := rfl
    obtain ⟨s, hs⟩ : ∃ s, s = pick D i l.reverse (b, 0) := ⟨_, rfl⟩
    rw [← hs] at hL HLG
    obtain ⟨s1, s2⟩ := s
    have z0 : W.cell? ⟨gB, 0, none⟩ = some (.int .i64 (s1 : Int)) := cellOf hL.best rfl
    have z1 : W.cell? ⟨gB, 1, none⟩ = some (.int .i64 (s2 : Int)) := cellOf hL.best rfl
    have z2 : W.cell? ⟨gB, 2, none⟩ = some (.int .u8 0) := cellOf hL.best rfl
    have hR : W.heap[gR]? = some (.cells #[.int .i64 0, .int .i64 0, .int .u8 0] 38 (0, 0)) := by rw [hL.blk gR (by omega) (by omega)]; exact p2
    have r0 : W.cell? ⟨gR, 0, none⟩ = some (.int .i64 0) := cellOf hR rfl
    have r1 : W.cell? ⟨gR, 1, none⟩ = some (.int .i64 0) := cellOf hR rfl
    have r2 : W.cell? ⟨gR, 2, none⟩ = some (.int .u8 0) := cellOf hR rfl
    have r3 : W.frozen? ⟨gR, 0, none⟩ = false := frozenOf hR
    have r4 : W.frozen? ⟨gR, 1, none⟩ = false := frozenOf hR
    have r5 : W.frozen? ⟨gR, 2, none⟩ = false := frozenOf hR
    have hRB : ¬ gR = gB := by omega
    have HLL := hide hL
    have HRR := hide hR
    clear hs hL hR p0 p1 p2 p3 p4 p5 p6 hd'
    by_cases h0 : s2 = 0
    · subst h0
      gi_wp2
      have hF := lst_end (w := w) (n0 := n0) HLL.out HRR.out rfl (.int .i64 0) (.int .i64 0) (.int .u8 0) (by have := HD.out; omega) (by omega) (by omega) (by omega) (by have := HD.out; omega) HN0.out HL6.out.2.2.2.2.2.2
      have HFF := hide hF
      have HLE : Hid (lng D i l.reverse b = (0, 0)) := by show _ = _; rw [HLG.out]; rfl
      clear hF z0 z1 z2 r0 r1 r2 r3 r4 r5
      refine ⟨by simp, .inl ⟨_, _, rfl, run_takeDeferred HFF.out.1, ?_⟩⟩
      rw [HLE.out]
      exact ⟨_, results_cell_row rfl _ _ gR 38 _ (0, 0) _ rfl HFF.out.2.1 Try.underlying38 rfl (by kernel_rfl), rfl, HFF.out.2.2⟩
    · have g0 : ((s2 : Int) == 0) = false := by simp; omega
      gi_wp2
      have hF := lst_end (w := w) (n0 := n0) HLL.out HRR.out rfl (.int .i64 (s1 : Int)) (.int .i64 (s2 : Int)) (.int .u8 0) (by have := HD.out; omega) (by omega) (by omega) (by omega) (by have := HD.out; omega) HN0.out HL6.out.2.2.2.2.2.2
      have HFF := hide hF
      have HLE : Hid (lng D i l.reverse b = (s1, s2)) := by show _ = _; rw [HLG.out]; rw [if_neg h0]
      clear hF z0 z1 z2 r0 r1 r2 r3 r4 r5
      refine ⟨by simp, .inl ⟨_, _, rfl, run_takeDeferred HFF.out.1, ?_⟩⟩
      rw [HLE.out]
      exact ⟨_, results_cell_row rfl _ _ gR 38 _ (0, 0) _ rfl HFF.out.2.1 Try.underlying38 rfl (by kernel_rfl), rfl, HFF.out.2.2⟩
end Go.Proofs.Ytjldmphfdaoecaa

