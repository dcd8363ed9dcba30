import Derived.Test.YtkmefeihkmbngaaDoorG08Usd
import Derived.Test.YtkmefeihkmbngaaDoorG15Rg6
import Derived.Test.YtkmefeihkmbngaaDoorG09Krg
import Derived.Test.YtkmefeihkmbngaaDoorG10Sm1
namespace Go.Proofs.YtkmefeihkmbngaaDoor
open Go.RowKit Go.Shelf
attribute [local go_sem] Oper.semAt_some
set_option maxRecDepth 20000
set_option linter.unusedVariables false

theorem bwd_any (a : Option Addr) (n c : Nat) (w : World) : Calls Tryd.prog 67 #[.slice a n c] w fun e w' => e = .returned (.func (.func 71) #[] #[.pointer (some ⟨w.heap.size, 0, none⟩)]) ∧ w' = w.alloc (.cells #[.slice a n c] 96) := by
  go_enter Tryd.func67, Tryd.ntmps67
  go_wp2
  go_ret
  exact ⟨rfl, rfl⟩

def Bturn (B g c K : Nat) (Iy : Nat × Value → World → Prop) (Ie : World → Prop) (m : Nat) (W : World) : Prop :=
  m ≤ K ∧ W.cell? ⟨B, 0, none⟩ = some (.slice (some ⟨g, 0, none⟩) K c) ∧ (m = 0 → Ie W) ∧ ∀ k, m = k + 1 → ∃ a n' c', W.cell? ⟨g, k, none⟩ = some (.slice a n' c') ∧ Iy (k, .slice a n' c') W

set_option maxHeartbeats 1000000 in
theorem bwd_in (l B g c K : Nat) (hK : K ≤ 1000) (I : Nat → World → Prop) (Iy : Nat → Nat × Value → World → Prop) (Ie Jx : World → Prop) (hI : ∀ m W, I m W → Bturn B g c K (Iy m) Ie m W)
    (hY : ∀ m x W, Iy m x W → YieldAt Fence.wide 1 Tryd.prog l #[.int .i64 (x.1 : Int), x.2] W fun e W' => (e = .returned (.bool true) ∧ ∃ m', m' + 1 = m ∧ I m' W') ∨ (e = .returned (.bool false) ∧ Jx W'))
    (W : World) (h : I K W) (F : Fence) (hF : F = Fence.wide) :
    CallsIn F 2 Tryd.prog 71 #[.func (.yield l) #[] #[], .pointer (some ⟨B, 0, none⟩)] W fun e W' => (∃ v, e = .returned v) ∧ (Ie W' ∨ Jx W') := by
  subst hF
  obtain ⟨_, hc0, _⟩ := hI _ _ h
  refine callsIn_of_wp Tryd.func71 rfl trivial ?_ rfl
  simp only [Tryd.ntmps71, List.size_toArray, List.length_cons, List.length_nil, Nat.reduceAdd, Nat.reduceSub, Array.replicate_succ, Array.replicate_zero, List.push_toArray, List.append_toArray, List.nil_append, List.cons_append]
  gi_wp2
  gi_loopw [3] (fun p wr => ∃ m : Nat, m ≤ K ∧ p = .int .i64 ((m : Int) - 1) ∧ Hid (I m wr)) (fun p _ => ((intOf p) + 1).toNat)
  case atStart => exact ⟨K, Nat.le_refl _, by go_num, h⟩
  case round =>
    obtain ⟨m, hm, rfl, HI⟩ := hrel
    obtain ⟨h1, h2, h3, h4⟩ := hI _ _ HI.out
    by_cases h0 : m = 0
    · have HE := hide (h3 h0)
      subst h0
      have hn : ¬ (0 : Int) ≤ ((0 : Nat) : Int) - 1 := by omega
      clear h3 h4
      gi_wp2
      refine bodyPost_end (results_none rfl _ _ _) rfl ?_
      exact ⟨⟨_, rfl⟩, .inl HE.out⟩
    · obtain ⟨k, rfl⟩ : ∃ k, m = k + 1 := ⟨m - 1, by omega⟩
      obtain ⟨a, n', c', h5, h6⟩ := h4 k rfl
      have e1 : ((k + 1 : Nat) : Int) - 1 = (k : Int) := by omega
      have hk0 : (0 : Int) ≤ (k : Int) := by omega
      have hkK : (k : Int) < (K : Int) := by omega
      rw [e1]
      obtain ⟨fn, tmps, assign, body, hy, hRd⟩ := hY _ _ _ h6
      dsimp only at hy
      clear h3 h4 h6 e1
      gi_wp2
      refine hRd.mono ?_
      rintro e W3 (⟨rfl, m', hm', hI3⟩ | ⟨rfl, hJx3⟩)
      · obtain rfl : m' = k := by omega
        have HI3 := hide hI3
        clear hI3
        gi_wp2
        go_roundw
        case rel => exact ⟨m', by omega, by go_num, HI3⟩
        case measure => simp [intOf]
      · gi_wp2
        refine bodyPost_ret (results_none rfl _ _ _) rfl ?_
        exact ⟨⟨_, rfl⟩, .inr hJx3⟩
end Go.Proofs.YtkmefeihkmbngaaDoor

namespace Go.Proofs.YtkmefeihkmbngaaDoor
open Go.RowKit Go.Maps
set_option maxRecDepth 20000
set_option linter.unusedVariables false

def upto (cur : Nat → Nat) (k : Nat) : Nat → Nat := fun i => cur i + if i < k then 1 else 0

theorem hls_upto {n k : Nat} (cur : Nat → Nat) (hk : k < n) : (hls n (upto cur k)).set k ((cur k : Int) + 1) = hls n (upto cur (k + 1)) := by
  apply List.ext_getElem
  · simp [hls]
  · intro i h1 h2
    simp only [List.getElem_set, hls, List.getElem_map, List.getElem_range, upto]
    by_cases c : k = i
    · subst c
      rw [if_pos rfl, if_pos (by omega)]
      omega
    · rw [if_neg c]
      by_cases d : i < k
      · rw [if_pos d, if_pos (by omega)]
      · rw [if_neg d, if_neg (by omega)]

theorem upto_zero (cur : Nat → Nat) : upto cur 0 = cur := by funext i; simp [upto]

theorem hls_gt {N v : Nat} (H : Nat → Nat) (h : v < N) : (hls N H).getD v 0 = (H v : Int) := by
  unfold hls
  rw [List.getD_eq_getElem?_getD, List.getElem?_map, List.getElem?_range h]
  rfl

theorem lvs_succ {R : List (Nat × Bool)} {k : Nat} (h : k < R.length) : lvs R (k + 1) = lvs R k + if (R.getD k (0, false)).2 then 1 else 0 := by
  unfold lvs
  rw [List.take_succ_eq_append_getElem h, List.filter_append, List.length_append, List.getD_eq_getElem?_getD, List.getElem?_eq_getElem h]
  simp only [Option.getD_some]
  by_cases c : (R[k]).2 = true
  · rw [if_pos c, List.filter_cons_of_pos c]; rfl
  · rw [if_neg c, List.filter_cons_of_neg c]; rfl

theorem crw_eq (ws : List Nat) (k : Nat) : crw ws k = cmr ws (pks (row ws k)) := by
  cases k with
  | zero => rfl
  | succ k => show cmr ws (pks (wts (crw ws k))) = _; rw [crw_row]

theorem lvs_crw (ws : List Nat) (k m : Nat) : lvs (crw ws k) m = cnt ws (pks (row ws k)) m := by rw [crw_eq, cmr_cnt]

theorem lvs_le (ws : List Nat) (k m : Nat) (h : m ≤ (crw ws k).length) : lvs (crw ws k) m ≤ ws.length ∧ lvs (crw ws k) m ≤ m ∧ 2 * (m - lvs (crw ws k) m) ≤ (row ws k).length := by
  rw [lvs_crw]
  rw [crw_eq, cmr_len] at h
  obtain ⟨_, a, b, c⟩ := cnt_facts ws (pks (row ws k)) m h
  refine ⟨a, b, ?_⟩
  rw [pks_len] at c
  omega

structure Pst (wb : World) (d hL gN n : Nat) (M : Nat) (cur : Nat → Nat) (o : Obj) (W : World) : Prop where
  dfr : W.heap[d]? = some (.deferred (some []))
  lp : W.heap[d + 1]? = some o
  os : W.os = wb.os
  tape : W.tape = wb.tape
  output : W.output = wb.output
  size : d + 2 ≤ W.heap.size
  blk : ∀ k, k < d → k ≠ hL → k ≠ gN → W.heap[k]? = wb.heap[k]?
  len : W.heap[hL]? = some (.cells ((hls n cur).map (Value.int .i64)).toArray 3 (0, 0))
  need : W.heap[gN]? = some (.cells #[.int .i64 (M : Int)] 3 (0, 0))

theorem Pst.put {wb : World} {d hL gN n M : Nat} {cur : Nat → Nat} {o o' : Obj} {W : World} (h : Pst wb d hL gN n M cur o W) (h1 : hL < d) (h2 : gN < d) : Pst wb d hL gN n M cur o' (W.putObj (d + 1) o') := by
  have hp : ∀ k, k ≠ d + 1 → (W.putObj (d + 1) o').heap[k]? = W.heap[k]? := fun k hk => by
    show (W.heap.setIfInBounds (d + 1) o')[k]? = _
    rw [Array.getElem?_setIfInBounds_ne (fun e => hk e.symm)]
  have hs : (W.putObj (d + 1) o').heap.size = W.heap.size := by show (W.heap.setIfInBounds (d + 1) o').size = _; simp
  refine ⟨by rw [hp _ (by omega)]; exact h.dfr, ?_, h.os, h.tape, h.output, by rw [hs]; exact h.size, fun k a b c => by rw [hp _ (by omega)]; exact h.blk k a b c, by rw [hp _ (by omega)]; exact h.len, by rw [hp _ (by omega)]; exact h.need⟩
  show (W.heap.setIfInBounds (d + 1) o')[d + 1]? = some o'
  have := h.size
  rw [Array.getElem?_setIfInBounds_self_of_lt (by omega)]

theorem Pst.alloc {wb : World} {d hL gN n M : Nat} {cur : Nat → Nat} {o : Obj} {W : World} (h : Pst wb d hL gN n M cur o W) (h1 : hL < d) (h2 : gN < d) (o' : Obj) : Pst wb d hL gN n M cur o (W.alloc o') := by
  have hp : ∀ k, k < W.heap.size → (W.alloc o').heap[k]? = W.heap[k]? := fun k hk => Below.heap_alloc W o' k hk
  have hs := h.size
  refine ⟨by rw [hp _ (by omega)]; exact h.dfr, by rw [hp _ (by omega)]; exact h.lp, h.os, h.tape, h.output, by rw [size_alloc']; omega, fun k a b c => by rw [hp _ (by omega)]; exact h.blk k a b c, by rw [hp _ (by omega)]; exact h.len, by rw [hp _ (by omega)]; exact h.need⟩

theorem Pst.oi {wb : World} {d hL gN n M : Nat} {cur : Nat → Nat} {o : Obj} {W : World} (h : Pst wb d hL gN n M cur o W) (hn : n ≤ 1000) : OI W 0 (.slice (some ⟨hL, 0, none⟩) n n) (hls n cur) := by
  have := OI.of_full (w := W) (base := 0) (g := hL) (l := hls n cur) h.len (Nat.zero_le _) (by rw [hls_len]; unfold maxLen; omega)
  rwa [hls_len] at this

theorem Pst.inc {wb : World} {d hL gN n M k : Nat} {cur : Nat → Nat} {o : Obj} {W : World} (h : Pst wb d hL gN n M (upto cur k) o W) (h1 : hL < d) (h3 : hL ≠ gN) (hk : k < n) : Pst wb d hL gN n M (upto cur (k + 1)) o (W.setCell ⟨hL, k, none⟩ (.int .i64 ((cur k : Int) + 1))) := by
  have hp : ∀ j, j ≠ hL → (W.setCell ⟨hL, k, none⟩ (.int .i64 ((cur k : Int) + 1))).heap[j]? = W.heap[j]? := fun j hj => setCell_others _ _ _ _ j hj
  refine ⟨by rw [hp _ (by omega)]; exact h.dfr, by rw [hp _ (by omega)]; exact h.lp, h.os, h.tape, h.output, by rw [size_setCell]; exact h.size, fun j a b c => by rw [hp _ b]; exact h.blk j a b c, ?_, by rw [hp _ (fun e => h3 e.symm)]; exact h.need⟩
  rw [heap_setCell_at _ h.len, ← hls_upto cur hk, List.map_set]
  congr 2
  apply Array.ext'
  simp

theorem Pst.setN {wb : World} {d hL gN n M : Nat} {cur : Nat → Nat} {o : Obj} {W : World} (h : Pst wb d hL gN n M cur o W) (h2 : gN < d) (h3 : hL ≠ gN) (M' : Nat) : Pst wb d hL gN n M' cur o (W.setCell ⟨gN, 0, none⟩ (.int .i64 (M' : Int))) := by
  have hp : ∀ j, j ≠ gN → (W.setCell ⟨gN, 0, none⟩ (.int .i64 (M' : Int))).heap[j]? = W.heap[j]? := fun j hj => setCell_others _ _ _ _ j hj
  refine ⟨by rw [hp _ (by omega)]; exact h.dfr, by rw [hp _ (by omega)]; exact h.lp, h.os, h.tape, h.output, by rw [size_setCell]; exact h.size, fun j a b c => by rw [hp _ c]; exact h.blk j a b c, by rw [hp _ h3]; exact h.len, ?_⟩
  rw [heap_setCell_at _ h.need]
  rfl

def PkI (K : Nat) (wb : World) (d hL gN n : Nat) (ws : List Nat) (F : Nat → Nat) (m : Nat) (o : Obj) (W : World) : Prop :=
  ∃ M cur, Pst wb d hL gN n M cur o W ∧ m ≤ K ∧ M ≤ (row ws m).length ∧ ∀ i, i < n → cur i + ct (sel ws m M) i = F i

def PkY (K : Nat) (wb : World) (d hL gN n : Nat) (ws : List Nat) (F : Nat → Nat) (m : Nat) (x : Nat × Value) (o : Obj) (W : World) : Prop :=
  m = x.1 + 1 ∧ OC wb 0 x.2 (crw ws x.1) ∧ PkI K wb d hL gN n ws F m o W

theorem pkI_rec {K : Nat} {wb : World} {d hL gN n : Nat} {ws : List Nat} {F : Nat → Nat} (m : Nat) (h1 : hL < d) (h2 : gN < d) : H4.Rec (d + 1) (PkI K wb d hL gN n ws F m) :=
  ⟨fun o W ⟨M, cur, h, _⟩ => h.lp, fun o o' W ⟨M, cur, h, r⟩ => ⟨M, cur, h.put h1 h2, r⟩⟩

theorem pkY_rec {K : Nat} {wb : World} {d hL gN n : Nat} {ws : List Nat} {F : Nat → Nat} (m : Nat) (x : Nat × Value) (h1 : hL < d) (h2 : gN < d) : H4.Rec (d + 1) (PkY K wb d hL gN n ws F m x) :=
  ⟨fun o W ⟨_, _, M, cur, h, _⟩ => h.lp, fun o o' W ⟨a, b, M, cur, h, r⟩ => ⟨a, b, M, cur, h.put h1 h2, r⟩⟩

theorem Pst.cell {wb : World} {d hL gN n M : Nat} {cur : Nat → Nat} {o : Obj} {W : World} (h : Pst wb d hL gN n M cur o W) {a : Addr} (h1 : a.block < d) (h2 : a.block ≠ hL) (h3 : a.block ≠ gN) : W.cell? a = wb.cell? a := by
  unfold World.cell?
  rw [h.blk _ h1 h2 h3]

theorem Pst.oc {wb : World} {d hL gN n M : Nat} {cur : Nat → Nat} {o : Obj} {W : World} (h : Pst wb d hL gN n M cur o W) {v : Value} {R : List (Nat × Bool)} (ho : OC wb 0 v R) (hd : ∀ k, v.ownBlock = some k → k < d ∧ k ≠ hL ∧ k ≠ gN) : OC W 0 v R :=
  ho.move fun k hk => h.blk k (hd k hk).1 (hd k hk).2.1 (hd k hk).2.2

theorem cellOf' {w : World} {g k : Nat} {cur : Array Value} {t : TypeId} {fz : Nat × Nat} {u : Value} (h : w.heap[g]? = some (.cells cur t fz)) (hk : cur[k]? = some u) : w.cell? ⟨g, k, none⟩ = some u := by
  unfold World.cell?
  simp only [h]
  exact hk

theorem frozenOf' {w : World} {g k : Nat} {cur : Array Value} {t : TypeId} (h : w.heap[g]? = some (.cells cur t (0, 0))) : w.frozen? ⟨g, k, none⟩ = false := by
  unfold World.frozen?
  simp [h]

theorem pk_next {ws : List Nat} {k M n : Nat} {cur F : Nat → Nat} (hM : M ≤ (row ws (k + 1)).length) (hf : ∀ i, i < n → cur i + ct (sel ws (k + 1) M) i = F i) :
    2 * (M - lvs (crw ws k) M) ≤ (row ws k).length ∧ ∀ i, i < n → upto cur (lvs (crw ws k) M) i + ct (sel ws k (2 * (M - lvs (crw ws k) M))) i = F i := by
  have hl : M ≤ (crw ws k).length := by
    have : (wts (crw ws k)).length = (crw ws k).length := by simp [wts]
    rw [crw_row] at this
    omega
  refine ⟨(lvs_le ws k M hl).2.2, fun i hi => ?_⟩
  rw [← hf i hi, lvs_crw]
  simp only [sel, ct_cons, upto]
  omega
end Go.Proofs.YtkmefeihkmbngaaDoor

namespace Go.Proofs.YtkmefeihkmbngaaDoor
open Go.RowKit Go.Maps Go.Shelf
attribute [local go_sem] Oper.semAt_some
set_option maxRecDepth 20000
set_option linter.unusedVariables false

theorem wpListIn_mkI {F : Fence} {q : Nat} {w : World} {ops : Array Oper} {rest : List Oper} {o : Oper} {a : Act} {Q : Exit → Act → World → Prop} (hg : o.guard = none) (l c : Operand) (hop : o.op = Op.makeSlice 23 l c)
    (kl kc : IntKind) (L C : Int) (n m : Nat) (hl : a.eval l = .int kl L) (hc : a.eval c = .int kc C) (hL : L = (n : Int)) (hC : C = (m : Int)) (hnm : n ≤ m) (b2 : m ≤ 17592186044416)
    (hK : wpListIn F q Tryd.prog ops Q rest (a.put o.dst (.slice (some ⟨w.heap.size, 0, none⟩) n m)) (w.alloc (.cells (Array.replicate m (Value.int .i64 0)) 3))) :
    wpListIn F q Tryd.prog ops Q (o :: rest) a w := by
  obtain ⟨i0, hi, hz0, hz1, hz2⟩ := info_parts infoInt
  refine wpListIn_plain hg fun K hK' => ?_
  have hr := run_make (P := Tryd.prog) w 23 3 i0 (.int .i64 0) Tryd.underlying23 hi hz0 kl kc (n : Int) (m : Int) (by omega) (by omega) (by rw [hz2]; omega) (by omega)
  subst hL hC
  unfold Oper.wpIn
  refine ⟨?_, ?_⟩
  · simp [Oper.about, hop]
  · rw [Oper.semAt_plain F _ _ (by rw [hop]; intro c hc'; cases hc')]
    simp [execOp, hop, hl, hc, hr, Result.andThen]
    have e : (madeCells (Value.int .i64 0).cells m) = Array.replicate m (Value.int .i64 0) := by
      apply Array.ext'
      rw [show (Value.int IntKind.i64 0).cells = #[Value.int IntKind.i64 0] from rfl, madeInts m]
      simp
    rw [hz1, Nat.mul_one, e]
    exact hK' _ _ hK

theorem oc_ne {w : World} {b0 g h : Nat} {c n : Nat} {R : List (Nat × Bool)} {cur : Array Value} {fz : Nat × Nat} (ho : OC w b0 (.slice (some ⟨g, 0, none⟩) n c) R) (hh : w.heap[h]? = some (.cells cur 3 fz)) : g ≠ h := by
  intro e
  subst e
  rcases ho.2 with ⟨q, _⟩ | ⟨g', cap, cur', he, _, hg, _⟩
  · cases q
  · simp only [Value.slice.injEq, Option.some.injEq, Addr.mk.injEq, and_true] at he
    rw [← he.1, hh] at hg
    simp at hg

set_option maxHeartbeats 4000000 in
theorem pack_any (v : Value) (ws : List Nat) (L : Nat) (w : World) (h : SI w v (ci ws)) (h1 : ws.length ≤ 288) (h2 : 2 ≤ ws.length) (hL : 1 ≤ L ∧ L ≤ 15) (hw : ∀ x ∈ ws, x ≤ 4294967296) (hroom : 2 * ws.length - 2 ≤ (row ws L).length) :
    Calls Tryd.prog 60 #[v, .int .i64 L] w fun e w' => ∃ a c, e = .returned (.slice a ws.length c) ∧ OI w' w.heap.size (.slice a ws.length c) (hls ws.length (ct (sel ws L (2 * ws.length - 2)))) ∧ Below w.heap.size w w' := by
  have HS := hide h
  obtain ⟨ao, cap, rfl, hlc, hcm⟩ := h.open
  have hcl := ci_len ws
  rw [hcl] at hlc HS ⊢
  have HRO := hide hroom
  have HW := hide hw
  obtain ⟨n, HNN⟩ : ∃ n, Hid (n = ws.length) := ⟨_, rfl⟩
  have HSI : Hid (SI w (.slice ao (ci ws).length cap) (ci ws)) := by rw [hcl]; exact HS.out
  rw [← HNN.out] at hlc HS HRO h1 h2 ⊢
  obtain ⟨F, HF⟩ : ∃ F, Hid (F = ct (sel ws L (2 * n - 2))) := ⟨_, rfl⟩
  rw [← HF.out]
  have e1 : IntKind.i64.wrap (2 * (n : Int)) = 2 * (n : Int) := by rw [IntKind.wrap_i64]; omega
  have e2 : IntKind.i64.wrap (2 * (n : Int) - 2) = ((2 * n - 2 : Nat) : Int) := by rw [IntKind.wrap_i64]; omega
  have e3 : 2 * (n : Int) - 2 = ((2 * n - 2 : Nat) : Int) := by omega
  obtain ⟨M0, hM0⟩ : ∃ M0, M0 = 2 * n - 2 := ⟨_, rfl⟩
  rw [← hM0] at e2 e3 HF HRO
  have HM0 := hide hM0
  clear h hroom hw hcl hM0
  refine (callsIn_wide (n := 3)).1 ?_
  refine callsIn_of_wp_marks Tryd.func60 rfl trivial ?_ rfl
  simp only [Tryd.ntmps60, List.size_toArray, List.length_cons, List.length_nil, Nat.reduceAdd, Nat.reduceSub, Array.replicate_succ, Array.replicate_zero, List.push_toArray, List.append_toArray, List.nil_append, List.cons_append]
  gi_wp2_with (gi_at_make; refine wpListIn_mkI rfl _ _ rfl _ _ _ _ n n rfl rfl (by first | rfl | omega) (by first | rfl | omega) (Nat.le_refl _) (by omega) ?_)
  obtain ⟨w3, hw3⟩ : ∃ w3, ((w.alloc (.cells (Array.replicate n (Value.int .i64 0)) 3)).alloc (.cells #[.slice (some ⟨w.heap.size, 0, none⟩) n n] 23)).alloc (.cells #[.int .i64 (M0 : Int)] 3) = w3 := ⟨_, rfl⟩
  rw [hw3]
  have hs3 : w3.heap.size = w.heap.size + 3 := by rw [← hw3]; simp
  have hl3 : w3.heap[w.heap.size]? = some (.cells ((hls n fun _ => 0).map (Value.int .i64)).toArray 3 (0, 0)) := by
    rw [← hw3, Below.heap_alloc _ _ _ (by simp; omega), Below.heap_alloc _ _ _ (by simp), heap_alloc_new, hls_zero, List.map_replicate]
    simp
  have hg3 : w3.heap[w.heap.size + 1]? = some (.cells #[.slice (some ⟨w.heap.size, 0, none⟩) n n] 23 (0, 0)) := by
    rw [← hw3, Below.heap_alloc _ _ _ (by simp)]
    have := heap_alloc_new (w.alloc (.cells (Array.replicate n (Value.int .i64 0)) 3)) (.cells #[.slice (some ⟨w.heap.size, 0, none⟩) n n] 23)
    rwa [size_alloc'] at this
  have hn3 : w3.heap[w.heap.size + 1 + 1]? = some (.cells #[.int .i64 (M0 : Int)] 3 (0, 0)) := by
    rw [← hw3]
    have := heap_alloc_new ((w.alloc (.cells (Array.replicate n (Value.int .i64 0)) 3)).alloc (.cells #[.slice (some ⟨w.heap.size, 0, none⟩) n n] 23)) (.cells #[.int .i64 (M0 : Int)] 3)
    rwa [size_alloc', size_alloc'] at this
  have hb3 : Below w.heap.size w w3 := by rw [← hw3]; exact (((Below.refl _ _).alloc (Nat.le_refl _) _).alloc (by simp) _).alloc (by simp; omega) _
  have HR3 := hide (rows_any _ ws L w3 (HSI.out.below hb3) (by rw [← HNN.out]; exact h1) hL HW.out)
  have e0 : (ci ws).length = n := by rw [ci_len, ← HNN.out]
  rw [e0] at HR3
  have HFX := hide (And.intro hs3 (And.intro hl3 (And.intro hg3 (And.intro hn3 hb3))))
  clear hs3 hl3 hg3 hn3 hb3 hw3 e0 e1 e2 e3
  refine ⟨trivial, (callsIn_wide.2 HR3.out).mono ?_⟩
  rintro e w4 ⟨v4, rfl, ho4, hb4⟩
  obtain ⟨gA, cA, hv4, q1, q2, q3, q4, q5⟩ := ho4.shape hL.1
  subst hv4
  have HB4 := hide hb4
  have HQ5 := hide q5
  clear ho4 hb4 HR3 q5
  gi_wp2_with fail
  refine ⟨trivial, (callsIn_wide.2 (bwd_any _ _ _ _)).mono ?_⟩
  rintro e w5 ⟨rfl, hw5⟩
  obtain ⟨hL0, hhL⟩ : ∃ hL0, w.heap.size = hL0 := ⟨_, rfl⟩
  have HHL := hide hhL
  obtain ⟨gL, hgL⟩ : ∃ g, hL0 + 1 = g := ⟨_, rfl⟩
  obtain ⟨gN, hgN⟩ : ∃ g, gL + 1 = g := ⟨_, rfl⟩
  obtain ⟨Bx, hBx⟩ : ∃ g, w4.heap.size = g := ⟨_, rfl⟩
  have hFX := HFX.out
  rw [hhL, hgL, hgN] at hFX ⊢
  rw [hBx]
  obtain ⟨hs3, hl3, hg3, hn3, hb3⟩ := hFX
  have hsz4 := HB4.out.size
  have hs5 : w5.heap.size = Bx + 1 := by rw [hw5, size_alloc', hBx]
  have hb5 : Below w4.heap.size w4 w5 := by rw [hw5]; exact (Below.refl _ _).alloc (Nat.le_refl _) _
  have hl5 : w5.heap[hL0]? = some (.cells ((hls n fun _ => 0).map (Value.int .i64)).toArray 3 (0, 0)) := by rw [hb5.block _ (by omega), HB4.out.block _ (by omega)]; exact hl3
  have hg5 : w5.heap[gL]? = some (.cells #[.slice (some ⟨hL0, 0, none⟩) n n] 23 (0, 0)) := by rw [hb5.block _ (by omega), HB4.out.block _ (by omega)]; exact hg3
  have hn5 : w5.heap[gN]? = some (.cells #[.int .i64 (M0 : Int)] 3 (0, 0)) := by rw [hb5.block _ (by omega), HB4.out.block _ (by omega)]; exact hn3
  have hbx5 : w5.heap[Bx]? = some (.cells #[.slice (some ⟨gA, 0, none⟩) L cA] 96 (0, 0)) := by rw [hw5, ← hBx]; exact heap_alloc_new w4 _
  have hbw5 : Below hL0 w w5 := (hb3.trans (HB4.out.mono (by omega))).trans (hb5.mono (by omega))
  have HRW : Hid (∀ k, k < L → ∃ a n' c', w5.cell? ⟨gA, k, none⟩ = some (.slice a n' c') ∧ OC w5 0 (.slice a n' c') (crw ws k)) := fun k hk => by
    obtain ⟨u, u1, u2⟩ := HQ5.out k hk
    obtain ⟨a, c', rfl, _⟩ := u2.shape
    exact ⟨a, _, c', by rw [hb5.cell (by show gA < _; omega)]; exact u1, u2.below hb5 (Nat.le_refl _)⟩
  have hgA : gA < Bx ∧ hL0 + 3 ≤ gA := by omega
  have HL5 := hide (And.intro hl5 (And.intro hg5 (And.intro hn5 (And.intro hbx5 hbw5))))
  have hd1 : hL0 < Bx ∧ gN < Bx ∧ gL < Bx ∧ hL0 + 2 ≤ gN ∧ gN ≤ hL0 + 2 ∧ hL0 + 1 ≤ gL ∧ gL ≤ hL0 + 1 := by omega
  obtain ⟨d, hd⟩ : ∃ d, w5.heap.size = d := ⟨_, rfl⟩
  have hdB : Bx + 1 ≤ d ∧ d ≤ Bx + 1 := by omega
  have HD := hide hd
  clear hs3 hl3 hg3 hn3 hb3 hw5 hb5 hl5 hg5 hn5 hbx5 hbw5 HFX HB4 HQ5 hsz4 hs5 hhL hgL hgN hBx hd q3 q4
  gi_wp2_with fail
  refine wp_range2 (α := Nat × Value) L rfl (by decide) (gf := 71) (lb := #[.pointer (some ⟨Bx, 0, none⟩)]) rfl trivial (enters_of Tryd.func71 (by kernel_rfl) rfl)
    (encs := fun x => #[.int .i64 (x.1 : Int), x.2]) (fun _ => rfl) (PkI L w5 w5.heap.size hL0 gN n ws F) (PkY L w5 w5.heap.size hL0 gN n ws F) (PkI L w5 w5.heap.size hL0 gN n ws F 0) (fun _ _ _ => False)
    (fun m => pkI_rec m (by rw [HD.out]; omega) (by rw [HD.out]; omega)) (fun m x => pkY_rec m x (by rw [HD.out]; omega) (by rw [HD.out]; omega)) (pkI_rec 0 (by rw [HD.out]; omega) (by rw [HD.out]; omega)) (fun _ => ⟨fun _ _ h => h.elim, fun _ _ _ h => h.elim⟩) ?start ?seq ?a1 ?assign ?body ?done ?stop
  case start =>
    intro o
    obtain ⟨p1, p2, p3, p4, p5⟩ := HL5.out
    have hlt : ∀ k, k < d → ((w5.alloc (.deferred (some []))).alloc o).heap[k]? = w5.heap[k]? := fun k hk => by
      rw [Below.heap_alloc _ _ _ (by simp; rw [HD.out]; omega), Below.heap_alloc _ _ _ (by rw [HD.out]; exact hk)]
    refine ⟨M0, fun _ => 0, ⟨?_, ?_, rfl, rfl, rfl, by simp, fun k hk _ _ => hlt k (by rw [← HD.out]; exact hk), by rw [hlt _ (by omega)]; exact p1, by rw [hlt _ (by omega)]; exact p3⟩, Nat.le_refl _, HRO.out, fun i _ => by rw [HF.out]; simp⟩
    · exact (heap_two w5 _ o).2
    · exact (heap_two w5 _ o).1
  case seq =>
    intro o Jx hY W hW
    refine bwd_in (w5.heap.size + 1) Bx gA cA L (by omega) (fun m W => PkI L w5 w5.heap.size hL0 gN n ws F m o W) (fun m x W => PkY L w5 w5.heap.size hL0 gN n ws F m x o W) (PkI L w5 w5.heap.size hL0 gN n ws F 0 o) Jx (fun m W hm => ?_) hY W hW Fence.wide rfl
    obtain ⟨M, cur, hp, hmL, hM, hf⟩ := hm
    obtain ⟨p1, p2, p3, p4, p5⟩ := HL5.out
    have hd' := HD.out
    refine ⟨hmL, ?_, fun e => by subst e; exact ⟨M, cur, hp, hmL, hM, hf⟩, fun k hk => ?_⟩
    · rw [hp.cell (by show Bx < _; omega) (by show Bx ≠ _; omega) (by show Bx ≠ _; omega)]
      exact cellOf' p4 rfl
    · obtain ⟨a, n', c', r1, r2⟩ := HRW.out k (by omega)
      exact ⟨a, n', c', by rw [hp.cell (by show gA < _; omega) (by show gA ≠ _; omega) (by show gA ≠ _; omega)]; exact r1, hk, r2, M, cur, hp, hmL, hM, hf⟩
  case assign =>
    intro x W K hK
    gi_wp2
    exact hK
  case body =>
    rintro m ⟨k, u⟩ o W ⟨hm, hou, M, cur, hp, hmL, hM, hf⟩
    obtain rfl : m = k + 1 := hm
    have hRl : (crw ws k).length = (row ws (k + 1)).length := by rw [← crw_row]; simp [wts]
    have hR2 : 2 ≤ (crw ws k).length := by rw [crw_eq, cmr_len, ← HNN.out]; omega
    have hRM : M ≤ (crw ws k).length := by rw [hRl]; exact hM
    have hR6 : (crw ws k).length ≤ 576 := by have := crw_len ws k; rw [← HNN.out] at this; omega
    have HNX := hide (pk_next (n := n) hM hf)
    have HLV : Hid (∀ j, j ≤ (crw ws k).length → lvs (crw ws k) j ≤ n ∧ lvs (crw ws k) j ≤ j) := fun j hj => by
      have := lvs_le ws k j hj
      rw [← HNN.out] at this
      exact ⟨this.1, this.2.1⟩
    obtain ⟨R, HRR⟩ : ∃ R, Hid (R = crw ws k) := ⟨_, rfl⟩
    have hou' : OC w5 0 u (crw ws k) := hou
    rw [← HRR.out] at hou' hR2 hRM hR6 HNX HLV
    obtain ⟨p1, p2, p3, p4, p5⟩ := HL5.out
    have hd' := HD.out
    obtain ⟨gr, cr, hu, _⟩ := hou'.get (i := 0) (by omega)
    have hu' : u = .slice (some ⟨gr, 0, none⟩) R.length cr := hu
    subst hu'
    have hgr1 : gr < w5.heap.size := (hou'.lt gr rfl).2
    have hgr2 : gr ≠ hL0 := oc_ne hou' p1
    have hgr3 : gr ≠ gN := oc_ne hou' p3
    have HOC : Hid (∀ (cur' : Nat → Nat) (W' : World), Pst w5 w5.heap.size hL0 gN n M cur' o W' → OC W' 0 (.slice (some ⟨gr, 0, none⟩) R.length cr) R) := fun cur' W' hp' => hp'.oc hou' fun j hj => by
      simp only [Value.ownBlock, Option.some.injEq] at hj
      subst hj
      exact ⟨hgr1, hgr2, hgr3⟩
    obtain ⟨_, _, hsh, hcr, hcr2⟩ := hou'.shape
    simp only [Value.slice.injEq] at hsh
    obtain ⟨-, -, rfl⟩ := hsh
    have HGL : Hid (∀ (M' : Nat) (cur' : Nat → Nat) (W' : World), Pst w5 w5.heap.size hL0 gN n M' cur' o W' → W'.cell? ⟨gL, 0, none⟩ = some (.slice (some ⟨hL0, 0, none⟩) n n) ∧ W'.cell? ⟨gN, 0, none⟩ = some (.int .i64 (M' : Int)) ∧ W'.frozen? ⟨gN, 0, none⟩ = false) := fun M' cur' W' hp' =>
      ⟨by rw [hp'.cell (by show gL < _; omega) (by show gL ≠ _; omega) (by show gL ≠ _; omega)]; exact cellOf' p2 rfl, cellOf' hp'.need rfl, frozenOf' hp'.need⟩
    have c0 := (HGL.out M cur W hp).2.1
    have HP := hide hp
    have HCB : Hid (∀ i, i < n → cur i ≤ 1000) := fun i hi => by
      have := hf i hi
      have h2 : F i ≤ 15 := by
        rw [HF.out]
        have := ct_le (sel ws L M0) i
        rw [sel_len] at this
        omega
      omega
    have HCUR : Hid (Pst w5 w5.heap.size hL0 gN n M (upto cur (lvs R 0)) o W) := by
      have e : lvs R 0 = 0 := by simp [lvs]
      rw [e, upto_zero]
      exact hp
    have hMc : M ≤ cr := by omega
    have hMm : (M : Int) ≤ (cr : Int) := by omega
    have hd2 : hL0 < w5.heap.size ∧ gN < w5.heap.size ∧ hL0 ≠ gN := by omega
    obtain ⟨dd, hdd⟩ : ∃ dd, dd = w5.heap.size := ⟨_, rfl⟩
    rw [← hdd] at HOC HGL HP HCUR hd2 ⊢
    clear hou hou' hp p1 p2 p3 p4 p5 hu hgr1 hgr2 hgr3 hdd hd' hRl hM hf
    gi_wp2
    gi_loopw [9, 29] (fun vl vi wr => ∃ j : Nat, j ≤ M ∧ vi = .int .i64 j ∧ vl = .int .i64 (lvs R j) ∧ Hid (Pst w5 dd hL0 gN n M (upto cur (lvs R j)) o wr)) (fun _ vi _ => M - (intOf vi).toNat)
    case atStart => exact ⟨0, Nat.zero_le _, rfl, by simp [lvs], HCUR⟩
    case round =>
      obtain ⟨j, hj, rfl, rfl, HPJ⟩ := hrel
      by_cases hlt : j < M
      · have hlt' : (j : Int) < (M : Int) := by omega
        obtain ⟨gr', cr', hsh, k1, k2⟩ := (HOC.out _ _ HPJ.out).get (i := j) (by omega)
        simp only [Value.slice.injEq, Option.some.injEq, Addr.mk.injEq, and_true] at hsh
        obtain ⟨rfl, -, rfl⟩ := hsh
        have hls := lvs_succ (R := R) (k := j) (by omega)
        have hl1 := HLV.out j (by omega)
        have hl2 := HLV.out (j + 1) (by omega)
        have HLS := hide hls
        rw [hls] at hl2
        obtain ⟨x, hx⟩ : ∃ x, x = (R.getD j (0, false)).1 := ⟨_, rfl⟩
        obtain ⟨bb, hbb⟩ : ∃ x, x = (R.getD j (0, false)).2 := ⟨_, rfl⟩
        rw [← hx] at k1
        rw [← hbb] at k2 hl2 HLS
        obtain ⟨lv, hlv⟩ : ∃ lv, lv = lvs R j := ⟨_, rfl⟩
        rw [← hlv] at hl1 hl2 HLS HPJ ⊢
        obtain ⟨sz, hsz⟩ : ∃ sz, sz = wr.heap.size := ⟨_, rfl⟩
        have HSZ := hide HPJ.out.size
        clear hls hx hbb hlv
        cases bb with
        | false =>
          have HNJ : Hid (lvs R (j + 1) = lv) := by show _ = _; rw [HLS.out]; rfl
          have HPN := hide (HPJ.out.alloc hd2.1 hd2.2.1 (.cells #[.int .i64 (x : Int), .bool false] 100))
          gi_wp2
          go_roundw
          case rel => exact ⟨j + 1, by omega, by go_num, by rw [HNJ.out], by rw [HNJ.out]; exact HPN⟩
          case measure => simp [intOf]; omega
        | true =>
          have HNJ : Hid (lvs R (j + 1) = lv + 1) := by show _ = _; rw [HLS.out]; rfl
          have hlvn : lv < n := by simp at hl2; omega
          have HPA := hide (HPJ.out.alloc hd2.1 hd2.2.1 (.cells #[.int .i64 (x : Int), .bool true] 100))
          have c1 := (HGL.out _ _ _ HPA.out).1
          have hoi := HPA.out.oi (by omega)
          have c2 := OI.get hoi (b := hL0) rfl (i := lv) (by rw [hls_len]; exact hlvn)
          rw [hls_gt _ hlvn] at c2
          have f2 := (OI.putg hoi (k := lv) (by rw [hls_len]; exact hlvn) 0).2.1
          have HPN := hide (HPA.out.inc hd2.1 hd2.2.2 hlvn)
          have hup : upto cur lv lv = cur lv := by simp [upto]
          rw [hup] at c2
          obtain ⟨cu, hcu⟩ : ∃ cu, cu = cur lv := ⟨_, rfl⟩
          rw [← hcu] at c2 HPN
          have hcub : cu ≤ 1000 := by rw [hcu]; exact HCB.out lv hlvn
          have hwc : IntKind.i64.wrap ((cu : Int) + 1) = (cu : Int) + 1 := by rw [IntKind.wrap_i64]; omega
          have hln : (lv : Int) < (n : Int) := by omega
          clear hoi hup hcu
          gi_wp2
          go_roundw
          case rel => exact ⟨j + 1, by omega, by go_num, by rw [HNJ.out]; go_num, by rw [HNJ.out]; exact HPN⟩
          case measure => simp [intOf]; omega
      · obtain rfl : j = M := by omega
        have hlt' : ¬ (j : Int) < (j : Int) := by omega
        obtain ⟨_, c1, f1⟩ := HGL.out _ _ _ HPJ.out
        obtain ⟨x1, x2⟩ := HNX.out
        have hl1 := HLV.out j (by omega)
        obtain ⟨lv, hlv⟩ : ∃ lv, lv = lvs R j := ⟨_, rfl⟩
        rw [← hlv] at hl1 x1 x2 HPJ ⊢
        have HPN := hide (HPJ.out.setN hd2.2.1 hd2.2.2 (2 * (j - lv)))
        have HX := hide (And.intro x1 x2)
        have w1 : IntKind.i64.wrap ((j : Int) - (lv : Int)) = (j : Int) - lv := by rw [IntKind.wrap_i64]; omega
        have w2 : IntKind.i64.wrap (2 * ((j : Int) - (lv : Int))) = ((2 * (j - lv) : Nat) : Int) := by rw [IntKind.wrap_i64]; omega
        have w3 : 2 * ((j : Int) - (lv : Int)) = ((2 * (j - lv) : Nat) : Int) := by omega
        obtain ⟨z, hz⟩ : ∃ z, z = 2 * (j - lv) := ⟨_, rfl⟩
        rw [← hz] at HPN w2 w3 HX
        clear hlv x1 x2 hz
        gi_wp2
        refine ⟨k, rfl, z, _, HPN.out, by omega, HX.out.1, HX.out.2⟩
  case done =>
    rintro o W ⟨M, cur, hp, hmL, hM, hf⟩
    obtain ⟨p1, p2, p3, p4, p5⟩ := HL5.out
    have hd' := HD.out
    have c0 : W.cell? ⟨gL, 0, none⟩ = some (.slice (some ⟨hL0, 0, none⟩) n n) := by
      rw [hp.cell (by show gL < _; omega) (by show gL ≠ _; omega) (by show gL ≠ _; omega)]
      exact cellOf' p2 rfl
    have hD := hp.dfr
    have hoi := hp.oi (by omega)
    have e : hls n cur = hls n F := by
      unfold hls
      refine List.map_congr_left fun i hi => ?_
      have := hf i (List.mem_range.1 hi)
      simp [sel, ct] at this
      rw [this]
    rw [e] at hoi
    have hpo : ∀ j, j ≠ w5.heap.size → (W.putObj w5.heap.size (.deferred none)).heap[j]? = W.heap[j]? := fun j hj => by
      show (W.heap.setIfInBounds w5.heap.size (.deferred none))[j]? = _
      rw [Array.getElem?_setIfInBounds_ne (fun e => hj e.symm)]
    have HFIN : Hid (OI (W.putObj w5.heap.size (.deferred none)) w.heap.size (.slice (some ⟨hL0, 0, none⟩) n n) (hls n F) ∧ Below w.heap.size w (W.putObj w5.heap.size (.deferred none))) := by
      have hLw : hL0 = w.heap.size := HHL.out.symm
      refine ⟨?_, ?_⟩
      · have h1 := hoi.move (w' := W.putObj w5.heap.size (.deferred none)) fun j hj => hpo j (by simp only [Value.ownBlock, Option.some.injEq] at hj; omega)
        refine ⟨h1.1, ?_⟩
        rcases h1.2 with q | ⟨g, cc, cc2, he, _, r⟩
        · simp at q
        · simp only [Value.slice.injEq, Option.some.injEq, Addr.mk.injEq, and_true] at he
          exact .inr ⟨g, cc, cc2, by simp only [Value.slice.injEq, Option.some.injEq, Addr.mk.injEq, and_true]; exact he, by omega, r⟩
      · refine ⟨hp.os.trans p5.os, hp.tape.trans p5.tape, hp.output.trans p5.output, ?_, fun j hj => ?_⟩
        · show w.heap.size ≤ (W.heap.setIfInBounds w5.heap.size (.deferred none)).size
          have := hp.size
          simp
          omega
        · rw [hpo j (by omega), hp.blk j (by omega) (by omega) (by omega), p5.block j (by omega)]
    clear hf hM hp e hoi hpo p1 p2 p3 p4 p5 hd'
    gi_wp2
    refine ⟨by simp, .inl ⟨_, _, rfl, run_takeDeferred hD, ?_⟩⟩
    exact ⟨_, results_tmp rfl _ _ _, _, _, rfl, HFIN.out.1, HFIN.out.2⟩
  case stop =>
    rintro c o W h
    exact h.elim
end Go.Proofs.YtkmefeihkmbngaaDoor

namespace Go.Proofs.YtkmefeihkmbngaaDoor
open Go.RowKit Go.Maps
set_option maxRecDepth 20000
set_option linter.unusedVariables false

theorem w64in' {x : Int} (h : -9223372036854775808 ≤ x ∧ x ≤ 9223372036854775807) : wrap64 x = x := by unfold wrap64; omega

theorem pow15 {L p : Nat} (hL : L ≤ 15) (hp : p = 2 ^ L) : p ≤ 32768 ∧ wrap64 ((2 : Int) ^ L) = (p : Int) ∧ wrap64 ((2 : Int) ^ min L 64) = (p : Int) ∧ ((2 : Int) ^ L) = (p : Int) := by
  have h1 : p ≤ 32768 := by rw [hp]; exact Nat.pow_le_pow_right (n := 2) (by decide) hL
  have e : ((2 : Int) ^ L) = (p : Int) := by rw [hp]; simp
  refine ⟨h1, ?_, ?_, e⟩
  · rw [e]; exact w64in' (by omega)
  · rw [show min L 64 = L from Nat.min_eq_left (by omega), e]; exact w64in' (by omega)

theorem lws_ci {l : List Int} (h : ∀ i, 0 ≤ l.getD i 0) : ((srl l).map fun s => l.getD s 0) = ci (lws l) := by
  unfold lws ci
  rw [List.map_map]
  refine List.map_congr_left fun s _ => ?_
  have := h s
  simp only [Function.comp_apply, fq]
  omega

set_option maxHeartbeats 4000000 in
theorem limited_any (v : Value) (l : List Int) (lim : Int) (w : World) (h : SI w v l) (hne : ∀ k, v.ownBlock = some k → k < w.heap.size) (hlim : -9223372036854775808 ≤ lim ∧ lim ≤ 9223372036854775807) :
    Calls Tryd.prog 45 #[v, .int .i64 lim] w fun e w' => ∃ a c, e = .returned (.tuple #[.slice a (lmL l lim).length c, .int .i64 (lmE l lim)]) ∧ OI w' w.heap.size (.slice a (lmL l lim).length c) (lmL l lim) ∧ Below w.heap.size w w' := by
  have HS := hide h
  obtain ⟨ao, cap, rfl, hlc, hcm⟩ := h.open
  have HNE := hide hne
  clear h hne
  by_cases h1 : 288 < l.length ∨ lim < 1 ∨ 15 < lim
  · have HE : Hid (lmE l lim = 1) := if_pos h1
    have HV : Hid (lmL l lim = []) := if_neg (by rw [HE.out]; decide)
    rw [HE.out, HV.out]
    by_cases q1 : 288 < l.length
    · have q1' : (288 : Int) < (l.length : Int) := by omega
      clear h1
      go_enter Tryd.func45, Tryd.ntmps45
      go_wp2
      go_ret2
      exact ⟨none, 0, rfl, World.ownsRow_nil _ _ _ _, Below.refl _ _⟩
    · have q1' : ¬ (288 : Int) < (l.length : Int) := by omega
      by_cases q2 : lim < 1
      · clear h1
        go_enter Tryd.func45, Tryd.ntmps45
        go_wp2
        go_ret2
        exact ⟨none, 0, rfl, World.ownsRow_nil _ _ _ _, Below.refl _ _⟩
      · have q3 : 15 < lim := by omega
        clear h1
        go_enter Tryd.func45, Tryd.ntmps45
        go_wp2
        go_ret2
        exact ⟨none, 0, rfl, World.ownsRow_nil _ _ _ _, Below.refl _ _⟩
  have q1 : ¬ (288 : Int) < (l.length : Int) := by omega
  obtain ⟨L, rfl⟩ : ∃ L : Nat, lim = L := ⟨lim.toNat, by omega⟩
  have q2 : ¬ (L : Int) < 1 := by omega
  have q3 : ¬ 15 < (L : Int) := by omega
  have hL1 : 1 ≤ L ∧ L ≤ 15 := by omega
  have hl288 : l.length ≤ 288 := by omega
  have HLT : Hid ((L : Int).toNat = L) := Int.toNat_natCast L
  cases hw : bnb l 4294967296 with
  | false =>
    have HE : Hid (lmE l L = 61) := by show lmE l L = 61; unfold lmE; rw [if_neg h1, if_pos hw]
    have HV : Hid (lmL l L = []) := if_neg (by rw [HE.out]; decide)
    rw [HE.out, HV.out]
    have HW := hide hw
    clear hw h1
    go_enter Tryd.func45, Tryd.ntmps45
    go_wp2_with fail
    refine (weighable_any _ l _ HS.out).mono ?_
    rintro e w1 ⟨rfl, rfl⟩
    rw [HW.out]
    go_wp2
    go_ret2
    exact ⟨none, 0, rfl, World.ownsRow_nil _ _ _ _, Below.refl _ _⟩
  | true =>
    have HW := hide hw
    have hbn := bnb_iff.1 hw
    have hnn : ∀ i, 0 ≤ l.getD i 0 := fun i => by
      by_cases c : i < l.length
      · exact (hbn i c).1
      · rw [List.getD_eq_getElem?_getD, List.getElem?_eq_none (by omega)]; exact Int.le_refl _
    have HMU : Hid (∀ s ∈ us6 l, s < l.length) := fun s hs => (mem_us.1 hs).1
    have hul := us_le6 (l := l)
    obtain ⟨p, hp⟩ : ∃ p, p = 2 ^ L := ⟨_, rfl⟩
    obtain ⟨p1, p2, p3, p4⟩ := pow15 hL1.2 hp
    by_cases h60 : p < (us6 l).length
    · have HE : Hid (lmE l L = 60) := by show lmE l L = 60; unfold lmE; rw [if_neg h1, if_neg (by rw [hw]; decide), HLT.out, if_pos (by rw [← hp]; exact h60)]
      have HV : Hid (lmL l L = []) := if_neg (by rw [HE.out]; decide)
      rw [HE.out, HV.out]
      obtain ⟨u, HU⟩ : ∃ u, Hid (u = (us6 l).length) := ⟨_, rfl⟩
      have HUC := hide (used_any6 (.slice ao l.length cap) l w HS.out hl288)
      rw [← HU.out] at h60 hul HUC
      have h60' : (p : Int) < (u : Int) := by omega
      clear hw h1 hbn hnn hp
      go_enter Tryd.func45, Tryd.ntmps45
      go_wp2_with fail
      refine (weighable_any _ l _ HS.out).mono ?_
      rintro e w1 ⟨rfl, rfl⟩
      rw [HW.out]
      go_wp2_with fail
      refine HUC.out.mono ?_
      rintro e w2 ⟨a2, c2, rfl, ho2, hb2⟩
      have HB2 := hide hb2
      clear ho2 hb2
      go_wp2
      go_ret2
      exact ⟨none, 0, rfl, World.ownsRow_nil _ _ _ _, HB2.out⟩
    · have HE : Hid (lmE l L = 0) := by show lmE l L = 0; unfold lmE; rw [if_neg h1, if_neg (by rw [hw]; decide), HLT.out, if_neg (by rw [← hp]; exact h60)]
      have HV : Hid (lmL l L = lmt l L) := by show _ = _; unfold lmL; rw [if_pos HE.out, HLT.out]
      rw [HE.out, HV.out, lmt_len]
      by_cases h2 : (us6 l).length < 2
      · have HFW := hide (lmt_few (L := L) h2)
        obtain ⟨u, HU⟩ : ∃ u, Hid (u = (us6 l).length) := ⟨_, rfl⟩
        have HUC := hide (used_any6 (.slice ao l.length cap) l w HS.out hl288)
        rw [← HU.out] at h60 hul HUC h2
        have h60' : ¬ (p : Int) < (u : Int) := by omega
        have h2' : (u : Int) < 2 := by omega
        clear hw h1 hbn hnn hp
        go_enter Tryd.func45, Tryd.ntmps45
        go_wp2_with fail
        refine (weighable_any _ l _ HS.out).mono ?_
        rintro e w1 ⟨rfl, rfl⟩
        rw [HW.out]
        go_wp2_with fail
        refine HUC.out.mono ?_
        rintro e w2 ⟨a2, c2, rfl, ho2, hb2⟩
        have HO2 := hide ho2
        have HB2 := hide hb2
        clear ho2 hb2
        go_wp2_with fail
        refine (few_any l.length _ (us6 l) _ HO2.out.sb HMU.out (by omega) (by rw [← HU.out]; omega)).mono ?_
        rintro e w3 ⟨a3, c3, rfl, ho3, hb3⟩
        have HF : Hid (OI w3 w1.heap.size (.slice a3 l.length c3) (lmt l L) ∧ Below w1.heap.size w1 w3) := ⟨by rw [← HFW.out]; exact ho3.base HB2.out.size, HB2.out.trans (hb3.mono HB2.out.size)⟩
        clear ho3 hb3
        go_wp2
        go_ret2
        exact ⟨_, _, rfl, HF.out.1, HF.out.2⟩
      · have HSP := hide (lmt_spr l L)
        have HPK := hide (lm_pack (L := L) (show 2 ≤ (us6 l).length by omega))
        have HLW := hide (lws_ci hnn)
        have HLL := hide (lws_len l)
        have HSL := hide (srl_len l)
        have HSM : Hid (∀ s ∈ srl l, s < l.length) := fun s hs => (mem_us.1 (srl_mem.1 hs)).1
        have HWL : Hid (∀ x ∈ lws l, x ≤ 4294967296) := fun x hx => by
          obtain ⟨s, hs, rfl⟩ := List.mem_map.1 hx
          exact (fq_le hbn (srl_mem.1 hs)).2
        have HRM : Hid (2 * (us6 l).length - 2 ≤ (row (lws l) L).length) := by
          show _ ≤ _
          obtain ⟨k, hk⟩ : ∃ k, L = k + 1 := ⟨L - 1, by omega⟩
          have e : 2 * 2 ^ k = p := by rw [hp, hk, Nat.pow_succ, Nat.mul_comm]
          have := row_room (lws l) k 2 (by rw [HLL.out, e]; omega)
          rw [HLL.out, ← hk] at this
          omega
        obtain ⟨u, HU⟩ : ∃ u, Hid (u = (us6 l).length) := ⟨_, rfl⟩
        have HUC := hide (used_any6 (.slice ao l.length cap) l w HS.out hl288)
        rw [← HU.out] at h60 hul HUC h2 HPK HLL HSL HRM
        have h60' : ¬ (p : Int) < (u : Int) := by omega
        have h2' : ¬ (u : Int) < 2 := by omega
        clear hw h1 hbn hnn hp
        go_enter Tryd.func45, Tryd.ntmps45
        go_wp2_with fail
        refine (weighable_any _ l _ HS.out).mono ?_
        rintro e w1 ⟨rfl, rfl⟩
        rw [HW.out]
        go_wp2_with fail
        refine HUC.out.mono ?_
        rintro e w2 ⟨a2, c2, rfl, ho2, hb2⟩
        obtain ⟨B, c2', hv2, _⟩ := ho2.form (by rw [ci_len, ← HU.out]; omega)
        simp only [Value.slice.injEq] at hv2
        obtain ⟨rfl, -, rfl⟩ := hv2
        have HO2 := hide ho2
        have HB2 := hide hb2
        have HS2 := hide (HS.out.below hb2)
        have HFC := hide (first_any (.slice ao l.length cap) l (us6 l) w2 B c2 w1.heap.size HS2.out (by rw [← HU.out]; exact ho2) HNE.out (us_rise l) HMU.out (by rw [← HU.out]; omega))
        rw [← HU.out] at HFC
        clear ho2 hb2
        go_wp2_with fail
        refine HFC.out.mono ?_
        rintro e w3 ⟨rfl, T, hT, ho3, hb3⟩
        obtain rfl : T = srl l := srt_eq hT (srl_srt l)
        have HO3 := hide ho3
        have HB3 := hide (HB2.out.trans hb3)
        have HS3 := hide (HS.out.below HB3.out)
        have HSI3 : Hid (SI w3 (.slice (some ⟨B, 0, none⟩) u c2) (ci (srl l))) := by
          have := ho3.sb
          exact this
        clear ho3 hb3 hT
        have HPC := hide (pick_any (.slice ao l.length cap) _ l (srl l) w3 HS3.out HSI3.out HSM.out (by rw [HSL.out]; omega))
        rw [HLW.out, HSL.out] at HPC
        go_wp2_with fail
        refine HPC.out.mono ?_
        rintro e w4 ⟨a4, c4, rfl, ho4, hb4⟩
        have HO4 := hide ho4
        have HB4 := hide (HB3.out.trans (hb4.mono HB3.out.size))
        have HO34 := hide (HO3.out.below hb4 (Nat.le_refl _))
        have HPA := hide (pack_any _ (lws l) L w4 ho4.sb (by rw [HLL.out]; omega) (by rw [HLL.out]; omega) hL1 HWL.out (by rw [HLL.out]; exact HRM.out))
        rw [HLL.out, HPK.out] at HPA
        clear ho4 hb4
        go_wp2_with fail
        refine HPA.out.mono ?_
        rintro e w5 ⟨a5, c5, rfl, ho5, hb5⟩
        have HO5 := hide ho5
        have HB5 := hide (HB4.out.trans (hb5.mono HB4.out.size))
        have HO35 := hide (HO34.out.below hb5 (Nat.le_refl _))
        clear ho5 hb5
        go_wp2_with fail
        refine (spread_any l.length _ _ (srl l) (fun s => (lm l L s : Int)) _ HO35.out.sb HO5.out.sb HSM.out (by omega) (by rw [HSL.out]; omega)).mono ?_
        rintro e w6 ⟨a6, c6, rfl, ho6, hb6⟩
        have HF : Hid (OI w6 w1.heap.size (.slice a6 l.length c6) (lmt l L) ∧ Below w1.heap.size w1 w6) := ⟨by rw [← HSP.out]; exact ho6.base HB5.out.size, HB5.out.trans (hb6.mono HB5.out.size)⟩
        clear ho6 hb6
        go_wp2
        go_ret2
        exact ⟨_, _, rfl, HF.out.1, HF.out.2⟩
end Go.Proofs.YtkmefeihkmbngaaDoor

namespace Go.Proofs.YtkmefeihkmbngaaDoor
open Go.RowKit Go.Maps
set_option maxRecDepth 20000
set_option linter.unusedVariables false

theorem pow_split {L a : Nat} (hL : L ≤ 60) (h : a ≤ L) : 2 ^ (60 - a) = 2 ^ (60 - L) * 2 ^ (L - a) := by
  rw [← Nat.pow_add]
  congr 1
  omega

theorem kr_limit {len : Nat → Nat} {l : List Nat} {L : Nat} (hL : L ≤ 60) (h : ∀ s ∈ l, len s ≤ L) : kr len l = 2 ^ (60 - L) * (l.map fun s => 2 ^ (L - len s)).sum := by
  induction l with
  | nil => simp [kr]
  | cons a r ih =>
    have ih' := ih fun s hs => h s (List.mem_cons_of_mem _ hs)
    unfold kr at ih' ⊢
    simp only [List.map_cons, List.sum_cons]
    rw [ih', pow_split hL (h a (by simp)), Nat.mul_add]

theorem kr_perm {len : Nat → Nat} {l l' : List Nat} (h : l.Perm l') : kr len l = kr len l' := perm_sum _ h
theorem fl_perm {f len : Nat → Nat} {l l' : List Nat} (h : l.Perm l') : fl f len l = fl f len l' := perm_sum _ h

theorem lm_facts {f : List Int} {L : Nat} (hs : Sound f) (hL : 1 ≤ L ∧ L ≤ 15) (hu : (us6 f).length ≤ 2 ^ L) (h2 : 2 ≤ (us6 f).length) : kr (lm f L) (us6 f) = 2 ^ 60 ∧ (∀ s ∈ us6 f, lm f L s ≤ L) ∧ ∀ o, (∀ s ∈ us6 f, o s ≤ L) → kr o (us6 f) ≤ 2 ^ 60 → fl (fq f) (lm f L) (us6 f) ≤ fl (fq f) o (us6 f) := by
  have hp := (srl_srt f).perm
  have key := limited_good (f := fq f) (len := lm f L) (us6 := srl f) L hL.1 (by rw [srl_len]; omega) (lws_rise hs.nn) (by rw [srl_len]; exact hu) (fun i hi => by
    have := lm_at (l := f) (L := L) h2 hi
    rw [List.getD_eq_getElem?_getD, List.getElem?_eq_getElem hi, Option.getD_some, this]
    rw [srl_len, show 2 * ((us6 f).length - 1) = 2 * (us6 f).length - 2 by omega]
    rfl)
  obtain ⟨a, b, c⟩ := key
  have hle : ∀ s ∈ us6 f, lm f L s ≤ L := fun s h => b s (srl_mem.2 h)
  have hsum : ∀ g : Nat → Nat, ((srl f).map g).sum = ((us6 f).map g).sum := fun g => perm_sum g hp
  have e60 : 2 ^ (60 - L) * 2 ^ L = 2 ^ 60 := by rw [← Nat.pow_add]; congr 1; omega
  refine ⟨?_, hle, fun o ho hk => ?_⟩
  · rw [kr_limit (by omega) hle, ← hsum, a]
    exact e60
  · rw [← fl_perm hp, ← fl_perm hp]
    refine c o (fun s h => ho s (srl_mem.1 h)) ?_
    rw [kr_limit (by omega) ho, ← e60] at hk
    rw [hsum]
    exact Nat.le_of_mul_le_mul_left hk (Nat.two_pow_pos _)

theorem lmt_get {f : List Int} {L s : Nat} (h : s < f.length) : (lmt f L).getD s 0 = (lm f L s : Int) := by
  unfold lmt
  rw [List.getD_eq_getElem?_getD, List.getElem?_map, List.getElem?_range h]
  rfl

theorem nn_lmt {f : List Int} {L s : Nat} (h : s ∈ us6 f) : nn (lmt f L) s = lm f L s := by
  unfold nn
  rw [lmt_get (mem_us.1 h).1]
  rfl

theorem lm_one {f : List Int} {L s : Nat} (h : (us6 f).length = 1) (hm : s ∈ us6 f) : lm f L s = 1 := by
  unfold lm
  rw [if_pos h, if_pos hm]

theorem gd_lmt {f : List Int} {L : Nat} (hs : Sound f) (hL : 1 ≤ L ∧ L ≤ 15) (hu : (us6 f).length ≤ 2 ^ L) : Gd f (lmt f L) L := by
  refine ⟨lmt_len f L, fun s h h0 => ?_, fun s hm => ?_, fun h s hm => by rw [lmt_get (mem_us.1 hm).1, lm_one h hm]; rfl, fun h2 => ?_⟩
  · rw [lmt_get h, lm_out (fun hm => by have := (mem_us.1 hm).2; omega)]; rfl
  · have hm' : s ∈ us6 f := hm
    have hpos := List.length_pos_of_mem hm'
    rw [lmt_get (mem_us.1 hm').1]
    by_cases h1 : (us6 f).length = 1
    · rw [lm_one h1 hm']; omega
    · obtain ⟨a, b, _⟩ := lm_facts hs hL hu (by omega)
      have h3 := kr_one a (by omega) hm'
      have h4 := b s hm'
      omega
  · rw [kr_congr (fun s h => nn_lmt h)]
    exact (lm_facts hs hL hu h2).1

end Go.Proofs.YtkmefeihkmbngaaDoor

namespace Go.Proofs.YtkmefeihkmbngaaDoor
open Go.RowKit Go.Maps
set_option maxRecDepth 20000
set_option linter.unusedVariables false

abbrev Mnd := Nod × Value

def fn2 (M : List Mnd) : List Value := M.flatMap fun p => [.int .i64 (p.1.1 : Int), p.2]

def mn0 : Mnd := (nod0, undef)

theorem fn2_get {M : List Mnd} {i : Nat} (h : i < M.length) : (fn2 M)[i * 2]? = some (.int .i64 ((M.getD i mn0).1.1 : Int)) ∧ (fn2 M)[i * 2 + 1]? = some (M.getD i mn0).2 := by
  induction M generalizing i with
  | nil => simp at h
  | cons a r ih =>
    cases i with
    | zero => exact ⟨rfl, rfl⟩
    | succ i =>
      have := ih (i := i) (by simpa using h)
      have e : fn2 (a :: r) = .int .i64 (a.1.1 : Int) :: a.2 :: fn2 r := rfl
      rw [e, show (i + 1) * 2 = i * 2 + 1 + 1 by omega, show i * 2 + 1 + 1 + 1 = (i * 2 + 1) + 1 + 1 by omega]
      simp only [List.getElem?_cons_succ]
      exact this

theorem fn2_snoc (M : List Mnd) (p : Mnd) : fn2 (M ++ [p]) = fn2 M ++ [.int .i64 (p.1.1 : Int), p.2] := by simp [fn2]

structure ON (w : World) (base : Nat) (v : Value) (M : List Mnd) : Prop where
  row : w.ownsRow base 77 2 v M.length (fn2 M)
  holds : ∀ p ∈ M, OI w 0 p.2 (ci p.1.2)

theorem ON.lt {w : World} {base : Nat} {v : Value} {M : List Mnd} (h : ON w base v M) : ∀ k, v.ownBlock = some k → base ≤ k ∧ k < w.heap.size := World.ownsRow.lt h.row

theorem rown_move6 {w w' : World} {base : Nat} {e : TypeId} {size : Nat} {v : Value} {n : Nat} {xs : List Value} (h : w.ownsRow base e size v n xs) (hb : ∀ k, v.ownBlock = some k → w'.heap[k]? = w.heap[k]?) : w'.ownsRow base e size v n xs := by
  refine ⟨h.1, ?_⟩
  rcases h.2 with h2 | ⟨g, cap, cur, rfl, h1, h2, r⟩
  · exact .inl h2
  · exact .inr ⟨g, cap, cur, rfl, h1, (hb g rfl).trans h2, r⟩

theorem ON.below {w w' : World} {base B : Nat} {v : Value} {M : List Mnd} (h : ON w base v M) (hb : Below B w w') (hB : w.heap.size ≤ B) : ON w' base v M :=
  ⟨rown_move6 h.row fun k hk => hb.block k (Nat.lt_of_lt_of_le (h.lt k hk).2 hB), fun p hp => (h.holds p hp).below hb hB⟩

theorem ON.drewN {w : World} {base : Nat} {v : Value} {M : List Mnd} (h : ON w base v M) (n : Nat) : ON (w.drewN n) base v M := ⟨rown_move6 h.row fun _ _ => rfl, fun p hp => (h.holds p hp).move fun _ _ => rfl⟩

theorem ON.base {w : World} {base base' : Nat} {v : Value} {M : List Mnd} (h : ON w base v M) (hb : base' ≤ base) : ON w base' v M := by
  refine ⟨⟨h.row.1, ?_⟩, h.holds⟩
  rcases h.row.2 with h2 | ⟨g, cap, cur, rfl, h1, r⟩
  · exact .inl h2
  · exact .inr ⟨g, cap, cur, rfl, Nat.le_trans hb h1, r⟩

theorem ON.shape {w : World} {base : Nat} {v : Value} {M : List Mnd} (h : ON w base v M) : ∃ a c, v = .slice a M.length c ∧ M.length ≤ c ∧ c ≤ 9223372036854775807 := by
  rcases h.row.2 with ⟨rfl, h0⟩ | ⟨g, cap, cur, rfl, _, _, h3, h4, _⟩
  · exact ⟨none, 0, by rw [h0], by omega, by omega⟩
  · unfold maxLen at h4; exact ⟨_, _, rfl, h3, by omega⟩

theorem ON.get {w : World} {base : Nat} {v : Value} {M : List Mnd} (h : ON w base v M) {i : Nat} (hi : i < M.length) : ∃ g c, v = .slice (some ⟨g, 0, none⟩) M.length c ∧ w.cell? ⟨g, i * 2, none⟩ = some (.int .i64 ((M.getD i mn0).1.1 : Int)) ∧ w.cell? ⟨g, i * 2 + 1, none⟩ = some (M.getD i mn0).2 := by
  have hc := @World.ownsRow.cells _ _ _ _ _ _ _ h.row
  rcases h.row.2 with ⟨rfl, h0⟩ | ⟨g, cap, cur, rfl, _⟩
  · omega
  · obtain ⟨g1, g2⟩ := fn2_get hi
    have c1 := hc (g := g) rfl _ _ g1
    have c2 := hc (g := g) rfl _ _ g2
    rw [Addr.add_lit, Nat.zero_add] at c1 c2
    exact ⟨g, cap, rfl, c1, c2⟩

theorem md_mem {M : List Mnd} {i : Nat} (h : i < M.length) : M.getD i mn0 ∈ M := by
  rw [show M.getD i mn0 = M[i] by simp [h]]
  exact List.getElem_mem h

theorem oi_apart {w : World} {b0 base : Nat} {v u : Value} {l : List Int} {n : Nat} {xs : List Value} (h : OI w b0 v l) (h2 : w.ownsRow base 77 2 u n xs) : ∀ k, v.ownBlock = some k → u.ownBlock ≠ some k := by
  intro k hk he
  rcases h.2 with ⟨rfl, _⟩ | ⟨g, cap, cur, rfl, _, hg, _⟩
  · simp [Value.ownBlock] at hk
  · rcases h2.2 with ⟨rfl, _⟩ | ⟨g', cap', cur', rfl, _, hg', _⟩
    · simp [Value.ownBlock] at he
    · simp only [Value.ownBlock, Option.some.injEq] at hk he
      rw [hk] at hg
      rw [he] at hg'
      rw [hg] at hg'
      simp at hg'

theorem infoNode : (Tryd.prog.info? 77).map (fun i => (i.zero, i.size, i.bytes)) = some (some (.agg #[.int .i64 0, .slice none 0 0]), 2, 32) := by kernel_rfl

theorem on_snoc {w w' : World} {base : Nat} {v v' : Value} {M : List Mnd} {p : Mnd} (h : ON w base v M) (hp : OI w 0 p.2 (ci p.1.2)) (hn : w'.ownsRow base 77 2 v' (M.length + 1) (fn2 M ++ [.int .i64 (p.1.1 : Int), p.2])) (hg : w.grownBy w' v.ownBlock) : ON w' base v' (M ++ [p]) := by
  have mv : ∀ {x : Value} {l : List Int}, OI w 0 x l → OI w' 0 x l := fun {x l} hx => hx.move fun k hk => hg.block k (hx.lt k hk).2 (fun e => oi_apart hx h.row k hk e.symm)
  refine ⟨by rw [List.length_append, fn2_snoc]; exact hn, fun q hq => ?_⟩
  rcases List.mem_append.1 hq with hq | hq
  · exact mv (h.holds q hq)
  · rw [List.mem_singleton.1 hq]; exact mv hp

theorem OI.one {w : World} {b0 : Nat} {v : Value} {l : List Int} (h : OI w b0 v l) : v.oneCell' = true := by
  obtain ⟨a, c, rfl⟩ := h.shape
  rfl

theorem ON.alloc {w : World} {base : Nat} {v : Value} {M : List Mnd} (h : ON w base v M) (o : Obj) : ON (w.alloc o) base v M := ⟨rown_move6 h.row fun k hk => Below.heap_alloc w o k (h.lt k hk).2, fun p hp => (h.holds p hp).alloc o⟩

theorem wpNode {w : World} {ops : Array Oper} {rest : List Oper} {o : Oper} {a : Act} {Q : Exit → Act → World → Prop} (hgd : o.guard = none) (s x : Operand)
    (ho : o.op = .call { callee := .builtin .append, args := #[s, x], argTypes := #[73, 73] }) (base : Nat) (v : Value) (M : List Mnd) (p : Mnd) (X1 : Int) (hX1 : X1 = (p.1.1 : Int)) (hp : OI w 0 p.2 (ci p.1.2)) (hs : a.eval s = v) (hown : ON w base v M)
    (c : Nat) (hx : a.eval x = .slice (some ⟨w.heap.size, 0, none⟩) 1 c) (hn : M.length ≤ 1000000) (hbase : base ≤ w.heap.size)
    (h : ∀ v' w', ON w' base v' (M ++ [p]) → (w.alloc (.cells #[.int .i64 X1, p.2] 77)).grownBy w' v.ownBlock → wpList Tryd.prog ops Q rest (a.put o.dst v') w') :
    wpList Tryd.prog ops Q (o :: rest) a (w.alloc (.cells #[.int .i64 X1, p.2] 77)) := by
  obtain ⟨i0, hi0, hz0, hz1, hz2⟩ := info_parts infoNode
  subst hX1
  have hone := hp.one
  refine wpList_append_own_at _ hgd s x 73 ho base 77 i0 _ 2 32 Tryd.underlying73 hi0 hz0 hz1 hz2 rfl (by omega) v M.length (fn2 M) hs (hown.alloc _).row ⟨w.heap.size, 0, none⟩ 1 c [.int .i64 (p.1.1 : Int), p.2] hx rfl (World.news_of_block (cs := #[.int .i64 (p.1.1 : Int), p.2]) (t := 77) (fr := (0, 0)) (heap_alloc_new w _))
    (fun u hu => by
      rcases List.mem_cons.1 hu with rfl | hu
      · rfl
      · rw [List.mem_singleton.1 hu]; exact hone) (by unfold maxLen; omega) (by omega) (by simp; omega) fun v' w' h1 h2 _ _ => h v' w' ?_ h2
  exact on_snoc (hown.alloc _) (hp.alloc _) h1 h2

theorem grow_node {w wr w3 : World} {u : Value} {M : List Mnd} {o : Obj} {B : Nat} (hB : Below B w wr) (hw : B ≤ w.heap.size) (hO : ON wr B u M) (hg : (wr.alloc o).grownBy w3 u.ownBlock) : Below B w w3 :=
  (hB.alloc (Nat.le_trans hw hB.size) _).grown hg (by have := hB.size; simp; omega) (fun j hj => by have := hO.lt j hj; omega)
end Go.Proofs.YtkmefeihkmbngaaDoor

