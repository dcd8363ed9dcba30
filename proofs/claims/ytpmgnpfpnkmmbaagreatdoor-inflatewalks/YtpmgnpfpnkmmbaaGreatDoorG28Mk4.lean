import Derived.Test.YtpmgnpfpnkmmbaaGreatDoorG20Usd
import Derived.Test.YtpmgnpfpnkmmbaaGreatDoorG27Rg6
import Derived.Test.YtpmgnpfpnkmmbaaGreatDoorG21Krg
import Derived.Test.YtpmgnpfpnkmmbaaGreatDoorG22Sm1
import Derived.Test.YtpmgnpfpnkmmbaaGreatDoorG03Drr
import Derived.Test.YtpmgnpfpnkmmbaaGreatDoorG08Rhv
namespace Go.Proofs.YtpmgnpfpnkmmbaaGreatDoor
open Go.RowKit Go.Shelf
attribute [local go_sem] Oper.semAt_some
set_option maxRecDepth 20000
set_option linter.unusedVariables false

/-- What the iterator finds ahead of a turn: m rows are left. -/
def Bturn (B g c K : Nat) (Iy : Nat × Value → World → Prop) (Ie : World → Prop) (m : Nat) (W : World) : Prop :=
  m ≤ K ∧ W.cell? ⟨B, 0, none⟩ = some (.slice (some ⟨g, 0, none⟩) K c) ∧ (m = 0 → Ie W) ∧ ∀ k, m = k + 1 → ∃ a n' c', W.cell? ⟨g, k, none⟩ = some (.slice a n' c') ∧ Iy (k, .slice a n' c') W

end Go.Proofs.YtpmgnpfpnkmmbaaGreatDoor

namespace Go.Proofs.YtpmgnpfpnkmmbaaGreatDoor
open Go.RowKit Go.Maps
set_option maxRecDepth 20000
set_option linter.unusedVariables false

def upto (cur : Nat → Nat) (k : Nat) : Nat → Nat := fun i => cur i + if i < k then 1 else 0

theorem hls_upto {n k : Nat} (cur : Nat → Nat) (hk : k < n) : (hls n (upto cur k)).set k ((cur k : Int) + 1) = hls n (upto cur (k + 1)) := by
  apply List.ext_getElem
  · simp [hls]
  · intro i h1 h2
    simp only [List.getElem_set, hls, List.getElem_map, List.getElem_range, upto]
    by_cases c : k = i
    · subst c
      rw [if_pos rfl, if_pos (by omega)]
      omega
    · rw [if_neg c]
      by_cases d : i < k
      · rw [if_pos d, if_pos (by omega)]
      · rw [if_neg d, if_neg (by omega)]

theorem upto_zero (cur : Nat → Nat) : upto cur 0 = cur := by funext i; simp [upto]

theorem hls_gt {N v : Nat} (H : Nat → Nat) (h : v < N) : (hls N H).getD v 0 = (H v : Int) := by
  unfold hls
  rw [List.getD_eq_getElem?_getD, List.getElem?_map, List.getElem?_range h]
  rfl

theorem lvs_succ {R : List (Nat × Bool)} {k : Nat} (h : k < R.length) : lvs R (k + 1) = lvs R k + if (R.getD k (0, false)).2 then 1 else 0 := by
  unfold lvs
  rw [List.take_succ_eq_append_getElem h, List.filter_append, List.length_append, List.getD_eq_getElem?_getD, List.getElem?_eq_getElem h]
  simp only [Option.getD_some]
  by_cases c : (R[k]).2 = true
  · rw [if_pos c, List.filter_cons_of_pos c]; rfl
  · rw [if_neg c, List.filter_cons_of_neg c]; rfl

theorem crw_eq (ws : List Nat) (k : Nat) : crw ws k = cmr ws (pks (row ws k)) := by
  cases k with
  | zero => rfl
  | succ k => show cmr ws (pks (wts (crw ws k))) = _; rw [crw_row]

theorem lvs_crw (ws : List Nat) (k m : Nat) : lvs (crw ws k) m = cnt ws (pks (row ws k)) m := by rw [crw_eq, cmr_cnt]

theorem lvs_le (ws : List Nat) (k m : Nat) (h : m ≤ (crw ws k).length) : lvs (crw ws k) m ≤ ws.length ∧ lvs (crw ws k) m ≤ m ∧ 2 * (m - lvs (crw ws k) m) ≤ (row ws k).length := by
  rw [lvs_crw]
  rw [crw_eq, cmr_len] at h
  obtain ⟨_, a, b, c⟩ := cnt_facts ws (pks (row ws k)) m h
  refine ⟨a, b, ?_⟩
  rw [pks_len] at c
  omega

/-- What lies in memory while the rows are gone through. -/
structure Pst (wb : World) (d hL gN n : Nat) (M : Nat) (cur : Nat → Nat) (o : Obj) (W : World) : Prop where
  dfr : W.heap[d]? = some (.deferred (some []))
  lp : W.heap[d + 1]? = some o
  os : W.os = wb.os
  tape : W.tape = wb.tape
  output : W.output = wb.output
  size : d + 2 ≤ W.heap.size
  blk : ∀ k, k < d → k ≠ hL → k ≠ gN → W.heap[k]? = wb.heap[k]?
  len : W.heap[hL]? = some (.cells ((hls n cur).map (Value.int .i64)).toArray 3 (0, 0))
  need : W.heap[gN]? = some (.cells #[.int .i64 (M : Int)] 3 (0, 0))

theorem Pst.put {wb : World} {d hL gN n M : Nat} {cur : Nat → Nat} {o o' : Obj} {W : World} (h : Pst wb d hL gN n M cur o W) (h1 : hL < d) (h2 : gN < d) : Pst wb d hL gN n M cur o' (W.putObj (d + 1) o') := by
  have hp : ∀ k, k ≠ d + 1 → (W.putObj (d + 1) o').heap[k]? = W.heap[k]? := fun k hk => by
    show (W.heap.setIfInBounds (d + 1) o')[k]? = _
    rw [Array.getElem?_setIfInBounds_ne (fun e => hk e.symm)]
  have hs : (W.putObj (d + 1) o').heap.size = W.heap.size := by show (W.heap.setIfInBounds (d + 1) o').size = _; simp
  refine ⟨by rw [hp _ (by omega)]; exact h.dfr, ?_, h.os, h.tape, h.output, by rw [hs]; exact h.size, fun k a b c => by rw [hp _ (by omega)]; exact h.blk k a b c, by rw [hp _ (by omega)]; exact h.len, by rw [hp _ (by omega)]; exact h.need⟩
  show (W.heap.setIfInBounds (d + 1) o')[d + 1]? = some o'
  have := h.size
  rw [Array.getElem?_setIfInBounds_self_of_lt (by omega)]

theorem Pst.alloc {wb : World} {d hL gN n M : Nat} {cur : Nat → Nat} {o : Obj} {W : World} (h : Pst wb d hL gN n M cur o W) (h1 : hL < d) (h2 : gN < d) (o' : Obj) : Pst wb d hL gN n M cur o (W.alloc o') := by
  have hp : ∀ k, k < W.heap.size → (W.alloc o').heap[k]? = W.heap[k]? := fun k hk => Below.heap_alloc W o' k hk
  have hs := h.size
  refine ⟨by rw [hp _ (by omega)]; exact h.dfr, by rw [hp _ (by omega)]; exact h.lp, h.os, h.tape, h.output, by rw [size_alloc']; omega, fun k a b c => by rw [hp _ (by omega)]; exact h.blk k a b c, by rw [hp _ (by omega)]; exact h.len, by rw [hp _ (by omega)]; exact h.need⟩

theorem Pst.far {wb : World} {d hL gN n M : Nat} {cur : Nat → Nat} {o : Obj} {W : World} (h : Pst wb d hL gN n M cur o W) (h1 : hL < d) (h2 : gN < d) {g : Nat} (hg : d + 2 ≤ g) (i : Nat) (u : Value) : Pst wb d hL gN n M cur o (W.setCell ⟨g, i, none⟩ u) := by
  have hp : ∀ k, k ≠ g → (W.setCell ⟨g, i, none⟩ u).heap[k]? = W.heap[k]? := fun k hk => setCell_others _ _ _ _ k hk
  refine ⟨by rw [hp _ (by omega)]; exact h.dfr, by rw [hp _ (by omega)]; exact h.lp, h.os, h.tape, h.output, by rw [size_setCell]; exact h.size, fun k a b c => by rw [hp _ (by omega)]; exact h.blk k a b c, by rw [hp _ (by omega)]; exact h.len, by rw [hp _ (by omega)]; exact h.need⟩

theorem Pst.oi {wb : World} {d hL gN n M : Nat} {cur : Nat → Nat} {o : Obj} {W : World} (h : Pst wb d hL gN n M cur o W) (hn : n ≤ 1000) : OI W 0 (.slice (some ⟨hL, 0, none⟩) n n) (hls n cur) := by
  have := OI.of_full (w := W) (base := 0) (g := hL) (l := hls n cur) h.len (Nat.zero_le _) (by rw [hls_len]; unfold maxLen; omega)
  rwa [hls_len] at this

theorem Pst.inc {wb : World} {d hL gN n M k : Nat} {cur : Nat → Nat} {o : Obj} {W : World} (h : Pst wb d hL gN n M (upto cur k) o W) (h1 : hL < d) (h3 : hL ≠ gN) (hk : k < n) : Pst wb d hL gN n M (upto cur (k + 1)) o (W.setCell ⟨hL, k, none⟩ (.int .i64 ((cur k : Int) + 1))) := by
  have hp : ∀ j, j ≠ hL → (W.setCell ⟨hL, k, none⟩ (.int .i64 ((cur k : Int) + 1))).heap[j]? = W.heap[j]? := fun j hj => setCell_others _ _ _ _ j hj
  refine ⟨by rw [hp _ (by omega)]; exact h.dfr, by rw [hp _ (by omega)]; exact h.lp, h.os, h.tape, h.output, by rw [size_setCell]; exact h.size, fun j a b c => by rw [hp _ b]; exact h.blk j a b c, ?_, by rw [hp _ (fun e => h3 e.symm)]; exact h.need⟩
  rw [heap_setCell_at _ h.len, ← hls_upto cur hk, List.map_set]
  congr 2
  apply Array.ext'
  simp

theorem Pst.setN {wb : World} {d hL gN n M : Nat} {cur : Nat → Nat} {o : Obj} {W : World} (h : Pst wb d hL gN n M cur o W) (h2 : gN < d) (h3 : hL ≠ gN) (M' : Nat) : Pst wb d hL gN n M' cur o (W.setCell ⟨gN, 0, none⟩ (.int .i64 (M' : Int))) := by
  have hp : ∀ j, j ≠ gN → (W.setCell ⟨gN, 0, none⟩ (.int .i64 (M' : Int))).heap[j]? = W.heap[j]? := fun j hj => setCell_others _ _ _ _ j hj
  refine ⟨by rw [hp _ (by omega)]; exact h.dfr, by rw [hp _ (by omega)]; exact h.lp, h.os, h.tape, h.output, by rw [size_setCell]; exact h.size, fun j a b c => by rw [hp _ c]; exact h.blk j a b c, by rw [hp _ h3]; exact h.len, ?_⟩
  rw [heap_setCell_at _ h.need]
  rfl

/-- So many rows are left. -/
def PkI (K : Nat) (wb : World) (d hL gN n : Nat) (ws : List Nat) (F : Nat → Nat) (m : Nat) (o : Obj) (W : World) : Prop :=
  ∃ M cur, Pst wb d hL gN n M cur o W ∧ m ≤ K ∧ M ≤ (row ws m).length ∧ ∀ i, i < n → cur i + ct (sel ws m M) i = F i

theorem pkI_rec {K : Nat} {wb : World} {d hL gN n : Nat} {ws : List Nat} {F : Nat → Nat} (m : Nat) (h1 : hL < d) (h2 : gN < d) : H4.Rec (d + 1) (PkI K wb d hL gN n ws F m) :=
  ⟨fun o W ⟨M, cur, h, _⟩ => h.lp, fun o o' W ⟨M, cur, h, r⟩ => ⟨M, cur, h.put h1 h2, r⟩⟩

theorem Pst.cell {wb : World} {d hL gN n M : Nat} {cur : Nat → Nat} {o : Obj} {W : World} (h : Pst wb d hL gN n M cur o W) {a : Addr} (h1 : a.block < d) (h2 : a.block ≠ hL) (h3 : a.block ≠ gN) : W.cell? a = wb.cell? a := by
  unfold World.cell?
  rw [h.blk _ h1 h2 h3]

theorem cell_al {W : World} {a : Addr} {v : Value} (h : W.cell? a = some v) (o : Obj) : (W.alloc o).cell? a = some v := by
  have := World.block_lt_of_cell? W a h
  rw [((Below.refl W.heap.size W).alloc (Nat.le_refl _) o).cell this]
  exact h

theorem cellOf' {w : World} {g k : Nat} {cur : Array Value} {t : TypeId} {fz : Nat × Nat} {u : Value} (h : w.heap[g]? = some (.cells cur t fz)) (hk : cur[k]? = some u) : w.cell? ⟨g, k, none⟩ = some u := by
  unfold World.cell?
  simp only [h]
  exact hk

theorem frozenOf' {w : World} {g k : Nat} {cur : Array Value} {t : TypeId} (h : w.heap[g]? = some (.cells cur t (0, 0))) : w.frozen? ⟨g, k, none⟩ = false := by
  unfold World.frozen?
  simp [h]

/-- A row has been gone through. -/
theorem pk_next {ws : List Nat} {k M n : Nat} {cur F : Nat → Nat} (hM : M ≤ (row ws (k + 1)).length) (hf : ∀ i, i < n → cur i + ct (sel ws (k + 1) M) i = F i) :
    2 * (M - lvs (crw ws k) M) ≤ (row ws k).length ∧ ∀ i, i < n → upto cur (lvs (crw ws k) M) i + ct (sel ws k (2 * (M - lvs (crw ws k) M))) i = F i := by
  have hl : M ≤ (crw ws k).length := by
    have : (wts (crw ws k)).length = (crw ws k).length := by simp [wts]
    rw [crw_row] at this
    omega
  refine ⟨(lvs_le ws k M hl).2.2, fun i hi => ?_⟩
  rw [← hf i hi, lvs_crw]
  simp only [sel, ct_cons, upto]
  omega
end Go.Proofs.YtpmgnpfpnkmmbaaGreatDoor

namespace Go.Proofs.YtpmgnpfpnkmmbaaGreatDoor
open Go.RowKit Go.Maps Go.Shelf
attribute [local go_sem] Oper.semAt_some
set_option maxRecDepth 20000
set_option linter.unusedVariables false

theorem wpListIn_mkI {F : Fence} {q : Nat} {w : World} {ops : Array Oper} {rest : List Oper} {o : Oper} {a : Act} {Q : Exit → Act → World → Prop} (hg : o.guard = none) (l c : Operand) (hop : o.op = Op.makeSlice 81 l c)
    (kl kc : IntKind) (L C : Int) (n m : Nat) (hl : a.eval l = .int kl L) (hc : a.eval c = .int kc C) (hL : L = (n : Int)) (hC : C = (m : Int)) (hnm : n ≤ m) (b2 : m ≤ 17592186044416)
    (hK : wpListIn F q Tryz.prog ops Q rest (a.put o.dst (.slice (some ⟨w.heap.size, 0, none⟩) n m)) (w.alloc (.cells (Array.replicate m (Value.int .i64 0)) 3))) :
    wpListIn F q Tryz.prog ops Q (o :: rest) a w := by
  obtain ⟨i0, hi, hz0, hz1, hz2⟩ := info_parts infoInt
  refine wpListIn_plain hg fun K hK' => ?_
  have hr := run_make (P := Tryz.prog) w 81 3 i0 (.int .i64 0) Tryz.underlying81 hi hz0 kl kc (n : Int) (m : Int) (by omega) (by omega) (by rw [hz2]; omega) (by omega)
  subst hL hC
  unfold Oper.wpIn
  refine ⟨?_, ?_⟩
  · simp [Oper.about, hop]
  · rw [Oper.semAt_plain F _ _ (by rw [hop]; intro c hc'; cases hc')]
    simp [execOp, hop, hl, hc, hr, Result.andThen]
    have e : (madeCells (Value.int .i64 0).cells m) = Array.replicate m (Value.int .i64 0) := by
      apply Array.ext'
      rw [show (Value.int IntKind.i64 0).cells = #[Value.int IntKind.i64 0] from rfl, madeInts m]
      simp
    rw [hz1, Nat.mul_one, e]
    exact hK' _ _ hK

end Go.Proofs.YtpmgnpfpnkmmbaaGreatDoor

namespace Go.Proofs.YtpmgnpfpnkmmbaaGreatDoor
open Go.RowKit Go.Maps
set_option maxRecDepth 20000
set_option linter.unusedVariables false

theorem w64in' {x : Int} (h : -9223372036854775808 ≤ x ∧ x ≤ 9223372036854775807) : wrap64 x = x := by unfold wrap64; omega

theorem pow15 {L p : Nat} (hL : L ≤ 15) (hp : p = 2 ^ L) : p ≤ 32768 ∧ wrap64 ((2 : Int) ^ L) = (p : Int) ∧ wrap64 ((2 : Int) ^ min L 64) = (p : Int) ∧ ((2 : Int) ^ L) = (p : Int) := by
  have h1 : p ≤ 32768 := by rw [hp]; exact Nat.pow_le_pow_right (n := 2) (by decide) hL
  have e : ((2 : Int) ^ L) = (p : Int) := by rw [hp]; simp
  refine ⟨h1, ?_, ?_, e⟩
  · rw [e]; exact w64in' (by omega)
  · rw [show min L 64 = L from Nat.min_eq_left (by omega), e]; exact w64in' (by omega)

theorem lws_ci {l : List Int} (h : ∀ i, 0 ≤ l.getD i 0) : ((srl l).map fun s => l.getD s 0) = ci (lws l) := by
  unfold lws ci
  rw [List.map_map]
  refine List.map_congr_left fun s _ => ?_
  have := h s
  simp only [Function.comp_apply, fq]
  omega

end Go.Proofs.YtpmgnpfpnkmmbaaGreatDoor

namespace Go.Proofs.YtpmgnpfpnkmmbaaGreatDoor
open Go.RowKit Go.Maps
set_option maxRecDepth 20000
set_option linter.unusedVariables false

theorem pow_split {L a : Nat} (hL : L ≤ 60) (h : a ≤ L) : 2 ^ (60 - a) = 2 ^ (60 - L) * 2 ^ (L - a) := by
  rw [← Nat.pow_add]
  congr 1
  omega

theorem kr_limit {len : Nat → Nat} {l : List Nat} {L : Nat} (hL : L ≤ 60) (h : ∀ s ∈ l, len s ≤ L) : kr len l = 2 ^ (60 - L) * (l.map fun s => 2 ^ (L - len s)).sum := by
  induction l with
  | nil => simp [kr]
  | cons a r ih =>
    have ih' := ih fun s hs => h s (List.mem_cons_of_mem _ hs)
    unfold kr at ih' ⊢
    simp only [List.map_cons, List.sum_cons]
    rw [ih', pow_split hL (h a (by simp)), Nat.mul_add]

theorem kr_perm {len : Nat → Nat} {l l' : List Nat} (h : l.Perm l') : kr len l = kr len l' := perm_sum _ h
theorem fl_perm {f len : Nat → Nat} {l l' : List Nat} (h : l.Perm l') : fl f len l = fl f len l' := perm_sum _ h

theorem lm_facts {f : List Int} {L : Nat} (hs : Sound f) (hL : 1 ≤ L ∧ L ≤ 15) (hu : (us6 f).length ≤ 2 ^ L) (h2 : 2 ≤ (us6 f).length) : kr (lm f L) (us6 f) = 2 ^ 60 ∧ (∀ s ∈ us6 f, lm f L s ≤ L) ∧ ∀ o, (∀ s ∈ us6 f, o s ≤ L) → kr o (us6 f) ≤ 2 ^ 60 → fl (fq f) (lm f L) (us6 f) ≤ fl (fq f) o (us6 f) := by
  have hp := (srl_srt f).perm
  have key := limited_good (f := fq f) (len := lm f L) (us6 := srl f) L hL.1 (by rw [srl_len]; omega) (lws_rise hs.nn) (by rw [srl_len]; exact hu) (fun i hi => by
    have := lm_at (l := f) (L := L) h2 hi
    rw [List.getD_eq_getElem?_getD, List.getElem?_eq_getElem hi, Option.getD_some, this]
    rw [srl_len, show 2 * ((us6 f).length - 1) = 2 * (us6 f).length - 2 by omega]
    rfl)
  obtain ⟨a, b, c⟩ := key
  have hle : ∀ s ∈ us6 f, lm f L s ≤ L := fun s h => b s (srl_mem.2 h)
  have hsum : ∀ g : Nat → Nat, ((srl f).map g).sum = ((us6 f).map g).sum := fun g => perm_sum g hp
  have e60 : 2 ^ (60 - L) * 2 ^ L = 2 ^ 60 := by rw [← Nat.pow_add]; congr 1; omega
  refine ⟨?_, hle, fun o ho hk => ?_⟩
  · rw [kr_limit (by omega) hle, ← hsum, a]
    exact e60
  · rw [← fl_perm hp, ← fl_perm hp]
    refine c o (fun s h => ho s (srl_mem.1 h)) ?_
    rw [kr_limit (by omega) ho, ← e60] at hk
    rw [hsum]
    exact Nat.le_of_mul_le_mul_left hk (Nat.two_pow_pos _)

theorem lmt_get {f : List Int} {L s : Nat} (h : s < f.length) : (lmt f L).getD s 0 = (lm f L s : Int) := by
  unfold lmt
  rw [List.getD_eq_getElem?_getD, List.getElem?_map, List.getElem?_range h]
  rfl

theorem nn_lmt {f : List Int} {L s : Nat} (h : s ∈ us6 f) : nn (lmt f L) s = lm f L s := by
  unfold nn
  rw [lmt_get (mem_us.1 h).1]
  rfl

theorem lm_one {f : List Int} {L s : Nat} (h : (us6 f).length = 1) (hm : s ∈ us6 f) : lm f L s = 1 := by
  unfold lm
  rw [if_pos h, if_pos hm]

theorem gd_lmt {f : List Int} {L : Nat} (hs : Sound f) (hL : 1 ≤ L ∧ L ≤ 15) (hu : (us6 f).length ≤ 2 ^ L) : Gd f (lmt f L) L := by
  refine ⟨lmt_len f L, fun s h h0 => ?_, fun s hm => ?_, fun h s hm => by rw [lmt_get (mem_us.1 hm).1, lm_one h hm]; rfl, fun h2 => ?_⟩
  · rw [lmt_get h, lm_out (fun hm => by have := (mem_us.1 hm).2; omega)]; rfl
  · have hm' : s ∈ us6 f := hm
    have hpos := List.length_pos_of_mem hm'
    rw [lmt_get (mem_us.1 hm').1]
    by_cases h1 : (us6 f).length = 1
    · rw [lm_one h1 hm']; omega
    · obtain ⟨a, b, _⟩ := lm_facts hs hL hu (by omega)
      have h3 := kr_one a (by omega) hm'
      have h4 := b s hm'
      omega
  · rw [kr_congr (fun s h => nn_lmt h)]
    exact (lm_facts hs hL hu h2).1

/-- Nothing within Kraft's rule and the limit costs less. -/
theorem lm_best {f o : List Int} {L : Nat} (hs : Sound f) (hL : 1 ≤ L ∧ L ≤ 15) (hu : (us6 f).length ≤ 2 ^ L) (ho : LenOk f o L f.length) (hk : kr (nn o) (us6 f) ≤ 2 ^ 60) : fl (fq f) (nn (lmt f L)) (us6 f) ≤ fl (fq f) (nn o) (us6 f) := by
  rw [fl_congr (fun s h => nn_lmt h)]
  by_cases h2 : 2 ≤ (us6 f).length
  · exact (lm_facts hs hL hu h2).2.2 (nn o) (fun s h => by have := ho s h; unfold nn; omega) hk
  · refine sum_map_le fun s h => ?_
    have hpos := List.length_pos_of_mem h
    have e : lm f L s = 1 := lm_one (by omega) h
    have := ho s h
    show fq f s * lm f L s ≤ _
    rw [e]
    exact Nat.mul_le_mul_left _ (by unfold nn; omega)

theorem Sound.lmE {f : List Int} {L : Nat} (hs : Sound f) (hL : 1 ≤ L ∧ L ≤ 15) : lmE f L = (if 2 ^ L < (us6 f).length then 60 else 0) ∧ lmL f L = (if 2 ^ L < (us6 f).length then [] else lmt f L) := by
  have e : Go.Proofs.YtpmgnpfpnkmmbaaGreatDoor.lmE f L = (if 2 ^ L < (us6 f).length then 60 else 0) := by
    unfold Go.Proofs.YtpmgnpfpnkmmbaaGreatDoor.lmE
    rw [if_neg (by have := hs.len; omega), if_neg (by rw [bnb_iff.2 hs.ok]; decide), Int.toNat_natCast]
  refine ⟨e, ?_⟩
  unfold Go.Proofs.YtpmgnpfpnkmmbaaGreatDoor.lmL
  rw [e]
  by_cases c : 2 ^ L < (us6 f).length
  · rw [if_pos c, if_pos c]; rfl
  · rw [if_neg c, if_neg c, Int.toNat_natCast]; rfl

theorem OI.blk {w : World} {base a n c} {l : List Int} (h : OI w base (.slice a n c) l) : ∀ k, (Value.slice a n c).ownBlock = some k → k < w.heap.size := fun k hk => (h.lt k hk).2

end Go.Proofs.YtpmgnpfpnkmmbaaGreatDoor

namespace Go.Proofs.YtpmgnpfpnkmmbaaGreatDoor
open Go.RowKit Go.Maps
set_option maxRecDepth 20000
set_option linter.unusedVariables false

/-- What Make answers. -/
def mkL (l : List Int) : List Int := trm l 257
def mkD (d : List Int) : List Int := trm d 1
def mkE (l d : List Int) : Int := if 286 < l.length ∨ 30 < d.length ∨ wthb l = false ∨ wthb d = false then 1 else hck (mkL l) (mkD d)
def mkR (l d : List Int) : List Rn := rns (mkL l ++ mkD d)
def mkC (l d : List Int) : List Int := lmt (usg (mkR l d)) 7
def mkZ (l d : List Int) : Int := hsz (mkC l d) (mkR l d)

theorem usg_sound {R : List Rn} (h : R.length ≤ 1048576) : Sound (usg R) := by
  refine ⟨by rw [usg_len]; omega, fun i hi => ?_⟩
  rw [usg_len] at hi
  have := usg_le R i hi
  omega

theorem usg_us (R : List Rn) : (us6 (usg R)).length ≤ 2 ^ 7 := by
  have := usk_len (usg R) (usg R).length
  rw [usg_len] at this
  show (usk (usg R) (usg R).length).length ≤ 128
  rw [usg_len]
  omega

theorem usg_lm {R : List Rn} (h : R.length ≤ 1048576) : lmE (usg R) 7 = 0 ∧ lmL (usg R) 7 = lmt (usg R) 7 := by
  have hb : bnb (usg R) 4294967296 = true := bnb_iff.2 (usg_sound h).ok
  have h0 : lmE (usg R) 7 = 0 := by
    unfold lmE
    rw [if_neg (by rw [usg_len]; omega), if_neg (by rw [hb]; decide), if_neg (by have := usg_us R; show ¬ 2 ^ 7 < _; omega)]
  refine ⟨h0, ?_⟩
  unfold lmL
  rw [if_pos h0]
  rfl

theorem lmt7 {R : List Rn} (h : R.length ≤ 1048576) : (lmt (usg R) 7).length = 19 ∧ ∀ s, 0 ≤ (lmt (usg R) 7).getD s 0 ∧ (lmt (usg R) 7).getD s 0 ≤ 7 := by
  have g := gd_lmt (usg_sound h) (L := 7) (by omega) (usg_us R)
  have hl : (lmt (usg R) 7).length = 19 := by rw [lmt_len, usg_len]
  refine ⟨hl, fun s => ?_⟩
  by_cases hs : s < 19
  · by_cases z : (usg R).getD s 0 = 0
    · rw [g.zero s (by rw [usg_len]; exact hs) z]; omega
    · have := usg_le R s hs
      have := g.ok s (mem_us.2 ⟨by rw [usg_len]; exact hs, by omega⟩)
      omega
  · rw [show (lmt (usg R) 7).getD s 0 = 0 by rw [List.getD_eq_getElem?_getD, List.getElem?_eq_none (by omega)]; rfl]; omega

theorem trm_lens {l : List Int} {f : Nat} (hl : l.length ≤ 286) (hf : f ≤ 257) : f ≤ (trm l f).length ∧ (trm l f).length ≤ max l.length f := by
  rw [trm_len]
  have := tln_le l f
  omega

theorem put_below {w w0 : World} {g B : Nat} {a' b' c' d' e' : Value} (h : Below B w0 w) (hB : B ≤ g) : Below B w0 (((((w.setCell ⟨g, 0, none⟩ a').setCell ⟨g, 1, none⟩ b').setCell ⟨g, 2, none⟩ c').setCell ⟨g, 3, none⟩ d').setCell ⟨g, 4, none⟩ e') :=
  ((((h.setCell (p := ⟨g, 0, none⟩) hB _).setCell (p := ⟨g, 1, none⟩) hB _).setCell (p := ⟨g, 2, none⟩) hB _).setCell (p := ⟨g, 3, none⟩) hB _).setCell (p := ⟨g, 4, none⟩) hB _

/-- The header that Make answers, in memory. -/
structure Mkd (w : World) (B : Nat) (vL vD vC vR : Value) (L D C : List Int) (R : List Rn) : Prop where
  l : OI w B vL L
  d : OI w B vD D
  c : OI w B vC C
  r : OR w B vR R

theorem Mkd.below {w w' : World} {B : Nat} {vL vD vC vR : Value} {L D C : List Int} {R : List Rn} (h : Mkd w B vL vD vC vR L D C R) (hb : Below w.heap.size w w') : Mkd w' B vL vD vC vR L D C R :=
  ⟨h.l.below hb (Nat.le_refl _), h.d.below hb (Nat.le_refl _), h.c.below hb (Nat.le_refl _), h.r.below hb (Nat.le_refl _)⟩
end Go.Proofs.YtpmgnpfpnkmmbaaGreatDoor

