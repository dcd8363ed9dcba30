import Derived.Test.YtncniahpglgkmaaG13Ibs
import Derived.Test.YtncniahpglgkmaaG30Rg6
import Derived.Test.YtncniahpglgkmaaG15Jhp
namespace Go.Proofs.Ytncniahpglgkmaa
open Go.RowKit Go.Shelf
attribute [local go_sem] Oper.semAt_some
set_option maxRecDepth 20000
set_option linter.unusedVariables false

theorem bwd_any (a : Option Addr) (n c : Nat) (w : World) : Calls Try.prog 31 #[.slice a n c] w fun e w' => e = .returned (.func (.func 47) #[] #[.pointer (some ⟨w.heap.size, 0, none⟩)]) ∧ w' = w.alloc (.cells #[.slice a n c] 63) := by
  go_enter Try.func31, Try.ntmps31
  go_wp2
  go_ret
  exact ⟨rfl, rfl⟩

/-- What the iterator finds ahead of a turn: m rows are left. -/
def Bturn (B g c K : Nat) (Iy : Nat × Value → World → Prop) (Ie : World → Prop) (m : Nat) (W : World) : Prop :=
  m ≤ K ∧ W.cell? ⟨B, 0, none⟩ = some (.slice (some ⟨g, 0, none⟩) K c) ∧ (m = 0 → Ie W) ∧ ∀ k, m = k + 1 → ∃ a n' c', W.cell? ⟨g, k, none⟩ = some (.slice a n' c') ∧ Iy (k, .slice a n' c') W

set_option maxHeartbeats 1000000 in
theorem bwd_in (l B g c K : Nat) (hK : K ≤ 1000) (I : Nat → World → Prop) (Iy : Nat → Nat × Value → World → Prop) (Ie Jx : World → Prop) (hI : ∀ m W, I m W → Bturn B g c K (Iy m) Ie m W)
    (hY : ∀ m x W, Iy m x W → YieldAt Fence.wide 1 Try.prog l #[.int .i64 (x.1 : Int), x.2] W fun e W' => (e = .returned (.bool true) ∧ ∃ m', m' + 1 = m ∧ I m' W') ∨ (e = .returned (.bool false) ∧ Jx W'))
    (W : World) (h : I K W) (F : Fence) (hF : F = Fence.wide) :
    CallsIn F 2 Try.prog 47 #[.func (.yield l) #[] #[], .pointer (some ⟨B, 0, none⟩)] W fun e W' => (∃ v, e = .returned v) ∧ (Ie W' ∨ Jx W') := by
  subst hF
  obtain ⟨_, hc0, _⟩ := hI _ _ h
  refine callsIn_of_wp Try.func47 rfl trivial ?_ rfl
  simp only [Try.ntmps47, List.size_toArray, List.length_cons, List.length_nil, Nat.reduceAdd, Nat.reduceSub, Array.replicate_succ, Array.replicate_zero, List.push_toArray, List.append_toArray, List.nil_append, List.cons_append]
  gi_wp2
  gi_loopw [3] (fun p wr => ∃ m : Nat, m ≤ K ∧ p = .int .i64 ((m : Int) - 1) ∧ Hid (I m wr)) (fun p _ => ((intOf p) + 1).toNat)
  case atStart => exact ⟨K, Nat.le_refl _, by go_num, h⟩
  case round =>
    obtain ⟨m, hm, rfl, HI⟩ := hrel
    obtain ⟨h1, h2, h3, h4⟩ := hI _ _ HI.out
    by_cases h0 : m = 0
    · have HE := hide (h3 h0)
      subst h0
      have hn : ¬ (0 : Int) ≤ ((0 : Nat) : Int) - 1 := by omega
      clear h3 h4
      gi_wp2
      refine bodyPost_end (results_none rfl _ _ _) rfl ?_
      exact ⟨⟨_, rfl⟩, .inl HE.out⟩
    · obtain ⟨k, rfl⟩ : ∃ k, m = k + 1 := ⟨m - 1, by omega⟩
      obtain ⟨a, n', c', h5, h6⟩ := h4 k rfl
      have e1 : ((k + 1 : Nat) : Int) - 1 = (k : Int) := by omega
      have hk0 : (0 : Int) ≤ (k : Int) := by omega
      have hkK : (k : Int) < (K : Int) := by omega
      rw [e1]
      obtain ⟨fn, tmps, assign, body, hy, hRd⟩ := hY _ _ _ h6
      dsimp only at hy
      clear h3 h4 h6 e1
      gi_wp2
      refine hRd.mono ?_
      rintro e W3 (⟨rfl, m', hm', hI3⟩ | ⟨rfl, hJx3⟩)
      · obtain rfl : m' = k := by omega
        have HI3 := hide hI3
        clear hI3
        gi_wp2
        go_roundw
        case rel => exact ⟨m', by omega, by go_num, HI3⟩
        case measure => simp [intOf]
      · gi_wp2
        refine bodyPost_ret (results_none rfl _ _ _) rfl ?_
        exact ⟨⟨_, rfl⟩, .inr hJx3⟩
end Go.Proofs.Ytncniahpglgkmaa

namespace Go.Proofs.Ytncniahpglgkmaa
open Go.RowKit Go.Maps
set_option maxRecDepth 20000
set_option linter.unusedVariables false

def upto (cur : Nat → Nat) (k : Nat) : Nat → Nat := fun i => cur i + if i < k then 1 else 0

theorem hls_upto {n k : Nat} (cur : Nat → Nat) (hk : k < n) : (hls n (upto cur k)).set k ((cur k : Int) + 1) = hls n (upto cur (k + 1)) := by
  apply List.ext_getElem
  · simp [hls]
  · intro i h1 h2
    simp only [List.getElem_set, hls, List.getElem_map, List.getElem_range, upto]
    by_cases c : k = i
    · subst c
      rw [if_pos rfl, if_pos (by omega)]
      omega
    · rw [if_neg c]
      by_cases d : i < k
      · rw [if_pos d, if_pos (by omega)]
      · rw [if_neg d, if_neg (by omega)]

theorem upto_zero (cur : Nat → Nat) : upto cur 0 = cur := by funext i; simp [upto]

theorem hls_gt {N v : Nat} (H : Nat → Nat) (h : v < N) : (hls N H).getD v 0 = (H v : Int) := by
  unfold hls
  rw [List.getD_eq_getElem?_getD, List.getElem?_map, List.getElem?_range h]
  rfl

theorem lvs_succ {R : List (Nat × Bool)} {k : Nat} (h : k < R.length) : lvs R (k + 1) = lvs R k + if (R.getD k (0, false)).2 then 1 else 0 := by
  unfold lvs
  rw [List.take_succ_eq_append_getElem h, List.filter_append, List.length_append, List.getD_eq_getElem?_getD, List.getElem?_eq_getElem h]
  simp only [Option.getD_some]
  by_cases c : (R[k]).2 = true
  · rw [if_pos c, List.filter_cons_of_pos c]; rfl
  · rw [if_neg c, List.filter_cons_of_neg c]; rfl

theorem crw_eq (ws : List Nat) (k : Nat) : crw ws k = cmr ws (pks (row ws k)) := by
  cases k with
  | zero => rfl
  | succ k => show cmr ws (pks (wts (crw ws k))) = _; rw [crw_row]

theorem lvs_crw (ws : List Nat) (k m : Nat) : lvs (crw ws k) m = cnt ws (pks (row ws k)) m := by rw [crw_eq, cmr_cnt]

theorem lvs_le (ws : List Nat) (k m : Nat) (h : m ≤ (crw ws k).length) : lvs (crw ws k) m ≤ ws.length ∧ lvs (crw ws k) m ≤ m ∧ 2 * (m - lvs (crw ws k) m) ≤ (row ws k).length := by
  rw [lvs_crw]
  rw [crw_eq, cmr_len] at h
  obtain ⟨_, a, b, c⟩ := cnt_facts ws (pks (row ws k)) m h
  refine ⟨a, b, ?_⟩
  rw [pks_len] at c
  omega

/-- What lies in memory while the rows are gone through. -/
structure Pst (wb : World) (d hL gN n : Nat) (M : Nat) (cur : Nat → Nat) (o : Obj) (W : World) : Prop where
  dfr : W.heap[d]? = some (.deferred (some []))
  lp : W.heap[d + 1]? = some o
  os : W.os = wb.os
  tape : W.tape = wb.tape
  output : W.output = wb.output
  size : d + 2 ≤ W.heap.size
  blk : ∀ k, k < d → k ≠ hL → k ≠ gN → W.heap[k]? = wb.heap[k]?
  len : W.heap[hL]? = some (.cells ((hls n cur).map (Value.int .i64)).toArray 3 (0, 0))
  need : W.heap[gN]? = some (.cells #[.int .i64 (M : Int)] 3 (0, 0))

theorem Pst.put {wb : World} {d hL gN n M : Nat} {cur : Nat → Nat} {o o' : Obj} {W : World} (h : Pst wb d hL gN n M cur o W) (h1 : hL < d) (h2 : gN < d) : Pst wb d hL gN n M cur o' (W.putObj (d + 1) o') := by
  have hp : ∀ k, k ≠ d + 1 → (W.putObj (d + 1) o').heap[k]? = W.heap[k]? := fun k hk => by
    show (W.heap.setIfInBounds (d + 1) o')[k]? = _
    rw [Array.getElem?_setIfInBounds_ne (fun e => hk e.symm)]
  have hs : (W.putObj (d + 1) o').heap.size = W.heap.size := by show (W.heap.setIfInBounds (d + 1) o').size = _; simp
  refine ⟨by rw [hp _ (by omega)]; exact h.dfr, ?_, h.os, h.tape, h.output, by rw [hs]; exact h.size, fun k a b c => by rw [hp _ (by omega)]; exact h.blk k a b c, by rw [hp _ (by omega)]; exact h.len, by rw [hp _ (by omega)]; exact h.need⟩
  show (W.heap.setIfInBounds (d + 1) o')[d + 1]? = some o'
  have := h.size
  rw [Array.getElem?_setIfInBounds_self_of_lt (by omega)]

theorem Pst.alloc {wb : World} {d hL gN n M : Nat} {cur : Nat → Nat} {o : Obj} {W : World} (h : Pst wb d hL gN n M cur o W) (h1 : hL < d) (h2 : gN < d) (o' : Obj) : Pst wb d hL gN n M cur o (W.alloc o') := by
  have hp : ∀ k, k < W.heap.size → (W.alloc o').heap[k]? = W.heap[k]? := fun k hk => Below.heap_alloc W o' k hk
  have hs := h.size
  refine ⟨by rw [hp _ (by omega)]; exact h.dfr, by rw [hp _ (by omega)]; exact h.lp, h.os, h.tape, h.output, by rw [size_alloc']; omega, fun k a b c => by rw [hp _ (by omega)]; exact h.blk k a b c, by rw [hp _ (by omega)]; exact h.len, by rw [hp _ (by omega)]; exact h.need⟩

theorem Pst.far {wb : World} {d hL gN n M : Nat} {cur : Nat → Nat} {o : Obj} {W : World} (h : Pst wb d hL gN n M cur o W) (h1 : hL < d) (h2 : gN < d) {g : Nat} (hg : d + 2 ≤ g) (i : Nat) (u : Value) : Pst wb d hL gN n M cur o (W.setCell ⟨g, i, none⟩ u) := by
  have hp : ∀ k, k ≠ g → (W.setCell ⟨g, i, none⟩ u).heap[k]? = W.heap[k]? := fun k hk => setCell_others _ _ _ _ k hk
  refine ⟨by rw [hp _ (by omega)]; exact h.dfr, by rw [hp _ (by omega)]; exact h.lp, h.os, h.tape, h.output, by rw [size_setCell]; exact h.size, fun k a b c => by rw [hp _ (by omega)]; exact h.blk k a b c, by rw [hp _ (by omega)]; exact h.len, by rw [hp _ (by omega)]; exact h.need⟩

theorem Pst.oi {wb : World} {d hL gN n M : Nat} {cur : Nat → Nat} {o : Obj} {W : World} (h : Pst wb d hL gN n M cur o W) (hn : n ≤ 1000) : OI W 0 (.slice (some ⟨hL, 0, none⟩) n n) (hls n cur) := by
  have := OI.of_full (w := W) (base := 0) (g := hL) (l := hls n cur) h.len (Nat.zero_le _) (by rw [hls_len]; unfold maxLen; omega)
  rwa [hls_len] at this

theorem Pst.inc {wb : World} {d hL gN n M k : Nat} {cur : Nat → Nat} {o : Obj} {W : World} (h : Pst wb d hL gN n M (upto cur k) o W) (h1 : hL < d) (h3 : hL ≠ gN) (hk : k < n) : Pst wb d hL gN n M (upto cur (k + 1)) o (W.setCell ⟨hL, k, none⟩ (.int .i64 ((cur k : Int) + 1))) := by
  have hp : ∀ j, j ≠ hL → (W.setCell ⟨hL, k, none⟩ (.int .i64 ((cur k : Int) + 1))).heap[j]? = W.heap[j]? := fun j hj => setCell_others _ _ _ _ j hj
  refine ⟨by rw [hp _ (by omega)]; exact h.dfr, by rw [hp _ (by omega)]; exact h.lp, h.os, h.tape, h.output, by rw [size_setCell]; exact h.size, fun j a b c => by rw [hp _ b]; exact h.blk j a b c, ?_, by rw [hp _ (fun e => h3 e.symm)]; exact h.need⟩
  rw [heap_setCell_at _ h.len, ← hls_upto cur hk, List.map_set]
  congr 2
  apply Array.ext'
  simp

theorem Pst.setN {wb : World} {d hL gN n M : Nat} {cur : Nat → Nat} {o : Obj} {W : World} (h : Pst wb d hL gN n M cur o W) (h2 : gN < d) (h3 : hL ≠ gN) (M' : Nat) : Pst wb d hL gN n M' cur o (W.setCell ⟨gN, 0, none⟩ (.int .i64 (M' : Int))) := by
  have hp : ∀ j, j ≠ gN → (W.setCell ⟨gN, 0, none⟩ (.int .i64 (M' : Int))).heap[j]? = W.heap[j]? := fun j hj => setCell_others _ _ _ _ j hj
  refine ⟨by rw [hp _ (by omega)]; exact h.dfr, by rw [hp _ (by omega)]; exact h.lp, h.os, h.tape, h.output, by rw [size_setCell]; exact h.size, fun j a b c => by rw [hp _ c]; exact h.blk j a b c, by rw [hp _ h3]; exact h.len, ?_⟩
  rw [heap_setCell_at _ h.need]
  rfl

/-- So many rows are left. -/
def PkI (K : Nat) (wb : World) (d hL gN n : Nat) (ws : List Nat) (F : Nat → Nat) (m : Nat) (o : Obj) (W : World) : Prop :=
  ∃ M cur, Pst wb d hL gN n M cur o W ∧ m ≤ K ∧ M ≤ (row ws m).length ∧ ∀ i, i < n → cur i + ct (sel ws m M) i = F i

def PkY (K : Nat) (wb : World) (d hL gN n : Nat) (ws : List Nat) (F : Nat → Nat) (m : Nat) (x : Nat × Value) (o : Obj) (W : World) : Prop :=
  m = x.1 + 1 ∧ OC wb 0 x.2 (crw ws x.1) ∧ PkI K wb d hL gN n ws F m o W

theorem pkI_rec {K : Nat} {wb : World} {d hL gN n : Nat} {ws : List Nat} {F : Nat → Nat} (m : Nat) (h1 : hL < d) (h2 : gN < d) : H4.Rec (d + 1) (PkI K wb d hL gN n ws F m) :=
  ⟨fun o W ⟨M, cur, h, _⟩ => h.lp, fun o o' W ⟨M, cur, h, r⟩ => ⟨M, cur, h.put h1 h2, r⟩⟩

theorem pkY_rec {K : Nat} {wb : World} {d hL gN n : Nat} {ws : List Nat} {F : Nat → Nat} (m : Nat) (x : Nat × Value) (h1 : hL < d) (h2 : gN < d) : H4.Rec (d + 1) (PkY K wb d hL gN n ws F m x) :=
  ⟨fun o W ⟨_, _, M, cur, h, _⟩ => h.lp, fun o o' W ⟨a, b, M, cur, h, r⟩ => ⟨a, b, M, cur, h.put h1 h2, r⟩⟩

theorem Pst.cell {wb : World} {d hL gN n M : Nat} {cur : Nat → Nat} {o : Obj} {W : World} (h : Pst wb d hL gN n M cur o W) {a : Addr} (h1 : a.block < d) (h2 : a.block ≠ hL) (h3 : a.block ≠ gN) : W.cell? a = wb.cell? a := by
  unfold World.cell?
  rw [h.blk _ h1 h2 h3]

theorem Pst.oc {wb : World} {d hL gN n M : Nat} {cur : Nat → Nat} {o : Obj} {W : World} (h : Pst wb d hL gN n M cur o W) {v : Value} {R : List (Nat × Bool)} (ho : OC wb 0 v R) (hd : ∀ k, v.ownBlock = some k → k < d ∧ k ≠ hL ∧ k ≠ gN) : OC W 0 v R :=
  ho.move fun k hk => h.blk k (hd k hk).1 (hd k hk).2.1 (hd k hk).2.2

theorem cell_al {W : World} {a : Addr} {v : Value} (h : W.cell? a = some v) (o : Obj) : (W.alloc o).cell? a = some v := by
  have := World.block_lt_of_cell? W a h
  rw [((Below.refl W.heap.size W).alloc (Nat.le_refl _) o).cell this]
  exact h

theorem cellOf' {w : World} {g k : Nat} {cur : Array Value} {t : TypeId} {fz : Nat × Nat} {u : Value} (h : w.heap[g]? = some (.cells cur t fz)) (hk : cur[k]? = some u) : w.cell? ⟨g, k, none⟩ = some u := by
  unfold World.cell?
  simp only [h]
  exact hk

theorem frozenOf' {w : World} {g k : Nat} {cur : Array Value} {t : TypeId} (h : w.heap[g]? = some (.cells cur t (0, 0))) : w.frozen? ⟨g, k, none⟩ = false := by
  unfold World.frozen?
  simp [h]

/-- A row has been gone through. -/
theorem pk_next {ws : List Nat} {k M n : Nat} {cur F : Nat → Nat} (hM : M ≤ (row ws (k + 1)).length) (hf : ∀ i, i < n → cur i + ct (sel ws (k + 1) M) i = F i) :
    2 * (M - lvs (crw ws k) M) ≤ (row ws k).length ∧ ∀ i, i < n → upto cur (lvs (crw ws k) M) i + ct (sel ws k (2 * (M - lvs (crw ws k) M))) i = F i := by
  have hl : M ≤ (crw ws k).length := by
    have : (wts (crw ws k)).length = (crw ws k).length := by simp [wts]
    rw [crw_row] at this
    omega
  refine ⟨(lvs_le ws k M hl).2.2, fun i hi => ?_⟩
  rw [← hf i hi, lvs_crw]
  simp only [sel, ct_cons, upto]
  omega
end Go.Proofs.Ytncniahpglgkmaa

