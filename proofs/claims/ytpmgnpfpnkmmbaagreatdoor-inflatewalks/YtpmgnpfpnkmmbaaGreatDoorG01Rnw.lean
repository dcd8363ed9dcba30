import Derived.Test.YtpmgnpfpnkmmbaaGreatDoorG00Ints
import Derived.Handy
import Derived.Laws.Rows
import Derived.Laws.Tables
import Derived.Test.YtpmgnpfpnkmmbaaGreatDoorRows
namespace Go.Proofs.YtpmgnpfpnkmmbaaGreatDoor
open Go.RowKit
set_option maxRecDepth 20000

theorem u32_and1 {v : Int} (h0 : 0 ≤ v) (h1 : v < 4294967296) : bits .and .u32 v 1 = v % 2 := by
  have := bits_mask .u32 32 (by decide) (fun n a b => by rw [IntKind.wrap_u32]; omega) 1 (by decide) v h0 (by omega)
  simpa using this

theorem u32_or1 {t b : Int} (h0 : 0 ≤ t) (h1 : t < 2147483648) (hb : b = 0 ∨ b = 1) : bits .or .u32 (t * 2) b = 2 * t + b := by
  rw [bits_join .u32 32 (by decide) (fun n a b => by rw [IntKind.wrap_u32]; omega) 1 (t * 2) b (by omega) (by omega) (by omega) (by omega) (by omega) (by omega)]
  omega

theorem num_any (n : Int) (w : World) : Calls Tryz.prog 11 #[.int .i64 n] w fun e w' => e = .returned (.int .i64 n) ∧ w' = w := by
  go_enter Tryz.func11, Tryz.ntmps11
  go_wp2
  go_ret
  exact ⟨rfl, rfl⟩

def Cnt (n : Int) : Prop := 0 ≤ n ∧ n ≤ 32
instance (n : Int) : Decidable (Cnt n) := by unfold Cnt; exact inferInstance
def Fit (v n : Int) : Prop := Cnt n ∧ v < 2 ^ n.toNat
instance (v n : Int) : Decidable (Fit v n) := by unfold Fit; exact inferInstance

theorem countable_any (n : Int) (w : World) : Calls Tryz.prog 61 #[.int .i64 n] w fun e w' => e = .returned (.bool (decide (Cnt n))) ∧ w' = w := by
  by_cases h0 : 0 ≤ n
  · by_cases h1 : n ≤ 32
    · have HD : Hid (decide (Cnt n) = true) := decide_eq_true ⟨h0, h1⟩
      go_enter Tryz.func61, Tryz.ntmps61
      go_wp2
      go_ret
      rw [HD.out]
      exact ⟨rfl, rfl⟩
    · have HD : Hid (decide (Cnt n) = false) := decide_eq_false fun h => h1 h.2
      go_enter Tryz.func61, Tryz.ntmps61
      go_wp2
      go_ret
      rw [HD.out]
      exact ⟨rfl, rfl⟩
  · have HD : Hid (decide (Cnt n) = false) := decide_eq_false fun h => h0 h.1
    go_enter Tryz.func61, Tryz.ntmps61
    go_wp2
    go_ret
    rw [HD.out]
    exact ⟨rfl, rfl⟩

theorem rev_snoc (v : Int) (k : Nat) : val (bts v (k + 1)).reverse = v / 2 ^ k % 2 + 2 * val (bts v k).reverse := by
  rw [bts_snoc, List.reverse_append]
  rfl

theorem rev_bound (v : Int) (k : Nat) : 0 ≤ val (bts v k).reverse ∧ val (bts v k).reverse < 2 ^ k := by
  have := val_bound (l := (bts v k).reverse) (fun b hb => bit_bts v k b (List.mem_reverse.1 hb))
  rwa [List.length_reverse, length_bts] at this

def revN (v n : Int) : Int := if Fit v n then val (bts v n.toNat).reverse else 0
def revE (v n : Int) : Int := if Fit v n then 0 else 1

theorem bit_any (v : Int) (i : Nat) (hi : i ≤ 32) (hv : 0 ≤ v) (hv1 : v < 4294967296) (w : World) : Calls Tryz.prog 53 #[.int .u32 v, .int .i64 i] w fun e w' => e = .returned (.int .u8 (v / 2 ^ i % 2)) ∧ w' = w := by
  obtain ⟨q, HQ⟩ : ∃ q, Hid (q = v / 2 ^ i) := ⟨_, rfl⟩
  have HA : Hid (bits .and .u32 (v / 2 ^ i) 1 % 256 = v / 2 ^ i % 2) := by
    show _ = _
    rw [u32_and1 (Int.ediv_nonneg hv (Int.le_of_lt (pow_pos i))) (Int.lt_of_le_of_lt (Int.ediv_le_self _ hv) hv1)]
    omega
  go_enter Tryz.func53, Tryz.ntmps53
  go_wp2
  go_ret
  refine ⟨?_, rfl⟩
  show Ending.returned (Value.int .u8 (bits .and .u32 (v / 2 ^ i) 1 % 256)) = _
  rw [HA.out]

theorem rev_take {v : Int} {n i : Nat} (h : i < n) : val ((bts v n).reverse.take (i + 1)) = val ((bts v n).reverse.take i) + v / 2 ^ (n - 1 - i) % 2 * 2 ^ i := by
  have hl : i < (bts v n).reverse.length := by rw [List.length_reverse, length_bts]; exact h
  rw [List.take_succ_eq_append_getElem hl, val_append]
  have e : (bts v n).reverse[i] = v / 2 ^ (n - 1 - i) % 2 := by
    rw [List.getElem_reverse]
    have hs : bts v n = bts v (n - 1 - i) ++ bts (v / 2 ^ (n - 1 - i)) (i + 1) := by rw [← bts_split]; congr 1; omega
    have hj : (bts v n)[(bts v n).length - 1 - i]? = some (v / 2 ^ (n - 1 - i) % 2) := by
      rw [hs, List.length_append, length_bts, length_bts, List.getElem?_append_right (by rw [length_bts]; omega), length_bts]
      rw [show n - 1 - i + (i + 1) - 1 - i - (n - 1 - i) = 0 by omega]
      rfl
    obtain ⟨_, hj⟩ := List.getElem?_eq_some_iff.1 hj
    exact hj
  rw [e, List.length_take, Nat.min_eq_left (by omega)]
  simp only [val]
  rw [Int.mul_comm]
  simp

end Go.Proofs.YtpmgnpfpnkmmbaaGreatDoor

namespace Go.Proofs.YtpmgnpfpnkmmbaaGreatDoor
open Go.RowKit Go.Maps
set_option maxRecDepth 20000

/-- An array of sixteen numbers. -/
def av (f : Nat → Int) : Array Value := Array.ofFn fun i : Fin 16 => Value.int .i64 (f i)

theorem av_size (f : Nat → Int) : (av f).size = 16 := by simp [av]

theorem av_get (f : Nat → Int) {i : Nat} (h : i < 16) : (av f)[i]? = some (.int .i64 (f i)) := by simp [av, h]

def upf (f : Nat → Int) (i : Nat) (x : Int) : Nat → Int := fun k => if k = i then x else f k

theorem av_set (f : Nat → Int) {i : Nat} (x : Int) (h : i < 16) : (av f).setIfInBounds i (.int .i64 x) = av (upf f i x) := by
  apply Array.ext_getElem?
  intro k
  rw [Array.getElem?_setIfInBounds]
  by_cases e : i = k
  · subst e; simp [av, h, upf]
  · rw [if_neg e]
    by_cases hk : k < 16
    · have : k ≠ i := fun h => e h.symm
      simp [av, hk, upf, this]
    · simp [av, hk]

theorem av_congr {f g : Nat → Int} (h : ∀ i, i < 16 → f i = g i) : av f = av g := by
  unfold av
  congr 1
  funext i
  rw [h i i.2]

theorem av_one (f : Nat → Int) : (av f).all (·.oneCell') = true := by
  rw [Array.all_eq_true]
  intro i hi
  simp [av, Value.oneCell']

theorem av_zero : av (fun _ => 0) = #[.int .i64 0, .int .i64 0, .int .i64 0, .int .i64 0, .int .i64 0, .int .i64 0, .int .i64 0, .int .i64 0, .int .i64 0, .int .i64 0, .int .i64 0, .int .i64 0, .int .i64 0, .int .i64 0, .int .i64 0, .int .i64 0] := rfl

theorem sizePer (f : Nat → Int) : (Tryz.prog.info? 124).map (·.size) = some (av f).size := by rw [av_size]; kernel_rfl

/-- A whole array out of its block, and into one. -/
theorem wpList_loadP {ops : Array Oper} {rest : List Oper} {a : Act} {w : World} {Q : Exit → Act → World → Prop} {dst : Option Tmp} {x : Operand} {ty : TypeId} {pos : String} {after : Array Edge} (g : Nat) (f : Nat → Int)
    (hx : a.eval x = .pointer (some ⟨g, 0, none⟩)) (hg : w.heap[g]? = some (.cells (av f) 124 (0, 0))) (h : wpList Tryz.prog ops Q rest (a.put dst (.agg (av f))) w) :
    wpList Tryz.prog ops Q ({ dst := dst, op := .load 124 x, type := ty, pos := pos, after := after, guard := none } :: rest) a w :=
  wpList_load_row rfl 124 x rfl g hx 124 (av f) (0, 0) _ hg Tryz.underlying124 rfl (sizePer f) h

theorem wpList_storeP {ops : Array Oper} {rest : List Oper} {a : Act} {w : World} {Q : Exit → Act → World → Prop} {dst : Option Tmp} {x y : Operand} {ty : TypeId} {pos : String} {after : Array Edge} (g : Nat) (f h0 : Nat → Int)
    (hx : a.eval x = .pointer (some ⟨g, 0, none⟩)) (hy : a.eval y = .agg (av f)) (hg : w.heap[g]? = some (.cells (av h0) 124 (0, 0))) (h : wpList Tryz.prog ops Q rest (a.put dst undef) (w.setRow g (av f))) :
    wpList Tryz.prog ops Q ({ dst := dst, op := .store 124 x y, type := ty, pos := pos, after := after, guard := none } :: rest) a w :=
  wpList_store_row rfl 124 x y rfl g (av f) hx hy 124 (av h0) hg (sizePer f) (by rw [av_size, av_size]) (av_one f) h

theorem ret_per {fn : Func} {R : Ending → World → Prop} {a : Act} {w : World} {p : Tmp} (hres : fn.results = #[.cell p 124]) (g : Nat) (f : Nat → Int) (hp : a.tmps.getD p undef = .pointer (some ⟨g, 0, none⟩))
    (hg : w.heap[g]? = some (.cells (av f) 124 (0, 0))) (hd : a.defers = []) (hR : R (.returned (.agg (av f))) w) : bodyPost Tryz.prog fn R .ret a w :=
  bodyPost_ret (results_cell_row hres a.tmps w g 124 (av f) (0, 0) _ hp hg Tryz.underlying124 rfl (sizePer f)) hd hR

theorem SI.get {W w : World} {ao : Option Addr} {cap : Nat} {l : List Int} (h : SI W (.slice ao l.length cap) l) (hb : Below W.heap.size W w) {k : Nat} (hk : k < l.length) : ∃ b o, ao = some ⟨b, o, none⟩ ∧ w.cell? ⟨b, o + k, none⟩ = some (.int .i64 (l.getD k 0)) := by
  obtain ⟨ao', cap', he, h1, h2, h3, h4⟩ := h
  simp only [Value.slice.injEq] at he
  obtain ⟨rfl, -, rfl⟩ := he
  cases ao with
  | none => have := h3 rfl; omega
  | some x =>
    obtain ⟨b, o, rfl⟩ := addr_lit (h4 x rfl 0 (by omega))
    have hc := h4 _ rfl k hk
    have hbl := World.block_lt_of_cell? _ _ hc
    rw [Addr.add_lit] at hc hbl
    exact ⟨b, o, rfl, (hb.cell hbl).trans hc⟩

theorem SI.open {w : World} {v : Value} {l : List Int} (h : SI w v l) : ∃ ao cap, v = .slice ao l.length cap ∧ l.length ≤ cap ∧ cap ≤ 9223372036854775807 := by
  obtain ⟨ao, cap, rfl, h1, h2, _⟩ := h
  unfold maxLen at h2
  exact ⟨ao, cap, rfl, h1, by omega⟩

/-- Two blocks of our own: an answer, an array. -/
def Two (w : World) (f g : Nat → Int) (wr : World) : Prop := wr.heap[w.heap.size]? = some (.cells (av f) 124 (0, 0)) ∧ wr.heap[w.heap.size + 1]? = some (.cells (av g) 124 (0, 0)) ∧ Below w.heap.size w wr

theorem two_start (w : World) (o p : Obj) (f g : Nat → Int) (ho : o = .cells (av f) 124 (0, 0)) (hp : p = .cells (av g) 124 (0, 0)) : Two w f g ((w.alloc o).alloc p) := by
  subst ho hp
  obtain ⟨h1, h2⟩ := heap_two w (.cells (av f) 124 (0, 0)) (.cells (av g) 124 (0, 0))
  exact ⟨h2, h1, ((Below.refl _ _).alloc (Nat.le_refl _) _).alloc (by simp) _⟩

theorem Two.cell {w wr : World} {f g : Nat → Int} (h : Two w f g wr) {n : Nat} (hn : n < 16) : wr.cell? ⟨w.heap.size + 1, n, none⟩ = some (.int .i64 (g n)) := by
  rw [cell_of_row _ _ _ _ _ _ h.2.1, av_get g hn]

theorem Two.cell0 {w wr : World} {f g : Nat → Int} (h : Two w f g wr) {n : Nat} (hn : n < 16) : wr.cell? ⟨w.heap.size, n, none⟩ = some (.int .i64 (f n)) := by
  rw [cell_of_row _ _ _ _ _ _ h.1, av_get f hn]

theorem Two.free {w wr : World} {f g : Nat → Int} (h : Two w f g wr) (n : Nat) : wr.frozen? ⟨w.heap.size + 1, n, none⟩ = false := frozen_of_row _ _ _ _ _ h.2.1
theorem Two.free0 {w wr : World} {f g : Nat → Int} (h : Two w f g wr) (n : Nat) : wr.frozen? ⟨w.heap.size, n, none⟩ = false := frozen_of_row _ _ _ _ _ h.1

theorem Two.set {w wr : World} {f g : Nat → Int} (h : Two w f g wr) {n : Nat} (hn : n < 16) (x : Int) : Two w f (upf g n x) (wr.setCell ⟨w.heap.size + 1, n, none⟩ (.int .i64 x)) := by
  refine ⟨(setCell_others wr _ n _ _ (by omega)).trans h.1, ?_, ?_⟩
  · rw [heap_setCell_same _ _ _ _ _ _ h.2.1, av_set g x hn]
  · exact h.2.2.setCell (by show _ ≤ w.heap.size + 1; omega) _

theorem Two.drewN {w wr : World} {f g : Nat → Int} (h : Two w f g wr) (n : Nat) : Two w f g (wr.drewN n) := ⟨h.1, h.2.1, below_drewN h.2.2 n⟩

theorem Two.over {w wr : World} {f g f' : Nat → Int} (h : Two w f g wr) : Two w f' g (wr.setRow w.heap.size (av f')) := by
  refine ⟨setRow_heap wr _ _ _ _ _ h.1, (setRow_other wr _ _ _ (by omega)).trans h.2.1, ?_⟩
  exact ⟨h.2.2.os, h.2.2.tape, h.2.2.output, by rw [size_setRow]; exact h.2.2.size, fun k hk => (setRow_other wr _ _ _ (by omega)).trans (h.2.2.block k hk)⟩

theorem cn_snoc {l : List Int} {k : Nat} (hk : k < l.length) (n : Nat) : cn (l.take (k + 1)) n = cn (l.take k) n + if n ≠ 0 ∧ l.getD k 0 = (n : Int) then 1 else 0 := by
  unfold cn
  by_cases h : n = 0
  · simp [h]
  · rw [if_neg h, if_neg h, count_take_succ l _ hk]
    by_cases e : l.getD k 0 = (n : Int)
    · rw [if_pos e, if_pos ⟨h, e⟩]
    · rw [if_neg e, if_neg (fun x => e x.2)]

theorem cn_step {l : List Int} {k n : Nat} (hk : k < l.length) (hn : l.getD k 0 = (n : Int)) :
    (n = 0 → (av fun m => (cn (l.take (k + 1)) m : Int)) = av fun m => (cn (l.take k) m : Int)) ∧ (n ≠ 0 → (av fun m => (cn (l.take (k + 1)) m : Int)) = av (upf (fun m => (cn (l.take k) m : Int)) n ((cn (l.take k) n : Int) + 1))) := by
  refine ⟨fun h => av_congr fun i _ => ?_, fun h => av_congr fun i _ => ?_⟩
  · rw [cn_snoc hk, if_neg (fun x => x.1 (by have := x.2; omega))]; rfl
  · rw [cn_snoc hk]
    unfold upf
    by_cases e : i = n
    · subst e
      rw [if_pos ⟨h, hn⟩, if_pos rfl]; omega
    · rw [if_neg (fun x => e (by have := x.2; omega)), if_neg e]; rfl

theorem count_any (v : Value) (l : List Int) (w : World) (h : SI w v l) (hl : Lens l) :
    Calls Tryz.prog 85 #[v] w fun e w' => e = .returned (.agg (av fun n => (cn l n : Int))) ∧ Below w.heap.size w w' := by
  have HS := hide h
  have HL := hide hl
  have h288 := hl.1
  obtain ⟨ao, cap, rfl, hlc, hcm⟩ := h.open
  clear h hl
  go_enter Tryz.func85, Tryz.ntmps85
  go_wp2
  go_loopw [8] (fun i wr => ∃ k : Nat, k ≤ l.length ∧ i = .int .i64 k ∧ Hid (Two w (fun _ => 0) (fun n => (cn (l.take k) n : Int)) wr)) (fun i _ => l.length - (intOf i).toNat)
  case atStart =>
    refine ⟨0, Nat.zero_le _, rfl, two_start w _ _ _ _ ?_ ?_⟩
    · rw [av_zero]
    · rw [show (fun n => (cn (l.take 0) n : Int)) = fun _ => 0 by funext n; simp [cn], av_zero]
  case round =>
    obtain ⟨k, hk, rfl, HT⟩ := hrel
    by_cases hlt : k < l.length
    · have hlt' : (k : Int) < (l.length : Int) := by omega
      obtain ⟨b, o, rfl, hc⟩ := HS.out.get HT.out.2.2 hlt
      obtain ⟨n, hn⟩ : ∃ n, n = ln l k := ⟨_, rfl⟩
      have HN : Hid (l.getD k 0 = (n : Int)) := by show _ = _; rw [hn]; exact (HL.out.ln k).1
      have hn15 : n < 16 := by rw [hn]; have := (HL.out.ln k).2; omega
      rw [HN.out] at hc
      clear hn
      have HX := hide (cn_step hlt HN.out)
      by_cases h0 : n = 0
      · subst h0
        go_wp2
        go_roundw
        case rel => exact ⟨k + 1, by omega, by go_num, by show Two _ _ _ _; exact ⟨HT.out.1, by rw [HX.out.1 rfl]; exact HT.out.2.1, HT.out.2.2⟩⟩
        case measure => simp [intOf]; omega
      · have h0' : (0 : Int) < n := by omega
        have hcn := HT.out.cell hn15
        have hfz := HT.out.free n
        have hle : cn (l.take k) n ≤ 288 := by
          have := cn_le (l.take k) n
          rw [List.length_take] at this; omega
        obtain ⟨c, HC⟩ : ∃ c : Nat, Hid (c = cn (l.take k) n) := ⟨_, rfl⟩
        rw [← HC.out] at hcn hle
        go_wp2
        go_roundw
        case rel =>
          refine ⟨k + 1, by omega, by go_num, ?_⟩
          have := HT.out.set hn15 ((c : Int) + 1)
          refine ⟨this.1, ?_, this.2.2⟩
          rw [HX.out.2 h0, ← HC.out]
          exact this.2.1
        case measure => simp [intOf]; omega
    · obtain rfl : k = l.length := by omega
      have hlt' : ¬ (l.length : Int) < (l.length : Int) := by omega
      have HT2 : Hid (Two w (fun _ => 0) (fun n => (cn l n : Int)) wr) := by have := HT.out; rwa [List.take_of_length_le (Nat.le_refl _)] at this
      clear HT
      have HA := hide HT2.out.2.1
      have HB := hide HT2.out.1
      have HO := hide (HT2.out.over (f' := fun n => (cn l n : Int)))
      clear HT2
      go_wp2_with (first | ((with_reducible refine wpList_loadP (w.heap.size + 1) _ ?hx HA.out ?_); case hx => rfl) | ((with_reducible refine wpList_storeP w.heap.size (fun n => (cn l n : Int)) _ ?hx ?hy HB.out ?_); (case hx => rfl); (case hy => rfl)))
      (try simp only [Exit.inBlock, Exit.then])
      refine ret_per (p := 2) ?h1 w.heap.size _ ?h2 HO.out.1 ?h3 ?_
      case h1 => rfl
      case h2 => rfl
      case h3 => rfl
      exact ⟨rfl, HO.out.2.2⟩

theorem fi_step {l : List Int} {k : Nat} : (av (upf (fun m => if m ≤ k then (fi l m : Int) else 0) (k + 1) (((fi l k : Int) + cn l k) * 2))) = av fun m => if m ≤ k + 1 then (fi l m : Int) else 0 := by
  refine av_congr fun i _ => ?_
  unfold upf
  by_cases e : i = k + 1
  · subst e
    rw [if_pos rfl, if_pos (Nat.le_refl _)]
    simp only [fi]; omega
  · rw [if_neg e]
    show (if i ≤ k then _ else _) = _
    by_cases h : i ≤ k
    · rw [if_pos h, if_pos (by omega)]
    · rw [if_neg h, if_neg (by omega)]

/-- Three blocks of our own. -/
def Tri (w : World) (h f g : Nat → Int) (wr : World) : Prop := wr.heap[w.heap.size]? = some (.cells (av h) 124 (0, 0)) ∧ wr.heap[w.heap.size + 1]? = some (.cells (av f) 124 (0, 0)) ∧ wr.heap[w.heap.size + 1 + 1]? = some (.cells (av g) 124 (0, 0)) ∧ Below w.heap.size w wr

theorem tri_start (w : World) (h f g : Nat → Int) : Tri w h f g (((w.alloc (.cells (av h) 124 (0, 0))).alloc (.cells (av f) 124 (0, 0))).alloc (.cells (av g) 124 (0, 0))) := by
  have h1 := heap_two (w.alloc (.cells (av h) 124 (0, 0))) (.cells (av f) 124 (0, 0)) (.cells (av g) 124 (0, 0))
  rw [size_alloc'] at h1
  refine ⟨?_, h1.2, h1.1, (((Below.refl _ _).alloc (Nat.le_refl _) _).alloc (by simp) _).alloc (by simp; omega) _⟩
  rw [Below.heap_alloc _ _ _ (by simp; omega), Below.heap_alloc _ _ _ (by simp)]
  exact heap_alloc_new w _

theorem Tri.cellh {w wr : World} {h f g : Nat → Int} (t : Tri w h f g wr) {n : Nat} (hn : n < 16) : wr.cell? ⟨w.heap.size, n, none⟩ = some (.int .i64 (h n)) := by
  rw [cell_of_row _ _ _ _ _ _ t.1, av_get h hn]

theorem Tri.cellg {w wr : World} {h f g : Nat → Int} (t : Tri w h f g wr) {n : Nat} (hn : n < 16) : wr.cell? ⟨w.heap.size + 1 + 1, n, none⟩ = some (.int .i64 (g n)) := by
  rw [cell_of_row _ _ _ _ _ _ t.2.2.1, av_get g hn]

theorem Tri.free {w wr : World} {h f g : Nat → Int} (t : Tri w h f g wr) (n : Nat) : wr.frozen? ⟨w.heap.size + 1 + 1, n, none⟩ = false := frozen_of_row _ _ _ _ _ t.2.2.1

theorem Tri.set {w wr : World} {h f g : Nat → Int} (t : Tri w h f g wr) {n : Nat} (hn : n < 16) (x : Int) : Tri w h f (upf g n x) (wr.setCell ⟨w.heap.size + 1 + 1, n, none⟩ (.int .i64 x)) := by
  refine ⟨(setCell_others wr _ n _ _ (by omega)).trans t.1, (setCell_others wr _ n _ _ (by omega)).trans t.2.1, ?_, ?_⟩
  · rw [heap_setCell_same _ _ _ _ _ _ t.2.2.1, av_set g x hn]
  · exact t.2.2.2.setCell (by show _ ≤ w.heap.size + 1 + 1; omega) _

theorem Tri.drewN {w wr : World} {h f g : Nat → Int} (t : Tri w h f g wr) (n : Nat) : Tri w h f g (wr.drewN n) := ⟨t.1, t.2.1, t.2.2.1, below_drewN t.2.2.2 n⟩

theorem Tri.over {w wr : World} {h f g f' : Nat → Int} (t : Tri w h f g wr) : Tri w h f' g (wr.setRow (w.heap.size + 1) (av f')) := by
  refine ⟨(setRow_other wr _ _ _ (by omega)).trans t.1, setRow_heap wr _ _ _ _ _ t.2.1, (setRow_other wr _ _ _ (by omega)).trans t.2.2.1, ?_⟩
  exact ⟨t.2.2.2.os, t.2.2.2.tape, t.2.2.2.output, by rw [size_setRow]; exact t.2.2.2.size, fun k hk => (setRow_other wr _ _ _ (by omega)).trans (t.2.2.2.block k hk)⟩

theorem firsts_any (l : List Int) (w : World) (hl : Lens l) :
    Calls Tryz.prog 88 #[.agg (av fun n => (cn l n : Int))] w fun e w' => e = .returned (.agg (av fun n => (fi l n : Int))) ∧ Below w.heap.size w w' := by
  have HL := hide hl
  clear hl
  obtain ⟨A, HA⟩ : ∃ A, Hid (A = av fun n => (cn l n : Int)) := ⟨_, rfl⟩
  rw [← HA.out]
  go_enter Tryz.func88, Tryz.ntmps88
  go_wp2
  go_loopw [4] (fun i wr => ∃ k : Nat, k ≤ 15 ∧ i = .int .i64 ((k : Int) + 1) ∧ Hid (Tri w (fun n => (cn l n : Int)) (fun _ => 0) (fun m => if m ≤ k then (fi l m : Int) else 0) wr)) (fun i _ => 16 - (intOf i).toNat)
  case atStart =>
    refine ⟨0, Nat.zero_le _, rfl, ?_⟩
    have := tri_start w (fun n => (cn l n : Int)) (fun _ => 0) (fun _ => 0)
    rw [← HA.out, av_zero] at this
    rw [show (fun m => if m ≤ 0 then (fi l m : Int) else 0) = fun _ => 0 by funext m; by_cases e : m ≤ 0; (obtain rfl : m = 0 := by omega); rfl; rw [if_neg e]]
    exact ⟨this.1, by rw [av_zero]; exact this.2.1, by rw [av_zero]; exact this.2.2.1, this.2.2.2⟩
  case round =>
    obtain ⟨k, hk, rfl, HT⟩ := hrel
    by_cases hlt : k < 15
    · have hlt' : (k : Int) + 1 ≤ 15 := by omega
      have c1 := HT.out.cellg (n := k) (by omega)
      have c2 := HT.out.cellh (n := k) (by omega)
      have hfz := HT.out.free (k + 1)
      have c3 := HT.out.cellg (n := k + 1) (by omega)
      rw [if_pos (Nat.le_refl _)] at c1
      rw [if_neg (by omega)] at c3
      have b1 := fi_top HL.out (n := k) (by omega)
      have b2 : cn l k ≤ 288 := by have := cn_le l k; have := HL.out.1; omega
      obtain ⟨x, HX⟩ : ∃ x : Nat, Hid (x = fi l k) := ⟨_, rfl⟩
      obtain ⟨y, HY⟩ : ∃ y : Nat, Hid (y = cn l k) := ⟨_, rfl⟩
      rw [← HX.out] at c1 b1
      rw [← HY.out] at c2 b2
      have e1 : (k : Int) + 1 - 1 = k := by omega
      have HR : Hid (∀ q, Tri w (fun n => (cn l n : Int)) (fun _ => 0) (fun m => if m ≤ k + 1 then (fi l m : Int) else 0) ((wr.drewN q).setCell ⟨w.heap.size + 1 + 1, k + 1, none⟩ (.int .i64 (((x : Int) + y) * 2)))) := fun q => by
        have := (HT.out.drewN q).set (n := k + 1) (by omega) (((x : Int) + y) * 2)
        refine ⟨this.1, this.2.1, ?_, this.2.2.2⟩
        rw [← fi_step, ← HX.out, ← HY.out]
        exact this.2.2.1
      clear HT
      go_wp2
      go_region
      go_wp2
      go_roundw
      case rel => exact ⟨k + 1, by omega, by go_num, HR.out 1⟩
      case measure => simp [intOf]; omega
    · obtain rfl : k = 15 := by omega
      have hlt' : ¬ ((15 : Nat) : Int) + 1 ≤ 15 := by omega
      have HT2 : Hid (Tri w (fun n => (cn l n : Int)) (fun _ => 0) (fun n => (fi l n : Int)) wr) := by
        have := HT.out
        refine ⟨this.1, this.2.1, ?_, this.2.2.2⟩
        rw [this.2.2.1, av_congr fun i hi => if_pos (show i ≤ 15 by omega)]
      clear HT
      have HC := hide HT2.out.2.2.1
      have HB := hide HT2.out.2.1
      have HO := hide (HT2.out.over (f' := fun n => (fi l n : Int)))
      clear HT2
      go_wp2_with (first | ((with_reducible refine wpList_loadP (w.heap.size + 1 + 1) _ ?hx HC.out ?_); case hx => rfl) | ((with_reducible refine wpList_storeP (w.heap.size + 1) (fun n => (fi l n : Int)) _ ?hx ?hy HB.out ?_); (case hx => rfl); (case hy => rfl)))
      (try simp only [Exit.inBlock, Exit.then])
      refine ret_per (p := 2) ?h1 (w.heap.size + 1) _ ?h2 HO.out.2.1 ?h3 ?_
      case h1 => rfl
      case h2 => rfl
      case h3 => rfl
      exact ⟨rfl, HO.out.2.2.2⟩
end Go.Proofs.YtpmgnpfpnkmmbaaGreatDoor

namespace Go.Proofs.YtpmgnpfpnkmmbaaGreatDoor
open Go.RowKit Go.Maps
set_option maxRecDepth 20000

theorem OI.get {w : World} {base : Nat} {v : Value} {l : List Int} (h : OI w base v l) {b : Nat} (hv : v.ownBlock = some b) {i : Nat} (hi : i < l.length) : w.cell? ⟨b, i, none⟩ = some (.int .i64 (l.getD i 0)) := by
  rcases h.2 with ⟨rfl, h0⟩ | ⟨g, cap, cur, rfl, h1, h2, h3, h4, h5, h6⟩
  · simp [Value.ownBlock] at hv
  · simp [Value.ownBlock] at hv
    subst hv
    have := World.ownsRow.cells h (g := g) rfl i (.int .i64 (l.getD i 0)) (by simp [hi])
    rwa [Addr.add_lit, Nat.zero_add] at this

theorem OI.put {w : World} {B : Nat} {v : Value} {l : List Int} (h : OI w B v l) {k : Nat} (hk : k < l.length) (m : Int) :
    ∃ g c, v = .slice (some ⟨g, 0, none⟩) l.length c ∧ (∃ u, w.cell? ⟨g, k, none⟩ = some u) ∧ w.frozen? ⟨g, k, none⟩ = false ∧ OI (w.setCell ⟨g, k, none⟩ (.int .i64 m)) B v (l.set k m) := by
  rcases h.2 with ⟨hv, h0⟩ | ⟨g, cap, cur, rfl, h1, h2, h3, h4, h5, h6⟩
  · omega
  · refine ⟨g, cap, rfl, ⟨_, h.get rfl hk⟩, frozen_of_row _ _ _ _ _ h2, ?_⟩
    unfold OI
    rw [List.length_set, List.map_set]
    refine ⟨by simp, .inr ⟨g, cap, _, rfl, h1, heap_setCell_same _ _ _ _ _ _ h2, h3, h4, by simpa using h5, ?_⟩⟩
    simp only [Array.toList_setIfInBounds, List.take_set]
    rw [h6]

theorem OI.form {w : World} {base : Nat} {v : Value} {l : List Int} (h : OI w base v l) (h0 : 0 < l.length) : ∃ g c, v = .slice (some ⟨g, 0, none⟩) l.length c ∧ base ≤ g ∧ g < w.heap.size ∧ l.length ≤ c ∧ c ≤ 9223372036854775807 := by
  rcases h.2 with ⟨hv, hz⟩ | ⟨g, cap, cur, rfl, h1, h2, h3, h4, h5, h6⟩
  · omega
  · unfold maxLen at h4
    exact ⟨g, cap, rfl, h1, (h.lt g rfl).2, h3, by omega⟩

/-- A list that lies in more than it says. -/
theorem OI.front {w : World} {base g c : Nat} {l r : List Int} (h : OI w base (.slice (some ⟨g, 0, none⟩) (l ++ r).length c) (l ++ r)) : SI w (.slice (some ⟨g, 0, none⟩) l.length c) l := by
  obtain ⟨ao', cap', he, h1, h2, h3, h4⟩ := h.sb
  simp only [Value.slice.injEq] at he
  obtain ⟨rfl, -, rfl⟩ := he
  rw [List.length_append] at h1
  refine ⟨_, c, rfl, by omega, h2, h3, fun x hx i hi => ?_⟩
  rw [h4 x hx i (by rw [List.length_append]; omega)]
  simp only [List.getD, List.getElem?_append_left hi]

end Go.Proofs.YtpmgnpfpnkmmbaaGreatDoor

namespace Go.Proofs.YtpmgnpfpnkmmbaaGreatDoor
open Go.RowKit Go.Maps
set_option maxRecDepth 20000
set_option linter.unusedVariables false

def Spare (w : World) (v : Value) (n : Nat) : Prop := ∃ g, v = .slice (some ⟨g, 0, none⟩) n (n + 9) ∧ ∀ j, j < 9 → w.cell? ⟨g, n + j, none⟩ = some (.int .i64 165)

theorem cell_at {w : World} {g : Nat} {L : List Value} {t : TypeId} {fr : Nat × Nat} (h : w.heap[g]? = some (.cells L.toArray t fr)) (i : Nat) : w.cell? ⟨g, i, none⟩ = L[i]? := by
  simp [World.cell?, h]

theorem room_at (A : List Value) (k n : Nat) (x z : Value) (h : k < n) : (A ++ List.replicate k x ++ List.replicate (n - k) z)[A.length + k]? = some z := by
  rw [List.getElem?_append_right (by simp), List.getElem?_replicate, if_pos (by simp; omega)]

theorem room_set (A : List Value) (k n : Nat) (x z : Value) (h : k < n) : (A ++ List.replicate k x ++ List.replicate (n - k) z).set (A.length + k) x = A ++ List.replicate (k + 1) x ++ List.replicate (n - (k + 1)) z := by
  obtain ⟨r, hr⟩ : ∃ r, n - k = r + 1 := ⟨n - k - 1, by omega⟩
  have e : A.length + k - (A ++ List.replicate k x).length = 0 := by simp
  rw [List.set_append_right _ _ (by simp), hr, show n - (k + 1) = r by omega, List.replicate_succ' (n := k), e, List.replicate_succ (n := r), List.set_cons_zero, ← List.append_assoc, List.append_assoc (A ++ List.replicate k x)]
  rfl

theorem room_end (A : List Value) (n j : Nat) (x z : Value) (h : j < n) : (A ++ List.replicate n x ++ List.replicate (n - n) z)[A.length + j]? = some x := by
  rw [List.append_assoc, List.getElem?_append_right (by omega), List.getElem?_append_left (by simp; omega), List.getElem?_replicate, if_pos (by omega)]

end Go.Proofs.YtpmgnpfpnkmmbaaGreatDoor

namespace Go.Proofs.YtpmgnpfpnkmmbaaGreatDoor
set_option linter.unusedVariables false

/-- A run: its Sym and its Count. -/
abbrev Rn := Int × Int

/-- How many of the first lengths are v. -/
def eqn (v : Int) : List Int → Nat
  | [] => 0
  | x :: r => if x = v then eqn v r + 1 else 0

theorem eqn_le (v : Int) (l : List Int) : eqn v l ≤ l.length := by
  induction l with
  | nil => exact Nat.le_refl _
  | cons x r ih => simp only [eqn, List.length_cons]; split <;> omega

theorem eqn_take {v : Int} {l : List Int} {c : Nat} (h : c ≤ eqn v l) : l.take c = List.replicate c v := by
  induction l generalizing c with
  | nil => simp only [eqn] at h; have : c = 0 := by omega
           subst this; rfl
  | cons x r ih =>
    cases c with
    | zero => rfl
    | succ c =>
      simp only [eqn] at h
      by_cases e : x = v
      · rw [if_pos e] at h
        rw [List.take_succ_cons, ih (by omega), List.replicate_succ, e]
      · rw [if_neg e] at h; omega

theorem eqn_min (v : Int) (l : List Int) (m : Nat) : eqn v (l.take m) = min (eqn v l) m := by
  induction l generalizing m with
  | nil => simp [eqn]
  | cons x r ih =>
    cases m with
    | zero => simp [eqn]
    | succ m =>
      rw [List.take_succ_cons]
      simp only [eqn]
      by_cases e : x = v
      · rw [if_pos e, if_pos e, ih]; omega
      · rw [if_neg e, if_neg e]; omega

theorem eqn_go {v : Int} {l : List Int} {k : Nat} (h : k ≤ eqn v l) (hk : k < l.length) : (l.getD k 0 = v → k + 1 ≤ eqn v l) ∧ (l.getD k 0 ≠ v → eqn v l = k) := by
  induction l generalizing k with
  | nil => simp at hk
  | cons x r ih =>
    simp only [eqn] at h ⊢
    cases k with
    | zero =>
      refine ⟨fun e => ?_, fun e => ?_⟩
      · have e' : x = v := e
        rw [if_pos e']; omega
      · have e' : ¬ x = v := e
        rw [if_neg e']
    | succ k =>
      by_cases e : x = v
      · rw [if_pos e] at h ⊢
        obtain ⟨i1, i2⟩ := ih (k := k) (by omega) (by simpa using hk)
        refine ⟨fun q => ?_, fun q => ?_⟩
        · have := i1 (by simpa using q); omega
        · have := i2 (by simpa using q); omega
      · rw [if_neg e] at h; omega

theorem eqn_end {v : Int} {l : List Int} (h : l.length ≤ eqn v l) : eqn v l = l.length := Nat.le_antisymm (eqn_le v l) h

theorem eqn_pos {v : Int} {l : List Int} {k : Nat} (hk : k < l.length) (h : 1 ≤ eqn v (l.drop k)) : l.getD k 0 = v := by
  have e : l.drop k = l[k] :: l.drop (k + 1) := List.drop_eq_getElem_cons hk
  rw [e] at h
  simp only [eqn] at h
  rw [show l.getD k 0 = l[k] by simp [hk]]
  by_cases q : l[k] = v
  · exact q
  · rw [if_neg q] at h; omega

theorem eqn_self {l : List Int} {k : Nat} (hk : k < l.length) : 1 ≤ eqn (l.getD k 0) (l.drop k) := by
  have e : l.drop k = l[k] :: l.drop (k + 1) := List.drop_eq_getElem_cons hk
  rw [e, show l.getD k 0 = l[k] by simp [hk]]
  simp only [eqn]
  rw [if_pos trivial]; omega

/-- The run that begins at a place. -/
def run1 (l : List Int) (k : Nat) : Rn :=
  if l.getD k 0 = 0 ∧ 11 ≤ eqn 0 (l.drop k) then (18, (min (eqn 0 (l.drop k)) 138 : Nat))
  else if l.getD k 0 = 0 ∧ 3 ≤ eqn 0 (l.drop k) then (17, (eqn 0 (l.drop k) : Nat))
  else if l.getD k 0 ≠ 0 ∧ 0 < k ∧ l.getD (k - 1) 0 = l.getD k 0 ∧ 3 ≤ eqn (l.getD k 0) (l.drop k) then (16, (min (eqn (l.getD k 0) (l.drop k)) 6 : Nat))
  else (l.getD k 0, 1)

/-- The same, as the program finds it. -/
def n18 (l : List Int) (k : Nat) : Nat := min (eqn 0 (l.drop k)) 138
def n17 (l : List Int) (k : Nat) : Nat := min (eqn 0 (l.drop k)) 10
def n16 (l : List Int) (k : Nat) : Nat := if k = 0 then 0 else min (eqn (l.getD (k - 1) 0) (l.drop k)) 6

theorem run_pick {l : List Int} {k : Nat} (hk : k < l.length) :
    (11 ≤ n18 l k → run1 l k = (18, (n18 l k : Int))) ∧ (n18 l k < 11 → 3 ≤ n17 l k → run1 l k = (17, (n17 l k : Int))) ∧
    (n18 l k < 11 → n17 l k < 3 → 3 ≤ n16 l k → run1 l k = (16, (n16 l k : Int))) ∧ (n18 l k < 11 → n17 l k < 3 → n16 l k < 3 → run1 l k = (l.getD k 0, 1)) := by
  have z : 1 ≤ eqn 0 (l.drop k) → l.getD k 0 = 0 := eqn_pos hk
  have hs := eqn_self hk
  unfold n18 n17
  refine ⟨fun h => ?_, fun h1 h2 => ?_, fun h1 h2 h3 => ?_, fun h1 h2 h3 => ?_⟩
  · have := z (by omega)
    unfold run1
    rw [if_pos ⟨this, by omega⟩]
  · have := z (by omega)
    unfold run1
    rw [if_neg (by omega), if_pos ⟨this, by omega⟩, show min (eqn 0 (l.drop k)) 10 = eqn 0 (l.drop k) by omega]
  · unfold n16 at h3 ⊢
    by_cases hz : k = 0
    · rw [if_pos hz] at h3; omega
    · rw [if_neg hz] at h3 ⊢
      have e : l.getD k 0 = l.getD (k - 1) 0 := eqn_pos hk (by omega)
      have nz : l.getD k 0 ≠ 0 := by
        intro q
        rw [← e, q] at h3
        omega
      unfold run1
      rw [if_neg (by omega), if_neg (by omega), if_pos ⟨nz, by omega, e.symm, by rw [e]; omega⟩, e]
  · unfold run1
    rw [if_neg (by omega), if_neg (by omega), if_neg]
    rintro ⟨_, g1, g2, g3⟩
    unfold n16 at h3
    rw [if_neg (by omega), g2] at h3
    omega

theorem run1_cnt {l : List Int} {k : Nat} (hk : k < l.length) : ∃ c : Nat, (run1 l k).2 = c ∧ 1 ≤ c ∧ k + c ≤ l.length ∧ c ≤ 138 := by
  have h1 := eqn_le 0 (l.drop k)
  have h2 := eqn_le (l.getD k 0) (l.drop k)
  rw [List.length_drop] at h1 h2
  unfold run1
  split
  · exact ⟨_, rfl, by omega, by omega, by omega⟩
  · split
    · exact ⟨_, rfl, by omega, by omega, by omega⟩
    · split
      · exact ⟨_, rfl, by omega, by omega, by omega⟩
      · exact ⟨1, rfl, by omega, by omega, by omega⟩

def rnN (l : List Int) : Nat → Nat → List Rn
  | 0, _ => []
  | f + 1, k => if k < l.length then run1 l k :: rnN l f (k + (run1 l k).2.toNat) else []

def rns (l : List Int) : List Rn := rnN l l.length 0

theorem rnN_more (l : List Int) : ∀ f g k, l.length - k ≤ f → l.length - k ≤ g → rnN l f k = rnN l g k
  | 0, 0, _, _, _ => rfl
  | 0, g + 1, k, h, _ => by simp only [rnN]; rw [if_neg (by omega)]
  | f + 1, 0, k, _, h => by simp only [rnN]; rw [if_neg (by omega)]
  | f + 1, g + 1, k, h1, h2 => by
    simp only [rnN]
    by_cases hk : k < l.length
    · rw [if_pos hk, if_pos hk]
      obtain ⟨c, e, c1, c2, _⟩ := run1_cnt hk
      rw [e]
      simp only [Int.toNat_natCast]
      rw [rnN_more l f g (k + c) (by omega) (by omega)]
    · rw [if_neg hk, if_neg hk]

/-- What is left of the runs at a place. -/
def rnK (l : List Int) (k : Nat) : List Rn := rnN l (l.length - k) k

theorem rnK_zero (l : List Int) : rnK l 0 = rns l := rfl
theorem rnK_step {l : List Int} {k c : Nat} (hk : k < l.length) (hc : (run1 l k).2 = (c : Int)) : rnK l k = run1 l k :: rnK l (k + c) := by
  obtain ⟨c', e, c1, c2, _⟩ := run1_cnt hk
  have : c = c' := by rw [hc] at e; exact_mod_cast e
  subst this
  unfold rnK
  rw [show l.length - k = (l.length - k - 1) + 1 by omega]
  simp only [rnN]
  rw [if_pos hk, hc]
  simp only [Int.toNat_natCast]
  rw [rnN_more l (l.length - k - 1) (l.length - (k + c)) (k + c) (by omega) (Nat.le_refl _)]
theorem rnK_end {l : List Int} {k : Nat} (hk : l.length ≤ k) : rnK l k = [] := by
  unfold rnK
  rw [show l.length - k = 0 by omega]
  rfl

theorem rnN_len (l : List Int) : ∀ f k, (rnN l f k).length ≤ f
  | 0, _ => Nat.le_refl _
  | f + 1, k => by
    simp only [rnN]
    split
    · rw [List.length_cons]; have := rnN_len l f (k + (run1 l k).2.toNat); omega
    · simp

theorem rns_len (l : List Int) : (rns l).length ≤ l.length := rnN_len l l.length 0

/-- The least and the greatest Count of a Sym, and how many bits stand behind its word. -/
def lst (s : Int) : Int := if s < 16 then 1 else if s < 18 then 3 else 11
def frt (s : Int) : Nat := if s < 16 then 0 else if s = 16 then 2 else if s = 17 then 3 else 7
def mst (s : Int) : Int := if s < 16 then 1 else if s = 16 then 6 else if s = 17 then 10 else 138
def Okr (r : Rn) : Prop := 0 ≤ r.1 ∧ r.1 ≤ 18 ∧ lst r.1 ≤ r.2 ∧ r.2 ≤ mst r.1
instance (r : Rn) : Decidable (Okr r) := by unfold Okr; infer_instance

/-- Which length a run of the Sym stands for. -/
def mnt (s : Int) (a : List Int) : Int := if s < 16 then s else if s = 16 then a.getD (a.length - 1) 0 else 0
def lay (a : List Int) (r : Rn) : List Int := a ++ List.replicate r.2.toNat (mnt r.1 a)
def lays (a : List Int) (rs : List Rn) : List Int := rs.foldl lay a

def xpE (a : List Int) : List Rn → Int
  | [] => 0
  | r :: rs => if Okr r then if r.1 = 16 ∧ a = [] then 73 else xpE (lay a r) rs else 77

/-- What Expand answers. -/
def xpL (rs : List Rn) : List Int := if xpE [] rs = 0 then lays [] rs else []

theorem lay_len (a : List Int) (r : Rn) : (lay a r).length = a.length + r.2.toNat := by simp [lay]
theorem lays_snoc (a : List Int) (rs : List Rn) (r : Rn) : lays a (rs ++ [r]) = lay (lays a rs) r := by simp [lays]

theorem run1_ok {l : List Int} {k : Nat} (hk : k < l.length) (hl : ∀ x ∈ l, 0 ≤ x ∧ x ≤ 15) : Okr (run1 l k) ∧ ((run1 l k).1 = 16 → 0 < k) := by
  have hm := hl (l.getD k 0) (by rw [show l.getD k 0 = l[k] by simp [hk]]; exact List.getElem_mem hk)
  unfold run1
  split
  · refine ⟨⟨by show (0 : Int) ≤ _; simp only; omega, by simp only; omega, ?_, ?_⟩, fun h => by simp at h⟩
    · show lst 18 ≤ _
      unfold lst; simp; omega
    · show _ ≤ mst 18
      unfold mst; simp; omega
  · split
    · refine ⟨⟨by show (0 : Int) ≤ _; simp only; omega, by simp only; omega, ?_, ?_⟩, fun h => by simp at h⟩
      · show lst 17 ≤ _
        unfold lst; simp; omega
      · show _ ≤ mst 17
        unfold mst; simp; omega
    · split
      · rename_i h
        refine ⟨⟨by show (0 : Int) ≤ _; simp only; omega, by simp only; omega, ?_, ?_⟩, fun _ => h.2.1⟩
        · show lst 16 ≤ _
          rw [show lst 16 = 3 from rfl]; simp only; omega
        · show _ ≤ mst 16
          rw [show mst 16 = 6 from rfl]; simp only; omega
      · refine ⟨⟨hm.1, by simp only; omega, ?_, ?_⟩, fun h => by simp only at h; omega⟩
        · simp only [lst]; rw [if_pos (by omega)]; omega
        · simp only [mst]; rw [if_pos (by omega)]; omega

theorem run1_lay {l : List Int} {k c : Nat} (hk : k < l.length) (hc : (run1 l k).2 = (c : Int)) (hl : ∀ x ∈ l, 0 ≤ x ∧ x ≤ 15) : lay (l.take k) (run1 l k) = l.take (k + c) := by
  have hm := hl (l.getD k 0) (by rw [show l.getD k 0 = l[k] by simp [hk]]; exact List.getElem_mem hk)
  have key : ∀ v, c ≤ eqn v (l.drop k) → l.take k ++ List.replicate c v = l.take (k + c) := fun v h => by
    rw [← eqn_take h, List.take_add]
  have hs := eqn_self hk
  unfold lay
  rw [hc]
  simp only [Int.toNat_natCast]
  unfold run1 at hc ⊢
  split at hc
  · rename_i h
    rw [if_pos h]
    have hc' : min (eqn 0 (l.drop k)) 138 = c := by simp only at hc; omega
    exact key _ (by show c ≤ eqn (mnt 18 _) _; rw [show mnt 18 (l.take k) = 0 from rfl]; omega)
  · rename_i h
    rw [if_neg h]
    split at hc
    · rename_i h2
      rw [if_pos h2]
      have hc' : eqn 0 (l.drop k) = c := by simp only at hc; omega
      exact key _ (by show c ≤ eqn (mnt 17 _) _; rw [show mnt 17 (l.take k) = 0 from rfl]; omega)
    · rename_i h2
      rw [if_neg h2]
      split at hc
      · rename_i h3
        rw [if_pos h3]
        have hc' : min (eqn (l.getD k 0) (l.drop k)) 6 = c := by simp only at hc; omega
        refine key _ ?_
        have e : mnt 16 (l.take k) = l.getD k 0 := by
          unfold mnt
          rw [if_neg (by decide), if_pos rfl, ← h3.2.2.1, List.length_take, show min k l.length - 1 = k - 1 by omega]
          simp only [List.getD_eq_getElem?_getD, List.getElem?_take]
          rw [if_pos (by omega)]
        show c ≤ eqn (mnt 16 _) _
        rw [e]; omega
      · rename_i h3
        rw [if_neg h3]
        have hc' : c = 1 := by have : (c : Int) = 1 := hc.symm; omega
        refine key _ ?_
        have e : mnt (l.getD k 0) (l.take k) = l.getD k 0 := by unfold mnt; rw [if_pos (by omega)]
        show c ≤ eqn (mnt (l.getD k 0) _) _
        rw [e]; omega

theorem xp_from {l : List Int} (hl : ∀ x ∈ l, 0 ≤ x ∧ x ≤ 15) : ∀ n k, n = l.length - k → k ≤ l.length → xpE (l.take k) (rnK l k) = 0 ∧ lays (l.take k) (rnK l k) = l := by
  intro n
  induction n using Nat.strongRecOn with
  | ind n ih =>
    intro k hn hk
    by_cases h : k < l.length
    · obtain ⟨c, e, c1, c2, _⟩ := run1_cnt h
      obtain ⟨ok, o16⟩ := run1_ok h hl
      rw [rnK_step h e]
      have hne : ¬ ((run1 l k).1 = 16 ∧ l.take k = []) := by
        rintro ⟨q, z⟩
        have := o16 q
        have z' := congrArg List.length z
        rw [List.length_take, List.length_nil] at z'
        omega
      obtain ⟨i1, i2⟩ := ih (l.length - (k + c)) (by omega) (k + c) rfl c2
      refine ⟨?_, ?_⟩
      · simp only [xpE]
        rw [if_pos ok, if_neg hne, run1_lay h e hl]
        exact i1
      · show lays (lay (l.take k) (run1 l k)) (rnK l (k + c)) = l
        rw [run1_lay h e hl]
        exact i2
    · rw [rnK_end (by omega), List.take_of_length_le (by omega)]
      exact ⟨rfl, rfl⟩

/-- Expand of Runs is the list. -/
theorem xp_rns {l : List Int} (hl : ∀ x ∈ l, 0 ≤ x ∧ x ≤ 15) : xpE [] (rns l) = 0 ∧ lays [] (rns l) = l := by
  have := xp_from hl _ 0 rfl (Nat.zero_le _)
  rw [rnK_zero, List.take_zero] at this
  exact this

theorem rns_ok {l : List Int} (hl : ∀ x ∈ l, 0 ≤ x ∧ x ≤ 15) : ∀ r ∈ rns l, Okr r := by
  have : ∀ f k, ∀ r ∈ rnN l f k, Okr r := by
    intro f
    induction f with
    | zero => intro k r hr; simp [rnN] at hr
    | succ f ih =>
      intro k r hr
      simp only [rnN] at hr
      split at hr
      · rename_i h
        rcases List.mem_cons.1 hr with e | e
        · rw [e]; exact (run1_ok h hl).1
        · exact ih _ r e
      · simp at hr
  exact this _ _

/-- Are all of them code lengths? -/
def wthb (l : List Int) : Bool := l.all fun x => decide (0 ≤ x ∧ x ≤ 15)
theorem wth_iff {l : List Int} : wthb l = true ↔ ∀ x ∈ l, 0 ≤ x ∧ x ≤ 15 := by simp [wthb]

/-- What Runs answers. -/
def rnE (l : List Int) : Int := if wthb l then 0 else 1
def rnL (l : List Int) : List Rn := if wthb l then rns l else []
end Go.Proofs.YtpmgnpfpnkmmbaaGreatDoor

namespace Go.Proofs.YtpmgnpfpnkmmbaaGreatDoor
open Go.RowKit Go.Maps
set_option maxRecDepth 20000
set_option linter.unusedVariables false

/-- The tables of package header, as they are laid. -/
structure Tab (w : World) : Prop where
  least : ∀ i : Nat, i < 19 → w.cell? ⟨2, i, none⟩ = some (.int .i64 (lst i))
  further : ∀ i : Nat, i < 19 → w.cell? ⟨1, i, none⟩ = some (.int .i64 (frt i : Nat))

theorem Tab.below {W w w' : World} {B : Nat} (h : Tab w) (h0 : Tab W) (hW : W.heap.size ≤ B) (hb : Below B w w') : Tab w' :=
  ⟨fun i hi => (hb.cell (Nat.lt_of_lt_of_le (World.block_lt_of_cell? W _ (h0.least i hi)) hW)).trans (h.least i hi), fun i hi => (hb.cell (Nat.lt_of_lt_of_le (World.block_lt_of_cell? W _ (h0.further i hi)) hW)).trans (h.further i hi)⟩

theorem Tab.mono {w w' : World} (h : Tab w) (hb : Below w.heap.size w w') : Tab w' := h.below h (Nat.le_refl _) hb

theorem Tab.drewN {w : World} (h : Tab w) (n : Nat) : Tab (w.drewN n) := ⟨h.least, h.further⟩

def fr2 (R : List Rn) : List Value := R.flatMap fun r => [.int .i64 r.1, .int .i64 r.2]

theorem fr2_len (R : List Rn) : (fr2 R).length = R.length * 2 := by
  induction R with
  | nil => rfl
  | cons a r ih => unfold fr2 at ih ⊢; rw [List.flatMap_cons, List.length_append, ih]; simp; omega

def rn0 : Rn := (0, 0)

theorem fr2_get {R : List Rn} {i : Nat} (h : i < R.length) : (fr2 R)[i * 2]? = some (.int .i64 (R.getD i rn0).1) ∧ (fr2 R)[i * 2 + 1]? = some (.int .i64 (R.getD i rn0).2) := by
  induction R generalizing i with
  | nil => simp at h
  | cons a r ih =>
    cases i with
    | zero => exact ⟨rfl, rfl⟩
    | succ i =>
      have := ih (i := i) (by simpa using h)
      have e : fr2 (a :: r) = .int .i64 a.1 :: .int .i64 a.2 :: fr2 r := rfl
      rw [e, show (i + 1) * 2 = i * 2 + 1 + 1 by omega, show i * 2 + 1 + 1 + 1 = (i * 2 + 1) + 1 + 1 by omega]
      simp only [List.getElem?_cons_succ]
      exact this

theorem fr2_snoc (R : List Rn) (p : Rn) : fr2 (R ++ [p]) = fr2 R ++ [.int .i64 p.1, .int .i64 p.2] := by simp [fr2]
theorem fr2_app (R S : List Rn) : fr2 (R ++ S) = fr2 R ++ fr2 S := by simp [fr2]

theorem fr2_one (R : List Rn) : ∀ v ∈ fr2 R, v.oneCell' = true := by
  intro v hv
  unfold fr2 at hv
  obtain ⟨r, _, hr⟩ := List.mem_flatMap.1 hv
  simp only [List.mem_cons, List.not_mem_nil, or_false] at hr
  rcases hr with rfl | rfl <;> rfl

/-- A row of runs that is read. -/
def SR (w : World) (v : Value) (R : List Rn) : Prop :=
  ∃ ao cap, v = .slice ao R.length cap ∧ R.length ≤ cap ∧ cap ≤ maxLen ∧ (ao = none → cap = 0) ∧ ∀ x, ao = some x → ∀ i, i < R.length → w.cell? (x.add (i * 2)) = some (.int .i64 (R.getD i rn0).1) ∧ w.cell? (x.add (i * 2 + 1)) = some (.int .i64 (R.getD i rn0).2)

/-- A row of runs of one's own. -/
def OR (w : World) (base : Nat) (v : Value) (R : List Rn) : Prop := w.ownsRow base 139 2 v R.length (fr2 R)

theorem SR.below {w w' : World} {v : Value} {R : List Rn} (h : SR w v R) (hb : Below w.heap.size w w') : SR w' v R := by
  obtain ⟨ao, cap, rfl, h1, h2, h3, h4⟩ := h
  refine ⟨ao, cap, rfl, h1, h2, h3, fun x hx i hi => ?_⟩
  obtain ⟨c1, c2⟩ := h4 x hx i hi
  exact ⟨(hb.cell (World.block_lt_of_cell? w _ c1)).trans c1, (hb.cell (World.block_lt_of_cell? w _ c2)).trans c2⟩

theorem SR.drewN {w : World} {v : Value} {R : List Rn} (h : SR w v R) (n : Nat) : SR (w.drewN n) v R := h

theorem SR.open {w : World} {v : Value} {R : List Rn} (h : SR w v R) : ∃ ao cap, v = .slice ao R.length cap ∧ R.length ≤ cap ∧ cap ≤ 9223372036854775807 := by
  obtain ⟨ao, cap, rfl, h1, h2, _⟩ := h
  unfold maxLen at h2
  exact ⟨ao, cap, rfl, h1, by omega⟩

theorem SR.get {W w : World} {ao : Option Addr} {cap : Nat} {R : List Rn} (h : SR W (.slice ao R.length cap) R) (hb : Below W.heap.size W w) {k : Nat} (hk : k < R.length) : ∃ b o, ao = some ⟨b, o, none⟩ ∧ w.cell? ⟨b, o + k * 2, none⟩ = some (.int .i64 (R.getD k rn0).1) ∧ w.cell? ⟨b, o + k * 2 + 1, none⟩ = some (.int .i64 (R.getD k rn0).2) := by
  obtain ⟨ao', cap', he, h1, h2, h3, h4⟩ := h
  simp only [Value.slice.injEq] at he
  obtain ⟨rfl, -, rfl⟩ := he
  cases ao with
  | none => have := h3 rfl; omega
  | some x =>
    obtain ⟨b, o, rfl⟩ := addr_lit (h4 x rfl 0 (by omega)).1
    obtain ⟨c1, c2⟩ := h4 _ rfl k hk
    rw [Addr.add_lit] at c1 c2
    exact ⟨b, o, rfl, (hb.cell (World.block_lt_of_cell? W _ c1)).trans c1, (hb.cell (World.block_lt_of_cell? W _ c2)).trans c2⟩

theorem rown_move {w w' : World} {base : Nat} {e : TypeId} {size : Nat} {v : Value} {n : Nat} {xs : List Value} (h : w.ownsRow base e size v n xs) (hb : ∀ k, v.ownBlock = some k → w'.heap[k]? = w.heap[k]?) : w'.ownsRow base e size v n xs := by
  refine ⟨h.1, ?_⟩
  rcases h.2 with h2 | ⟨g, cap, cur, rfl, h1, h2, r⟩
  · exact .inl h2
  · exact .inr ⟨g, cap, cur, rfl, h1, (hb g rfl).trans h2, r⟩

theorem OR.lt {w : World} {base : Nat} {v : Value} {R : List Rn} (h : OR w base v R) : ∀ k, v.ownBlock = some k → base ≤ k ∧ k < w.heap.size := World.ownsRow.lt h
theorem OR.below {w w' : World} {base B : Nat} {v : Value} {R : List Rn} (h : OR w base v R) (hb : Below B w w') (hB : w.heap.size ≤ B) : OR w' base v R := rown_move h fun k hk => hb.block k (Nat.lt_of_lt_of_le (h.lt k hk).2 hB)
theorem OR.drewN {w : World} {base : Nat} {v : Value} {R : List Rn} (h : OR w base v R) (n : Nat) : OR (w.drewN n) base v R := rown_move h fun _ _ => rfl
theorem OR.alloc {w : World} {base : Nat} {v : Value} {R : List Rn} (h : OR w base v R) (o : Obj) : OR (w.alloc o) base v R := rown_move h fun k hk => Below.heap_alloc w o k (h.lt k hk).2
theorem OR.base {w : World} {base base' : Nat} {v : Value} {R : List Rn} (h : OR w base v R) (hb : base' ≤ base) : OR w base' v R := by
  refine ⟨h.1, ?_⟩
  rcases h.2 with h2 | ⟨g, cap, cur, rfl, h1, r⟩
  · exact .inl h2
  · exact .inr ⟨g, cap, cur, rfl, Nat.le_trans hb h1, r⟩

theorem OR.shape {w : World} {base : Nat} {v : Value} {R : List Rn} (h : OR w base v R) : ∃ a c, v = .slice a R.length c ∧ R.length ≤ c ∧ c ≤ 9223372036854775807 := by
  rcases h.2 with ⟨rfl, h0⟩ | ⟨g, cap, cur, rfl, _, _, h3, h4, _⟩
  · exact ⟨none, 0, by rw [h0], by omega, by omega⟩
  · unfold maxLen at h4; exact ⟨_, _, rfl, h3, by omega⟩

theorem OR.sr {w : World} {base : Nat} {v : Value} {R : List Rn} (h : OR w base v R) : SR w v R := by
  have hc := @World.ownsRow.cells _ _ _ _ _ _ _ h
  rcases h.2 with ⟨rfl, h0⟩ | ⟨g, cap, cur, rfl, _, _, h3, h4, _⟩
  · obtain rfl : R = [] := List.eq_nil_of_length_eq_zero h0
    exact ⟨none, 0, rfl, Nat.le_refl _, Nat.zero_le _, fun _ => rfl, fun x hx => by cases hx⟩
  · refine ⟨some ⟨g, 0, none⟩, cap, rfl, h3, h4, (fun e => by cases e), fun x hx i hi => ?_⟩
    cases hx
    obtain ⟨g1, g2⟩ := fr2_get hi
    exact ⟨hc (g := g) rfl _ _ g1, hc (g := g) rfl _ _ g2⟩

theorem OR.nil (w : World) (base : Nat) : OR w base (.slice none 0 0) [] := World.ownsRow_nil _ _ _ _

theorem infoRun : (Tryz.prog.info? 139).map (fun i => (i.zero, i.size, i.bytes)) = some (some (.agg #[.int .i64 0, .int .i64 0]), 2, 16) := by kernel_rfl

/-- One more run. -/
theorem wpRun {w : World} {ops : Array Oper} {rest : List Oper} {o : Oper} {a : Act} {Q : Exit → Act → World → Prop} (hgd : o.guard = none) (s x : Operand)
    (ho : o.op = .call { callee := .builtin .append, args := #[s, x], argTypes := #[158, 158] }) (base : Nat) (v : Value) (R : List Rn) (p1 p2 : Int) (hs : a.eval s = v) (hown : OR w base v R)
    (c : Nat) (hx : a.eval x = .slice (some ⟨w.heap.size, 0, none⟩) 1 c) (hn : R.length ≤ 100000000) (hbase : base ≤ w.heap.size)
    (h : ∀ v' w', OR w' base v' (R ++ [(p1, p2)]) → (w.alloc (.cells #[.int .i64 p1, .int .i64 p2] 139)).grownBy w' v.ownBlock → wpList Tryz.prog ops Q rest (a.put o.dst v') w') :
    wpList Tryz.prog ops Q (o :: rest) a (w.alloc (.cells #[.int .i64 p1, .int .i64 p2] 139)) := by
  obtain ⟨i0, hi0, hz0, hz1, hz2⟩ := info_parts infoRun
  refine wpList_append_own_at _ hgd s x 158 ho base 139 i0 _ 2 16 Tryz.underlying158 hi0 hz0 hz1 hz2 rfl (by omega) v R.length (fr2 R) hs (hown.alloc _) ⟨w.heap.size, 0, none⟩ 1 c [.int .i64 p1, .int .i64 p2] hx rfl (World.news_of_block (cs := #[.int .i64 p1, .int .i64 p2]) (t := 139) (fr := (0, 0)) (heap_alloc_new w _))
    (fun u hu => by
      simp only [List.mem_cons, List.not_mem_nil, or_false] at hu
      rcases hu with rfl | rfl <;> rfl) (by unfold maxLen; omega) (by omega) (by simp; omega) fun v' w' h1 h2 _ _ => h v' w' ?_ h2
  show World.ownsRow _ _ _ _ _ _ _
  rw [List.length_append, fr2_snoc]
  exact h1

theorem grow_run {w wr w3 : World} {u : Value} {R : List Rn} {o : Obj} {B : Nat} (hB : Below B w wr) (hw : B ≤ w.heap.size) (hO : OR wr B u R) (hg : (wr.alloc o).grownBy w3 u.ownBlock) : Below B w w3 :=
  (hB.alloc (Nat.le_trans hw hB.size) _).grown hg (by have := hB.size; simp; omega) (fun j hj => by have := hO.lt j hj; omega)

theorem grow_one7 {w wr w3 : World} {u v3 : Value} {D : List Int} {o : Obj} {B : Nat} (hB : Below B w wr) (hw : B ≤ w.heap.size) (hO : OI wr B u D) (hg : Grew (wr.alloc o) w3 u v3) : Below B w w3 :=
  (hB.alloc (Nat.le_trans hw hB.size) _).grown hg.by (by have := hB.size; simp; omega) (fun j hj => by have := hO.lt j hj; omega)
end Go.Proofs.YtpmgnpfpnkmmbaaGreatDoor

