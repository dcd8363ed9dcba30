import Derived.Test.YthngagciiidppaaGreatDoorGA00
import Derived.Handy
import Derived.Test.YthngagciiidppaaGreatDoorGA03
import Derived.Laws.Rows
import Derived.Laws.Tables
import Derived.Deep.DeepCutAuto
namespace Go.Proofs.YthngagciiidppaaGreatDoor
open Go.RowKit
set_option maxRecDepth 20000

theorem u32_and1 {v : Int} (h0 : 0 ≤ v) (h1 : v < 4294967296) : bits .and .u32 v 1 = v % 2 := by
  have := bits_mask .u32 32 (by decide) (fun n a b => by rw [IntKind.wrap_u32]; omega) 1 (by decide) v h0 (by omega)
  simpa using this

theorem u32_or1 {t b : Int} (h0 : 0 ≤ t) (h1 : t < 2147483648) (hb : b = 0 ∨ b = 1) : bits .or .u32 (t * 2) b = 2 * t + b := by
  rw [bits_join .u32 32 (by decide) (fun n a b => by rw [IntKind.wrap_u32]; omega) 1 (t * 2) b (by omega) (by omega) (by omega) (by omega) (by omega) (by omega)]
  omega

theorem num_any (n : Int) (w : World) : Calls Tryz.prog 7 #[.int .i64 n] w fun e w' => e = .returned (.int .i64 n) ∧ w' = w := by
  go_enter Tryz.func7, Tryz.ntmps7
  go_wp2
  go_ret
  exact ⟨rfl, rfl⟩

def Cnt (n : Int) : Prop := 0 ≤ n ∧ n ≤ 32
instance (n : Int) : Decidable (Cnt n) := by unfold Cnt; exact inferInstance
def Fit (v n : Int) : Prop := Cnt n ∧ v < 2 ^ n.toNat
instance (v n : Int) : Decidable (Fit v n) := by unfold Fit; exact inferInstance

theorem rev_snoc (v : Int) (k : Nat) : val (bts v (k + 1)).reverse = v / 2 ^ k % 2 + 2 * val (bts v k).reverse := by
  rw [bts_snoc, List.reverse_append]
  rfl

theorem rev_bound (v : Int) (k : Nat) : 0 ≤ val (bts v k).reverse ∧ val (bts v k).reverse < 2 ^ k := by
  have := val_bound (l := (bts v k).reverse) (fun b hb => bit_bts v k b (List.mem_reverse.1 hb))
  rwa [List.length_reverse, length_bts] at this

def revN (v n : Int) : Int := if Fit v n then val (bts v n.toNat).reverse else 0
def revE (v n : Int) : Int := if Fit v n then 0 else 1

theorem rev_take {v : Int} {n i : Nat} (h : i < n) : val ((bts v n).reverse.take (i + 1)) = val ((bts v n).reverse.take i) + v / 2 ^ (n - 1 - i) % 2 * 2 ^ i := by
  have hl : i < (bts v n).reverse.length := by rw [List.length_reverse, length_bts]; exact h
  rw [List.take_succ_eq_append_getElem hl, val_append]
  have e : (bts v n).reverse[i] = v / 2 ^ (n - 1 - i) % 2 := by
    rw [List.getElem_reverse]
    have hs : bts v n = bts v (n - 1 - i) ++ bts (v / 2 ^ (n - 1 - i)) (i + 1) := by rw [← bts_split]; congr 1; omega
    have hj : (bts v n)[(bts v n).length - 1 - i]? = some (v / 2 ^ (n - 1 - i) % 2) := by
      rw [hs, List.length_append, length_bts, length_bts, List.getElem?_append_right (by rw [length_bts]; omega), length_bts]
      rw [show n - 1 - i + (i + 1) - 1 - i - (n - 1 - i) = 0 by omega]
      rfl
    obtain ⟨_, hj⟩ := List.getElem?_eq_some_iff.1 hj
    exact hj
  rw [e, List.length_take, Nat.min_eq_left (by omega)]
  simp only [val]
  rw [Int.mul_comm]
  simp

end Go.Proofs.YthngagciiidppaaGreatDoor

namespace Go.Proofs.YthngagciiidppaaGreatDoor
open Go.RowKit Go.Maps
set_option maxRecDepth 20000

/-- An array of sixteen numbers. -/
def av (f : Nat → Int) : Array Value := Array.ofFn fun i : Fin 16 => Value.int .i64 (f i)

theorem av_size (f : Nat → Int) : (av f).size = 16 := by simp [av]

theorem av_get (f : Nat → Int) {i : Nat} (h : i < 16) : (av f)[i]? = some (.int .i64 (f i)) := by simp [av, h]

def upf (f : Nat → Int) (i : Nat) (x : Int) : Nat → Int := fun k => if k = i then x else f k

theorem av_set (f : Nat → Int) {i : Nat} (x : Int) (h : i < 16) : (av f).setIfInBounds i (.int .i64 x) = av (upf f i x) := by
  apply Array.ext_getElem?
  intro k
  rw [Array.getElem?_setIfInBounds]
  by_cases e : i = k
  · subst e; simp [av, h, upf]
  · rw [if_neg e]
    by_cases hk : k < 16
    · have : k ≠ i := fun h => e h.symm
      simp [av, hk, upf, this]
    · simp [av, hk]

theorem av_congr {f g : Nat → Int} (h : ∀ i, i < 16 → f i = g i) : av f = av g := by
  unfold av
  congr 1
  funext i
  rw [h i i.2]

theorem av_one (f : Nat → Int) : (av f).all (·.oneCell') = true := by
  rw [Array.all_eq_true]
  intro i hi
  simp [av, Value.oneCell']

theorem av_zero : av (fun _ => 0) = #[.int .i64 0, .int .i64 0, .int .i64 0, .int .i64 0, .int .i64 0, .int .i64 0, .int .i64 0, .int .i64 0, .int .i64 0, .int .i64 0, .int .i64 0, .int .i64 0, .int .i64 0, .int .i64 0, .int .i64 0, .int .i64 0] := rfl

theorem sizePer (f : Nat → Int) : (Tryz.prog.info? 133).map (·.size) = some (av f).size := by rw [av_size]; kernel_rfl

/-- A whole array out of its block, and into one. -/
theorem wpList_loadP {ops : Array Oper} {rest : List Oper} {a : Act} {w : World} {Q : Exit → Act → World → Prop} {dst : Option Tmp} {x : Operand} {ty : TypeId} {pos : String} {after : Array Edge} (g : Nat) (f : Nat → Int)
    (hx : a.eval x = .pointer (some ⟨g, 0, none⟩)) (hg : w.heap[g]? = some (.cells (av f) 133 (0, 0))) (h : wpList Tryz.prog ops Q rest (a.put dst (.agg (av f))) w) :
    wpList Tryz.prog ops Q ({ dst := dst, op := .load 133 x, type := ty, pos := pos, after := after, guard := none } :: rest) a w :=
  wpList_load_row rfl 133 x rfl g hx 133 (av f) (0, 0) _ hg Tryz.underlying133 rfl (sizePer f) h

theorem wpList_storeP {ops : Array Oper} {rest : List Oper} {a : Act} {w : World} {Q : Exit → Act → World → Prop} {dst : Option Tmp} {x y : Operand} {ty : TypeId} {pos : String} {after : Array Edge} (g : Nat) (f h0 : Nat → Int)
    (hx : a.eval x = .pointer (some ⟨g, 0, none⟩)) (hy : a.eval y = .agg (av f)) (hg : w.heap[g]? = some (.cells (av h0) 133 (0, 0))) (h : wpList Tryz.prog ops Q rest (a.put dst undef) (w.setRow g (av f))) :
    wpList Tryz.prog ops Q ({ dst := dst, op := .store 133 x y, type := ty, pos := pos, after := after, guard := none } :: rest) a w :=
  wpList_store_row rfl 133 x y rfl g (av f) hx hy 133 (av h0) hg (sizePer f) (by rw [av_size, av_size]) (av_one f) h

theorem ret_per {fn : Func} {R : Ending → World → Prop} {a : Act} {w : World} {p : Tmp} (hres : fn.results = #[.cell p 133]) (g : Nat) (f : Nat → Int) (hp : a.tmps.getD p undef = .pointer (some ⟨g, 0, none⟩))
    (hg : w.heap[g]? = some (.cells (av f) 133 (0, 0))) (hd : a.defers = []) (hR : R (.returned (.agg (av f))) w) : bodyPost Tryz.prog fn R .ret a w :=
  bodyPost_ret (results_cell_row hres a.tmps w g 133 (av f) (0, 0) _ hp hg Tryz.underlying133 rfl (sizePer f)) hd hR

theorem SI.get {W w : World} {ao : Option Addr} {cap : Nat} {l : List Int} (h : SI W (.slice ao l.length cap) l) (hb : Below W.heap.size W w) {k : Nat} (hk : k < l.length) : ∃ b o, ao = some ⟨b, o, none⟩ ∧ w.cell? ⟨b, o + k, none⟩ = some (.int .i64 (l.getD k 0)) := by
  obtain ⟨ao', cap', he, h1, h2, h3, h4⟩ := h
  simp only [Value.slice.injEq] at he
  obtain ⟨rfl, -, rfl⟩ := he
  cases ao with
  | none => have := h3 rfl; omega
  | some x =>
    obtain ⟨b, o, rfl⟩ := addr_lit (h4 x rfl 0 (by omega))
    have hc := h4 _ rfl k hk
    have hbl := World.block_lt_of_cell? _ _ hc
    rw [Addr.add_lit] at hc hbl
    exact ⟨b, o, rfl, (hb.cell hbl).trans hc⟩

theorem SI.open {w : World} {v : Value} {l : List Int} (h : SI w v l) : ∃ ao cap, v = .slice ao l.length cap ∧ l.length ≤ cap ∧ cap ≤ 9223372036854775807 := by
  obtain ⟨ao, cap, rfl, h1, h2, _⟩ := h
  unfold maxLen at h2
  exact ⟨ao, cap, rfl, h1, by omega⟩

/-- Two blocks of our own: an answer, an array. -/
def Two (w : World) (f g : Nat → Int) (wr : World) : Prop := wr.heap[w.heap.size]? = some (.cells (av f) 133 (0, 0)) ∧ wr.heap[w.heap.size + 1]? = some (.cells (av g) 133 (0, 0)) ∧ Below w.heap.size w wr

theorem two_start (w : World) (o p : Obj) (f g : Nat → Int) (ho : o = .cells (av f) 133 (0, 0)) (hp : p = .cells (av g) 133 (0, 0)) : Two w f g ((w.alloc o).alloc p) := by
  subst ho hp
  obtain ⟨h1, h2⟩ := heap_two w (.cells (av f) 133 (0, 0)) (.cells (av g) 133 (0, 0))
  exact ⟨h2, h1, ((Below.refl _ _).alloc (Nat.le_refl _) _).alloc (by simp) _⟩

theorem Two.cell {w wr : World} {f g : Nat → Int} (h : Two w f g wr) {n : Nat} (hn : n < 16) : wr.cell? ⟨w.heap.size + 1, n, none⟩ = some (.int .i64 (g n)) := by
  rw [cell_of_row _ _ _ _ _ _ h.2.1, av_get g hn]

theorem Two.cell0 {w wr : World} {f g : Nat → Int} (h : Two w f g wr) {n : Nat} (hn : n < 16) : wr.cell? ⟨w.heap.size, n, none⟩ = some (.int .i64 (f n)) := by
  rw [cell_of_row _ _ _ _ _ _ h.1, av_get f hn]

theorem Two.free {w wr : World} {f g : Nat → Int} (h : Two w f g wr) (n : Nat) : wr.frozen? ⟨w.heap.size + 1, n, none⟩ = false := frozen_of_row _ _ _ _ _ h.2.1
theorem Two.free0 {w wr : World} {f g : Nat → Int} (h : Two w f g wr) (n : Nat) : wr.frozen? ⟨w.heap.size, n, none⟩ = false := frozen_of_row _ _ _ _ _ h.1

theorem Two.set {w wr : World} {f g : Nat → Int} (h : Two w f g wr) {n : Nat} (hn : n < 16) (x : Int) : Two w f (upf g n x) (wr.setCell ⟨w.heap.size + 1, n, none⟩ (.int .i64 x)) := by
  refine ⟨(setCell_others wr _ n _ _ (by omega)).trans h.1, ?_, ?_⟩
  · rw [heap_setCell_same _ _ _ _ _ _ h.2.1, av_set g x hn]
  · exact h.2.2.setCell (by show _ ≤ w.heap.size + 1; omega) _

theorem Two.drewN {w wr : World} {f g : Nat → Int} (h : Two w f g wr) (n : Nat) : Two w f g (wr.drewN n) := ⟨h.1, h.2.1, below_drewN h.2.2 n⟩

theorem Two.over {w wr : World} {f g f' : Nat → Int} (h : Two w f g wr) : Two w f' g (wr.setRow w.heap.size (av f')) := by
  refine ⟨setRow_heap wr _ _ _ _ _ h.1, (setRow_other wr _ _ _ (by omega)).trans h.2.1, ?_⟩
  exact ⟨h.2.2.os, h.2.2.tape, h.2.2.output, by rw [size_setRow]; exact h.2.2.size, fun k hk => (setRow_other wr _ _ _ (by omega)).trans (h.2.2.block k hk)⟩

theorem cn_snoc {l : List Int} {k : Nat} (hk : k < l.length) (n : Nat) : cn (l.take (k + 1)) n = cn (l.take k) n + if n ≠ 0 ∧ l.getD k 0 = (n : Int) then 1 else 0 := by
  unfold cn
  by_cases h : n = 0
  · simp [h]
  · rw [if_neg h, if_neg h, count_take_succ l _ hk]
    by_cases e : l.getD k 0 = (n : Int)
    · rw [if_pos e, if_pos ⟨h, e⟩]
    · rw [if_neg e, if_neg (fun x => e x.2)]

theorem cn_step {l : List Int} {k n : Nat} (hk : k < l.length) (hn : l.getD k 0 = (n : Int)) :
    (n = 0 → (av fun m => (cn (l.take (k + 1)) m : Int)) = av fun m => (cn (l.take k) m : Int)) ∧ (n ≠ 0 → (av fun m => (cn (l.take (k + 1)) m : Int)) = av (upf (fun m => (cn (l.take k) m : Int)) n ((cn (l.take k) n : Int) + 1))) := by
  refine ⟨fun h => av_congr fun i _ => ?_, fun h => av_congr fun i _ => ?_⟩
  · rw [cn_snoc hk, if_neg (fun x => x.1 (by have := x.2; omega))]; rfl
  · rw [cn_snoc hk]
    unfold upf
    by_cases e : i = n
    · subst e
      rw [if_pos ⟨h, hn⟩, if_pos rfl]; omega
    · rw [if_neg (fun x => e (by have := x.2; omega)), if_neg e]; rfl

theorem count_any (v : Value) (l : List Int) (w : World) (h : SI w v l) (hl : Lens l) :
    Calls Tryz.prog 93 #[v] w fun e w' => e = .returned (.agg (av fun n => (cn l n : Int))) ∧ Below w.heap.size w w' := by
  have HS := hide h
  have HL := hide hl
  have h288 := hl.1
  obtain ⟨ao, cap, rfl, hlc, hcm⟩ := h.open
  clear h hl
  go_enter Tryz.func93, Tryz.ntmps93
  go_wp2
  go_loopw [8] (fun i wr => ∃ k : Nat, k ≤ l.length ∧ i = .int .i64 k ∧ Hid (Two w (fun _ => 0) (fun n => (cn (l.take k) n : Int)) wr)) (fun i _ => l.length - (intOf i).toNat)
  case atStart =>
    refine ⟨0, Nat.zero_le _, rfl, two_start w _ _ _ _ ?_ ?_⟩
    · rw [av_zero]
    · rw [show (fun n => (cn (l.take 0) n : Int)) = fun _ => 0 by funext n; simp [cn], av_zero]
  case round =>
    obtain ⟨k, hk, rfl, HT⟩ := hrel
    by_cases hlt : k < l.length
    · have hlt' : (k : Int) < (l.length : Int) := by omega
      obtain ⟨b, o, rfl, hc⟩ := HS.out.get HT.out.2.2 hlt
      obtain ⟨n, hn⟩ : ∃ n, n = ln l k := ⟨_, rfl⟩
      have HN : Hid (l.getD k 0 = (n : Int)) := by show _ = _; rw [hn]; exact (HL.out.ln k).1
      have hn15 : n < 16 := by rw [hn]; have := (HL.out.ln k).2; omega
      rw [HN.out] at hc
      clear hn
      have HX := hide (cn_step hlt HN.out)
      by_cases h0 : n = 0
      · subst h0
        go_wp2
        go_roundw
        case rel => exact ⟨k + 1, by omega, by go_num, by show Two _ _ _ _; exact ⟨HT.out.1, by rw [HX.out.1 rfl]; exact HT.out.2.1, HT.out.2.2⟩⟩
        case measure => simp [intOf]; omega
      · have h0' : (0 : Int) < n := by omega
        have hcn := HT.out.cell hn15
        have hfz := HT.out.free n
        have hle : cn (l.take k) n ≤ 288 := by
          have := cn_le (l.take k) n
          rw [List.length_take] at this; omega
        obtain ⟨c, HC⟩ : ∃ c : Nat, Hid (c = cn (l.take k) n) := ⟨_, rfl⟩
        rw [← HC.out] at hcn hle
        go_wp2
        go_roundw
        case rel =>
          refine ⟨k + 1, by omega, by go_num, ?_⟩
          have := HT.out.set hn15 ((c : Int) + 1)
          refine ⟨this.1, ?_, this.2.2⟩
          rw [HX.out.2 h0, ← HC.out]
          exact this.2.1
        case measure => simp [intOf]; omega
    · obtain rfl : k = l.length := by omega
      have hlt' : ¬ (l.length : Int) < (l.length : Int) := by omega
      have HT2 : Hid (Two w (fun _ => 0) (fun n => (cn l n : Int)) wr) := by have := HT.out; rwa [List.take_of_length_le (Nat.le_refl _)] at this
      clear HT
      have HA := hide HT2.out.2.1
      have HB := hide HT2.out.1
      have HO := hide (HT2.out.over (f' := fun n => (cn l n : Int)))
      clear HT2
      go_wp2_with (first | ((with_reducible refine wpList_loadP (w.heap.size + 1) _ ?hx HA.out ?_); case hx => rfl) | ((with_reducible refine wpList_storeP w.heap.size (fun n => (cn l n : Int)) _ ?hx ?hy HB.out ?_); (case hx => rfl); (case hy => rfl)))
      (try simp only [Exit.inBlock, Exit.then])
      refine ret_per (p := 2) ?h1 w.heap.size _ ?h2 HO.out.1 ?h3 ?_
      case h1 => rfl
      case h2 => rfl
      case h3 => rfl
      exact ⟨rfl, HO.out.2.2⟩

theorem fi_step {l : List Int} {k : Nat} : (av (upf (fun m => if m ≤ k then (fi l m : Int) else 0) (k + 1) (((fi l k : Int) + cn l k) * 2))) = av fun m => if m ≤ k + 1 then (fi l m : Int) else 0 := by
  refine av_congr fun i _ => ?_
  unfold upf
  by_cases e : i = k + 1
  · subst e
    rw [if_pos rfl, if_pos (Nat.le_refl _)]
    simp only [fi]; omega
  · rw [if_neg e]
    show (if i ≤ k then _ else _) = _
    by_cases h : i ≤ k
    · rw [if_pos h, if_pos (by omega)]
    · rw [if_neg h, if_neg (by omega)]

/-- Three blocks of our own. -/
def Tri (w : World) (h f g : Nat → Int) (wr : World) : Prop := wr.heap[w.heap.size]? = some (.cells (av h) 133 (0, 0)) ∧ wr.heap[w.heap.size + 1]? = some (.cells (av f) 133 (0, 0)) ∧ wr.heap[w.heap.size + 1 + 1]? = some (.cells (av g) 133 (0, 0)) ∧ Below w.heap.size w wr

theorem tri_start (w : World) (h f g : Nat → Int) : Tri w h f g (((w.alloc (.cells (av h) 133 (0, 0))).alloc (.cells (av f) 133 (0, 0))).alloc (.cells (av g) 133 (0, 0))) := by
  have h1 := heap_two (w.alloc (.cells (av h) 133 (0, 0))) (.cells (av f) 133 (0, 0)) (.cells (av g) 133 (0, 0))
  rw [size_alloc'] at h1
  refine ⟨?_, h1.2, h1.1, (((Below.refl _ _).alloc (Nat.le_refl _) _).alloc (by simp) _).alloc (by simp; omega) _⟩
  rw [Below.heap_alloc _ _ _ (by simp; omega), Below.heap_alloc _ _ _ (by simp)]
  exact heap_alloc_new w _

theorem Tri.cellh {w wr : World} {h f g : Nat → Int} (t : Tri w h f g wr) {n : Nat} (hn : n < 16) : wr.cell? ⟨w.heap.size, n, none⟩ = some (.int .i64 (h n)) := by
  rw [cell_of_row _ _ _ _ _ _ t.1, av_get h hn]

theorem Tri.cellg {w wr : World} {h f g : Nat → Int} (t : Tri w h f g wr) {n : Nat} (hn : n < 16) : wr.cell? ⟨w.heap.size + 1 + 1, n, none⟩ = some (.int .i64 (g n)) := by
  rw [cell_of_row _ _ _ _ _ _ t.2.2.1, av_get g hn]

theorem Tri.free {w wr : World} {h f g : Nat → Int} (t : Tri w h f g wr) (n : Nat) : wr.frozen? ⟨w.heap.size + 1 + 1, n, none⟩ = false := frozen_of_row _ _ _ _ _ t.2.2.1

theorem Tri.set {w wr : World} {h f g : Nat → Int} (t : Tri w h f g wr) {n : Nat} (hn : n < 16) (x : Int) : Tri w h f (upf g n x) (wr.setCell ⟨w.heap.size + 1 + 1, n, none⟩ (.int .i64 x)) := by
  refine ⟨(setCell_others wr _ n _ _ (by omega)).trans t.1, (setCell_others wr _ n _ _ (by omega)).trans t.2.1, ?_, ?_⟩
  · rw [heap_setCell_same _ _ _ _ _ _ t.2.2.1, av_set g x hn]
  · exact t.2.2.2.setCell (by show _ ≤ w.heap.size + 1 + 1; omega) _

theorem Tri.drewN {w wr : World} {h f g : Nat → Int} (t : Tri w h f g wr) (n : Nat) : Tri w h f g (wr.drewN n) := ⟨t.1, t.2.1, t.2.2.1, below_drewN t.2.2.2 n⟩

theorem Tri.over {w wr : World} {h f g f' : Nat → Int} (t : Tri w h f g wr) : Tri w h f' g (wr.setRow (w.heap.size + 1) (av f')) := by
  refine ⟨(setRow_other wr _ _ _ (by omega)).trans t.1, setRow_heap wr _ _ _ _ _ t.2.1, (setRow_other wr _ _ _ (by omega)).trans t.2.2.1, ?_⟩
  exact ⟨t.2.2.2.os, t.2.2.2.tape, t.2.2.2.output, by rw [size_setRow]; exact t.2.2.2.size, fun k hk => (setRow_other wr _ _ _ (by omega)).trans (t.2.2.2.block k hk)⟩

end Go.Proofs.YthngagciiidppaaGreatDoor

namespace Go.Proofs.YthngagciiidppaaGreatDoor
open Go.RowKit Go.Maps
set_option maxRecDepth 20000

theorem OI.get {w : World} {base : Nat} {v : Value} {l : List Int} (h : OI w base v l) {b : Nat} (hv : v.ownBlock = some b) {i : Nat} (hi : i < l.length) : w.cell? ⟨b, i, none⟩ = some (.int .i64 (l.getD i 0)) := by
  rcases h.2 with ⟨rfl, h0⟩ | ⟨g, cap, cur, rfl, h1, h2, h3, h4, h5, h6⟩
  · simp [Value.ownBlock] at hv
  · simp [Value.ownBlock] at hv
    subst hv
    have := World.ownsRow.cells h (g := g) rfl i (.int .i64 (l.getD i 0)) (by simp [hi])
    rwa [Addr.add_lit, Nat.zero_add] at this

theorem OI.put {w : World} {B : Nat} {v : Value} {l : List Int} (h : OI w B v l) {k : Nat} (hk : k < l.length) (m : Int) :
    ∃ g c, v = .slice (some ⟨g, 0, none⟩) l.length c ∧ (∃ u, w.cell? ⟨g, k, none⟩ = some u) ∧ w.frozen? ⟨g, k, none⟩ = false ∧ OI (w.setCell ⟨g, k, none⟩ (.int .i64 m)) B v (l.set k m) := by
  rcases h.2 with ⟨hv, h0⟩ | ⟨g, cap, cur, rfl, h1, h2, h3, h4, h5, h6⟩
  · omega
  · refine ⟨g, cap, rfl, ⟨_, h.get rfl hk⟩, frozen_of_row _ _ _ _ _ h2, ?_⟩
    unfold OI
    rw [List.length_set, List.map_set]
    refine ⟨by simp, .inr ⟨g, cap, _, rfl, h1, heap_setCell_same _ _ _ _ _ _ h2, h3, h4, by simpa using h5, ?_⟩⟩
    simp only [Array.toList_setIfInBounds, List.take_set]
    rw [h6]

theorem OI.form {w : World} {base : Nat} {v : Value} {l : List Int} (h : OI w base v l) (h0 : 0 < l.length) : ∃ g c, v = .slice (some ⟨g, 0, none⟩) l.length c ∧ base ≤ g ∧ g < w.heap.size ∧ l.length ≤ c ∧ c ≤ 9223372036854775807 := by
  rcases h.2 with ⟨hv, hz⟩ | ⟨g, cap, cur, rfl, h1, h2, h3, h4, h5, h6⟩
  · omega
  · unfold maxLen at h4
    exact ⟨g, cap, rfl, h1, (h.lt g rfl).2, h3, by omega⟩

/-- A list that lies in more than it says. -/
theorem OI.front {w : World} {base g c : Nat} {l r : List Int} (h : OI w base (.slice (some ⟨g, 0, none⟩) (l ++ r).length c) (l ++ r)) : SI w (.slice (some ⟨g, 0, none⟩) l.length c) l := by
  obtain ⟨ao', cap', he, h1, h2, h3, h4⟩ := h.sb
  simp only [Value.slice.injEq] at he
  obtain ⟨rfl, -, rfl⟩ := he
  rw [List.length_append] at h1
  refine ⟨_, c, rfl, by omega, h2, h3, fun x hx i hi => ?_⟩
  rw [h4 x hx i (by rw [List.length_append]; omega)]
  simp only [List.getD, List.getElem?_append_left hi]

end Go.Proofs.YthngagciiidppaaGreatDoor

namespace Go.Proofs.YthngagciiidppaaGreatDoor
open Go.RowKit Go.Maps
set_option maxRecDepth 20000
set_option linter.unusedVariables false

theorem mk_ints (n : Nat) (hn : n ≤ 1000) (w : World) : (Instr.makeSlice 36 (.int .i64 (n : Int)) (.int .i64 (n : Int))).run Tryz.prog w = .ok (.slice (some ⟨w.heap.size, 0, none⟩) n n) (w.alloc (.cells (List.replicate n (Value.int .i64 0)).toArray 3)) := by
  obtain ⟨i0, hi, hz0, hz1, hz2⟩ := info_parts infoInt
  have hr := run_make (P := Tryz.prog) w 36 3 i0 _ Tryz.underlying36 hi hz0 .i64 .i64 (n : Int) (n : Int) (by omega) (by omega) (by rw [hz2]; omega) (by omega)
  have e : (madeCells (Value.int .i64 0).cells n) = (List.replicate n (Value.int .i64 0)).toArray := by
    apply Array.ext'
    exact madeInts n
  rw [hr, hz1, Int.toNat_natCast, Nat.mul_one, e]

/-- The two lists of counts and the boxes that hold them. -/
structure Cb (w : World) (B r g g1 g2 : Nat) (l d : List Int) : Prop where
  box : w.heap[g]? = some (.cells #[.slice (some ⟨g1, 0, none⟩) 286 286, .slice (some ⟨g2, 0, none⟩) 30 30] 38 (0, 0))
  res : w.heap[r]? = some (.cells #[.slice none 0 0, .slice none 0 0] 38 (0, 0))
  lit : OI w B (.slice (some ⟨g1, 0, none⟩) 286 286) l
  dist : OI w B (.slice (some ⟨g2, 0, none⟩) 30 30) d
  ll : l.length = 286
  dl : d.length = 30
  ne : g1 ≠ g2 ∧ g ≠ g1 ∧ g ≠ g2 ∧ r ≠ g ∧ r ≠ g1 ∧ r ≠ g2
  up : B ≤ g ∧ B ≤ r ∧ B ≤ g1 ∧ B ≤ g2

theorem lt_of_block {w : World} {k : Nat} {o : Obj} (h : w.heap[k]? = some o) : k < w.heap.size := (Array.getElem?_eq_some_iff.1 h).1

theorem Cb.low {w w' : World} {B r g g1 g2 : Nat} {l d : List Int} (h : Cb w B r g g1 g2 l d) (hb : Below w.heap.size w w') : Cb w' B r g g1 g2 l d :=
  ⟨(hb.block g (lt_of_block h.box)).trans h.box, (hb.block r (lt_of_block h.res)).trans h.res, h.lit.move fun k hk => hb.block k (h.lit.lt k hk).2, h.dist.move fun k hk => hb.block k (h.dist.lt k hk).2, h.ll, h.dl, h.ne, h.up⟩

theorem Cb.atl {w : World} {B r g g1 g2 : Nat} {l d : List Int} (h : Cb w B r g g1 g2 l d) {i : Nat} (hi : i < 286) : w.cell? ⟨g1, i, none⟩ = some (.int .i64 (l.getD i 0)) ∧ w.frozen? ⟨g1, i, none⟩ = false := by
  have hl : i < l.length := by rw [h.ll]; exact hi
  obtain ⟨g', c', e, ⟨u, hu⟩, hf, _⟩ := h.lit.put hl 0
  simp only [Value.slice.injEq, Option.some.injEq, Addr.mk.injEq] at e
  obtain ⟨⟨rfl, -⟩, -⟩ := e
  exact ⟨h.lit.get rfl hl, hf⟩

theorem Cb.atd {w : World} {B r g g1 g2 : Nat} {l d : List Int} (h : Cb w B r g g1 g2 l d) {i : Nat} (hi : i < 30) : w.cell? ⟨g2, i, none⟩ = some (.int .i64 (d.getD i 0)) ∧ w.frozen? ⟨g2, i, none⟩ = false := by
  have hl : i < d.length := by rw [h.dl]; exact hi
  obtain ⟨g', c', e, ⟨u, hu⟩, hf, _⟩ := h.dist.put hl 0
  simp only [Value.slice.injEq, Option.some.injEq, Addr.mk.injEq] at e
  obtain ⟨⟨rfl, -⟩, -⟩ := e
  exact ⟨h.dist.get rfl hl, hf⟩

theorem Cb.putl {w : World} {B r g g1 g2 : Nat} {l d : List Int} (h : Cb w B r g g1 g2 l d) {i : Nat} (hi : i < 286) (x : Int) : Cb (w.setCell ⟨g1, i, none⟩ (.int .i64 x)) B r g g1 g2 (l.set i x) d := by
  have hl : i < l.length := by rw [h.ll]; exact hi
  obtain ⟨g', c', e, _, _, ho⟩ := h.lit.put hl x
  simp only [Value.slice.injEq, Option.some.injEq, Addr.mk.injEq] at e
  obtain ⟨⟨rfl, -⟩, -⟩ := e
  have hn := h.ne
  refine ⟨?_, ?_, ho, h.dist.move fun k hk => ?_, by simp [h.ll], h.dl, hn, h.up⟩
  · rw [setCell_others _ _ _ _ _ hn.2.1]; exact h.box
  · rw [setCell_others _ _ _ _ _ hn.2.2.2.2.1]; exact h.res
  · simp [Value.ownBlock] at hk
    subst hk
    exact setCell_others _ _ _ _ _ (fun e => hn.1 e.symm)

theorem Cb.putd {w : World} {B r g g1 g2 : Nat} {l d : List Int} (h : Cb w B r g g1 g2 l d) {i : Nat} (hi : i < 30) (x : Int) : Cb (w.setCell ⟨g2, i, none⟩ (.int .i64 x)) B r g g1 g2 l (d.set i x) := by
  have hl : i < d.length := by rw [h.dl]; exact hi
  obtain ⟨g', c', e, _, _, ho⟩ := h.dist.put hl x
  simp only [Value.slice.injEq, Option.some.injEq, Addr.mk.injEq] at e
  obtain ⟨⟨rfl, -⟩, -⟩ := e
  have hn := h.ne
  refine ⟨?_, ?_, h.lit.move fun k hk => ?_, ho, h.ll, by simp [h.dl], hn, h.up⟩
  · rw [setCell_others _ _ _ _ _ hn.2.2.1]; exact h.box
  · rw [setCell_others _ _ _ _ _ hn.2.2.2.2.2]; exact h.res
  · simp [Value.ownBlock] at hk
    subst hk
    exact setCell_others _ _ _ _ _ hn.1

theorem Cb.cells {w : World} {B r g g1 g2 : Nat} {l d : List Int} (h : Cb w B r g g1 g2 l d) : w.cell? ⟨g, 0, none⟩ = some (.slice (some ⟨g1, 0, none⟩) 286 286) ∧ w.cell? ⟨g, 1, none⟩ = some (.slice (some ⟨g2, 0, none⟩) 30 30) := by
  constructor <;> (unfold World.cell?; rw [h.box]; rfl)

theorem Cb.start {w : World} {B r g g1 g2 : Nat} (h1 : w.heap[g]? = some (.cells #[.slice (some ⟨g1, 0, none⟩) 286 286, .slice (some ⟨g2, 0, none⟩) 30 30] 38 (0, 0))) (h2 : w.heap[r]? = some (.cells #[.slice none 0 0, .slice none 0 0] 38 (0, 0)))
    (h3 : w.heap[g1]? = some (.cells (List.replicate 286 (Value.int .i64 0)).toArray 3 (0, 0))) (h4 : w.heap[g2]? = some (.cells (List.replicate 30 (Value.int .i64 0)).toArray 3 (0, 0))) (h5 : g1 ≠ g2 ∧ g ≠ g1 ∧ g ≠ g2 ∧ r ≠ g ∧ r ≠ g1 ∧ r ≠ g2) (h6 : B ≤ g ∧ B ≤ r ∧ B ≤ g1 ∧ B ≤ g2) : Cb w B r g g1 g2 (List.replicate 286 0) (List.replicate 30 0) :=
  ⟨h1, h2, ⟨by simp, .inr ⟨g1, 286, _, rfl, h6.2.2.1, h3, by simp, by unfold maxLen; omega, by simp, by simp⟩⟩, ⟨by simp, .inr ⟨g2, 30, _, rfl, h6.2.2.2, h4, by simp, by unfold maxLen; omega, by simp, by simp⟩⟩, by simp, by simp, h5, h6⟩

theorem alloc_at (w : World) (o : Obj) (k : Nat) : (w.alloc o).heap[k]? = if k = w.heap.size then some o else w.heap[k]? := by
  by_cases h : k = w.heap.size
  · subst h; rw [if_pos rfl]; exact heap_alloc_new w o
  · rw [if_neg h]
    by_cases hl : k < w.heap.size
    · exact heap_alloc_old w o hl
    · rw [Array.getElem?_eq_none (by simp; omega), Array.getElem?_eq_none (by omega)]

theorem alloc4 (w : World) (a b c d : Obj) : ((((w.alloc a).alloc b).alloc c).alloc d).drew.heap[w.heap.size]? = some a ∧ ((((w.alloc a).alloc b).alloc c).alloc d).drew.heap[w.heap.size + 1]? = some b ∧
    ((((w.alloc a).alloc b).alloc c).alloc d).drew.heap[w.heap.size + 1 + 1]? = some c ∧ ((((w.alloc a).alloc b).alloc c).alloc d).drew.heap[w.heap.size + 1 + 1 + 1]? = some d := by
  have s1 : (w.alloc a).heap.size = w.heap.size + 1 := by simp
  have s2 : ((w.alloc a).alloc b).heap.size = w.heap.size + 1 + 1 := by simp
  have s3 : (((w.alloc a).alloc b).alloc c).heap.size = w.heap.size + 1 + 1 + 1 := by simp
  have e : ((((w.alloc a).alloc b).alloc c).alloc d).drew.heap = ((((w.alloc a).alloc b).alloc c).alloc d).heap := rfl
  rw [e]
  refine ⟨?_, ?_, ?_, ?_⟩
  · rw [alloc_at, if_neg (by omega), alloc_at, if_neg (by omega), alloc_at, if_neg (by omega), alloc_at, if_pos rfl]
  · rw [alloc_at, if_neg (by omega), alloc_at, if_neg (by omega), alloc_at, if_pos (by omega)]
  · rw [alloc_at, if_neg (by omega), alloc_at, if_pos (by omega)]
  · rw [alloc_at, if_pos (by omega)]

theorem bd_zeros (n : Nat) : Bd (List.replicate n 0) 0 := fun i => by
  have : (List.replicate n (0 : Int)).getD i 0 = 0 := by rw [List.getD_eq_getElem?_getD, List.getElem?_replicate]; split <;> rfl
  rw [this]
  omega

theorem snd_take {R : List Tk} {k : Nat} (hk : k < R.length) : R.take (k + 1) = R.take k ++ [R.getD k tk0] := tk_snoc hk

set_option maxHeartbeats 1000000 in
theorem ocount_any (v : Value) (R : List Tk) (w : World) (h : SK w v R) (hs : ∀ t ∈ R, Snd t ∧ Bt t) (hn : R.length ≤ 16777216) (T : Ltab w ∧ Dtab w) :
    Calls Tryz.prog 10 #[v] w fun e w' => ∃ g1 g2, e = .returned (.agg #[.slice (some ⟨g1, 0, none⟩) 286 286, .slice (some ⟨g2, 0, none⟩) 30 30]) ∧ OI w' w.heap.size (.slice (some ⟨g1, 0, none⟩) 286 286) ((cls (List.replicate 286 0) R).set 256 1) ∧ OI w' w.heap.size (.slice (some ⟨g2, 0, none⟩) 30 30) (cdt (List.replicate 30 0) R) ∧ g1 ≠ g2 ∧ Below w.heap.size w w' := by
  have HS := hide h
  have HSN := hide hs
  have HT := hide T
  obtain ⟨ao, cap, rfl, hlc, hcm⟩ := h.open
  have hmx : R.length ≤ 9223372036854775807 := by omega
  have m1 : ∀ w : World, (Instr.makeSlice 36 (.int .i64 286) (.int .i64 286)).run Tryz.prog w = .ok (.slice (some ⟨w.heap.size, 0, none⟩) 286 286) (w.alloc (.cells (List.replicate 286 (Value.int .i64 0)).toArray 3)) := fun w => mk_ints 286 (by omega) w
  have m2 : ∀ w : World, (Instr.makeSlice 36 (.int .i64 30) (.int .i64 30)).run Tryz.prog w = .ok (.slice (some ⟨w.heap.size, 0, none⟩) 30 30) (w.alloc (.cells (List.replicate 30 (Value.int .i64 0)).toArray 3)) := fun w => mk_ints 30 (by omega) w
  obtain ⟨Z1, HZ1⟩ : ∃ Z, Hid ((List.replicate 286 (Value.int .i64 0)).toArray = Z) := ⟨_, rfl⟩
  obtain ⟨Z2, HZ2⟩ : ∃ Z, Hid ((List.replicate 30 (Value.int .i64 0)).toArray = Z) := ⟨_, rfl⟩
  rw [HZ1.out] at m1
  rw [HZ2.out] at m2
  have HBA : Hid (∀ a b c d : Obj, Below w.heap.size w ((((w.alloc a).alloc b).alloc c).alloc d).drew) := fun a b c d => by
    have h1 := (Below.refl w.heap.size w).alloc (Nat.le_refl _) a
    have h2 := h1.alloc h1.size b
    have h3 := h2.alloc h2.size c
    exact below_drewN (h3.alloc h3.size d) 1
  clear h hs T
  go_enter Tryz.func10, Tryz.ntmps10
  go_wp2
  go_cut [3] (fun s3 wx => ∃ g g1 g2, s3 = .pointer (some ⟨g, 0, none⟩) ∧ Hid (Cb wx w.heap.size w.heap.size g g1 g2 (List.replicate 286 0) (List.replicate 30 0)) ∧ Hid (Below w.heap.size w wx))
  case first =>
    go_region
    all_goals
      go_wp2_with fail
      go_meet
      first
        | exact ⟨_, w.heap.size + 1, w.heap.size + 1 + 1, rfl, hide (Cb.start (alloc4 w _ _ _ _).2.2.2 (alloc4 w _ _ _ _).1 (HZ1.out ▸ (alloc4 w _ _ _ _).2.1) (HZ2.out ▸ (alloc4 w _ _ _ _).2.2.1) (by omega) (by omega)), hide (HBA.out _ _ _ _)⟩
        | exact ⟨_, w.heap.size + 1, w.heap.size + 1 + 1 + 1, rfl, hide (Cb.start (alloc4 w _ _ _ _).2.2.1 (alloc4 w _ _ _ _).1 (HZ1.out ▸ (alloc4 w _ _ _ _).2.1) (HZ2.out ▸ (alloc4 w _ _ _ _).2.2.2) (by omega) (by omega)), hide (HBA.out _ _ _ _)⟩
        | exact ⟨_, w.heap.size + 1 + 1, w.heap.size + 1, rfl, hide (Cb.start (alloc4 w _ _ _ _).2.2.2 (alloc4 w _ _ _ _).1 (HZ1.out ▸ (alloc4 w _ _ _ _).2.2.1) (HZ2.out ▸ (alloc4 w _ _ _ _).2.1) (by omega) (by omega)), hide (HBA.out _ _ _ _)⟩
        | exact ⟨_, w.heap.size + 1 + 1 + 1, w.heap.size + 1, rfl, hide (Cb.start (alloc4 w _ _ _ _).2.2.1 (alloc4 w _ _ _ _).1 (HZ1.out ▸ (alloc4 w _ _ _ _).2.2.2) (HZ2.out ▸ (alloc4 w _ _ _ _).2.1) (by omega) (by omega)), hide (HBA.out _ _ _ _)⟩
        | exact ⟨_, w.heap.size + 1 + 1, w.heap.size + 1 + 1 + 1, rfl, hide (Cb.start (alloc4 w _ _ _ _).2.1 (alloc4 w _ _ _ _).1 (HZ1.out ▸ (alloc4 w _ _ _ _).2.2.1) (HZ2.out ▸ (alloc4 w _ _ _ _).2.2.2) (by omega) (by omega)), hide (HBA.out _ _ _ _)⟩
        | exact ⟨_, w.heap.size + 1 + 1 + 1, w.heap.size + 1 + 1, rfl, hide (Cb.start (alloc4 w _ _ _ _).2.1 (alloc4 w _ _ _ _).1 (HZ1.out ▸ (alloc4 w _ _ _ _).2.2.2) (HZ2.out ▸ (alloc4 w _ _ _ _).2.2.1) (by omega) (by omega)), hide (HBA.out _ _ _ _)⟩
  case rest =>
  obtain ⟨g, g1, g2, rfl, HC0, HB0⟩ := hcut
  clear m1 m2 HZ1 HZ2 HBA
  go_wp2
  go_loopw [19] (fun t wr => ∃ k : Nat, k ≤ R.length ∧ t = .int .i64 (k : Int) ∧ Hid (Cb wr w.heap.size w.heap.size g g1 g2 (cls (List.replicate 286 0) (R.take k)) (cdt (List.replicate 30 0) (R.take k))) ∧ Hid (Below w.heap.size w wr)) (fun t _ => R.length - (intOf t).toNat)
  case atStart => exact ⟨0, Nat.zero_le _, rfl, HC0, HB0⟩
  case round =>
    obtain ⟨k, hk, rfl, HC, HB⟩ := hrel
    clear HC0 HB0
    by_cases hlt : k < R.length
    · have hlt' : (k : Int) < (R.length : Int) := by omega
      obtain ⟨b, o, rfl, c0, c1, c2⟩ := HS.out.get HB.out hlt
      have hsn : Snd (R.getD k tk0) ∧ Bt (R.getD k tk0) := HSN.out _ (by rw [List.getD_eq_getElem?_getD, List.getElem?_eq_getElem hlt]; exact List.getElem_mem hlt)
      have HLI := hide (litS_in hsn.1 hsn.2)
      have HDI := hide (dsy_in hsn.1)
      have HSP := hide (fun h => lsy_spec (x := (R.getD k tk0).1.toNat) h)
      have HDP := hide (fun h => dsy_spec (x := (R.getD k tk0).2.1.toNat) h)
      have HNL : Hid (cls (List.replicate 286 0) (R.take (k + 1)) = inc (cls (List.replicate 286 0) (R.take k)) (litS (R.getD k tk0))) := by show _ = _; rw [snd_take hlt, cls_snoc]; rfl
      have HND : Hid (cdt (List.replicate 30 0) (R.take (k + 1)) = cd (cdt (List.replicate 30 0) (R.take k)) (R.getD k tk0)) := by show _ = _; rw [snd_take hlt, cdt_snoc]
      have HBL := hide (bd_cls (R.take k) _ 0 (bd_zeros 286))
      have HBD := hide (bd_cdt (R.take k) _ 0 (bd_zeros 30))
      rw [List.length_take, Nat.min_eq_left (Nat.le_of_lt hlt), Nat.zero_add] at HBL HBD
      obtain ⟨L, hL⟩ : ∃ L, cls (List.replicate 286 0) (R.take k) = L := ⟨_, rfl⟩
      obtain ⟨D, hD⟩ : ∃ D, cdt (List.replicate 30 0) (R.take k) = D := ⟨_, rfl⟩
      rw [hL] at HNL HC HBL
      rw [hD] at HND HC HBD
      obtain ⟨⟨t1, t2, t3⟩, ht⟩ : ∃ t, R.getD k tk0 = t := ⟨_, rfl⟩
      rw [ht] at c0 c1 c2 hsn HLI HDI HSP HDP HNL HND
      simp only at c0 c1 c2
      obtain ⟨w6, hw6⟩ : ∃ w6, wr.alloc (.cells #[.int .i64 t1, .int .i64 t2, .int .u8 t3] 56) = w6 := ⟨_, rfl⟩
      have HB6 : Hid (Below wr.heap.size wr w6) := by rw [← hw6]; exact (Below.refl _ _).alloc (Nat.le_refl _) _
      have HN6 : Hid (w6.heap[wr.heap.size]? = some (.cells #[.int .i64 t1, .int .i64 t2, .int .u8 t3] 56 (0, 0))) := by rw [← hw6]; exact heap_alloc_new wr _
      have hx6 : wr.heap.size < w6.heap.size := by rw [← hw6]; simp
      have HC6 := hide (HC.out.low HB6.out)
      have HBW6 := hide (HB.out.trans (HB6.out.mono HB.out.size))
      clear ht hL hD HC HB HB6
      obtain ⟨q, hq⟩ : ∃ q, wr.heap.size = q := ⟨_, rfl⟩
      rw [hq] at HN6 hx6
      by_cases h0 : t1 = 0
      · have b0 : 0 ≤ t3 := hsn.2.1
        have b1 : t3 < 256 := hsn.2.2
        obtain ⟨n3, rfl⟩ := Int.eq_ofNat_of_zero_le b0
        have e1 : litS (t1, t2, (n3 : Int)) = n3 := by unfold litS; rw [if_pos h0]; simp
        have e2 : cd D (t1, t2, (n3 : Int)) = D := by unfold cd; rw [if_pos h0]
        rw [e1] at HNL HLI
        rw [e2] at HND
        have hi3 : n3 < 286 := by omega
        have y0 : w6.cell? ⟨q, 0, none⟩ = some (.int .i64 t1) := by unfold World.cell?; rw [HN6.out]; rfl
        have y2 : w6.cell? ⟨q, 2, none⟩ = some (.int .u8 (n3 : Int)) := by unfold World.cell?; rw [HN6.out]; rfl
        rw [h0] at y0
        obtain ⟨p0, p1⟩ := HC6.out.cells
        obtain ⟨x0, x1⟩ := HC6.out.atl hi3
        have hbl := HBL.out n3
        have HP := hide (HC6.out.putl hi3 (L.getD n3 0 + 1))
        have HBP : Hid (Below w.heap.size w (w6.setCell ⟨g1, n3, none⟩ (.int .i64 (L.getD n3 0 + 1)))) := HBW6.out.setCell (p := ⟨g1, n3, none⟩) HC6.out.up.2.2.1 _
        obtain ⟨x, hx⟩ : ∃ x, L.getD n3 0 = x := ⟨_, rfl⟩
        have e3 : inc L n3 = L.set n3 (x + 1) := by unfold inc; rw [hx]
        rw [e3] at HNL
        rw [hx] at x0 hbl HP HBP
        have hwr : wrap64 (x + 1) = x + 1 := by unfold wrap64; omega
        have n3' : (n3 : Int) < 286 := by omega
        clear hsn HDI HSP HDP HLI HBL HBD hx e1 e2 e3 HN6 HC6 HBW6 h0
        go_wp2
        go_roundw
        case rel => exact ⟨k + 1, by omega, by go_num, by rw [HNL.out, HND.out]; exact HP, HBP⟩
        case measure => simp [intOf]; omega
      · have hq3 : 3 ≤ t1 ∧ t1 ≤ 258 ∧ 1 ≤ t2 ∧ t2 ≤ 32768 ∧ t3 = 0 := by
          have := hsn.1
          unfold Snd at this
          rw [if_neg h0] at this
          exact this
        obtain ⟨b1, b2, b3, b4, b5⟩ := hq3
        obtain ⟨x1, rfl⟩ := Int.eq_ofNat_of_zero_le (show 0 ≤ t1 by omega)
        obtain ⟨x2, rfl⟩ := Int.eq_ofNat_of_zero_le (show 0 ≤ t2 by omega)
        have e1 : litS ((x1 : Int), (x2 : Int), t3) = 257 + lsy x1 := by unfold litS; rw [if_neg h0]; simp
        have e2 : cd D ((x1 : Int), (x2 : Int), t3) = inc D (dsy x2) := by unfold cd; rw [if_neg h0]; simp
        have e4 : dsy x2 < 30 := by have := HDI.out h0; simpa using this
        have hls : Lsy x1 (lsy x1) := by have := HSP.out (by simp; omega); simpa using this
        have hds : Dsy x2 (dsy x2) := by have := HDP.out (by simp; omega); simpa using this
        have hi1 : 257 + lsy x1 < 286 := by have := HLI.out.1; rw [e1] at this; exact this
        rw [e1] at HNL
        rw [e2] at HND
        have HT6 : Hid (Ltab w6 ∧ Dtab w6) := ⟨HT.out.1.low HBW6.out, HT.out.2.low HBW6.out⟩
        have HLS := hide (lsymbol_any x1 (lsy x1) w6 HT6.out.1 hls (by omega) (by omega))
        have HDS := hide (fun w7 (hb : Below w6.heap.size w6 w7) => dsymbol_any x2 (dsy x2) w7 (HT6.out.2.low hb) hds (by omega) (by omega))
        obtain ⟨A, hA⟩ : ∃ A, 257 + lsy x1 = A := ⟨_, rfl⟩
        obtain ⟨F1, hF1⟩ : ∃ A, LF (lsy x1) = A := ⟨_, rfl⟩
        obtain ⟨F2, hF2⟩ : ∃ A, x1 - LB (lsy x1) = A := ⟨_, rfl⟩
        obtain ⟨F3, hF3⟩ : ∃ A, DF (dsy x2) = A := ⟨_, rfl⟩
        obtain ⟨F4, hF4⟩ : ∃ A, x2 - DB (dsy x2) = A := ⟨_, rfl⟩
        obtain ⟨B, hB⟩ : ∃ A, dsy x2 = A := ⟨_, rfl⟩
        rw [hA, hF1, hF2] at HLS
        rw [hA] at HNL hi1
        rw [hF3, hF4, hB] at HDS
        rw [hB] at HND e4
        have y0 : w6.cell? ⟨q, 0, none⟩ = some (.int .i64 (x1 : Int)) := by unfold World.cell?; rw [HN6.out]; rfl
        have y1 : w6.cell? ⟨q, 1, none⟩ = some (.int .i64 (x2 : Int)) := by unfold World.cell?; rw [HN6.out]; rfl
        have z0 : ((x1 : Int) == 0) = false := by simp; omega
        clear hsn HDI HSP HDP HLI e1 e2 hls hds hA hF1 hF2 hF3 hF4 hB HT6 h0 b1 b2 b3 b4 b5
        go_wp2_with fail
        refine HLS.out.mono ?_
        rintro e w7 ⟨rfl, b7⟩
        have HDS7 := hide (HDS.out w7 b7)
        have HC7 := hide (HC6.out.low b7)
        have HBW7 := hide (HBW6.out.trans (b7.mono HBW6.out.size))
        have z1 : w7.cell? ⟨q, 1, none⟩ = some (.int .i64 (x2 : Int)) := (b7.cell (by exact hx6)).trans y1
        clear HDS HLS HC6 HBW6 y0 y1 b7 HN6 hx6
        go_wp2_with fail
        refine HDS7.out.mono ?_
        rintro e w8 ⟨rfl, b8⟩
        have HC8 := hide (HC7.out.low b8)
        have HBW8 := hide (HBW7.out.trans (b8.mono HBW7.out.size))
        clear HDS7 HC7 HBW7 z1 b8
        have hbl := HBL.out A
        have hbd := HBD.out B
        have HC9 := hide (HC8.out.putl hi1 (L.getD A 0 + 1))
        have HC10 := hide (HC9.out.putd e4 (D.getD B 0 + 1))
        have HB10 : Hid (Below w.heap.size w ((w8.setCell ⟨g1, A, none⟩ (.int .i64 (L.getD A 0 + 1))).setCell ⟨g2, B, none⟩ (.int .i64 (D.getD B 0 + 1)))) := (HBW8.out.setCell (p := ⟨g1, A, none⟩) HC8.out.up.2.2.1 _).setCell (p := ⟨g2, B, none⟩) HC8.out.up.2.2.2 _
        obtain ⟨p0, p1⟩ := HC8.out.cells
        obtain ⟨u0, u1⟩ := HC8.out.atl hi1
        obtain ⟨p3, p4⟩ := HC9.out.cells
        obtain ⟨u3, u4⟩ := HC9.out.atd e4
        obtain ⟨x, hx⟩ : ∃ x, L.getD A 0 = x := ⟨_, rfl⟩
        obtain ⟨y, hy⟩ : ∃ x, D.getD B 0 = x := ⟨_, rfl⟩
        have e3 : inc L A = L.set A (x + 1) := by unfold inc; rw [hx]
        have e5 : inc D B = D.set B (y + 1) := by unfold inc; rw [hy]
        rw [e3] at HNL
        rw [e5] at HND
        rw [hx] at u0 hbl HC10 HB10 p3 p4 u3 u4
        rw [hy] at u3 hbd HC10 HB10
        have hw1 : wrap64 (x + 1) = x + 1 := by unfold wrap64; omega
        have hw2 : wrap64 (y + 1) = y + 1 := by unfold wrap64; omega
        have A' : (A : Int) < 286 := by omega
        have B' : (B : Int) < 30 := by omega
        clear hx hy HC8 HC9 HBW8 HBL HBD e3 e5
        go_wp2
        go_roundw
        case rel => exact ⟨k + 1, by omega, by go_num, by rw [HNL.out, HND.out]; exact HC10, HB10⟩
        case measure => simp [intOf]; omega
    · obtain rfl : k = R.length := by omega
      have hlt' : ¬ (R.length : Int) < (R.length : Int) := by omega
      rw [List.take_of_length_le (Nat.le_refl _)] at HC
      have hup := HC.out.up
      have hne := HC.out.ne
      have HC1 := hide (HC.out.putl (i := 256) (by omega) 1)
      obtain ⟨p0, p1⟩ := HC.out.cells
      obtain ⟨u0, u1⟩ := HC.out.atl (i := 256) (by omega)
      obtain ⟨p2, p3⟩ := HC1.out.cells
      obtain ⟨w9, hw9⟩ : ∃ w9, wr.setCell ⟨g1, 256, none⟩ (.int .i64 1) = w9 := ⟨_, rfl⟩
      have HB9 : Hid (Below w.heap.size w w9) := by rw [← hw9]; exact HB.out.setCell (p := ⟨g1, 256, none⟩) hup.2.2.1 _
      rw [hw9] at HC1 p2 p3
      have r0 : w9.cell? ⟨w.heap.size, 0, none⟩ = some (.slice none 0 0) := by unfold World.cell?; rw [HC1.out.res]; rfl
      have r1 : w9.cell? ⟨w.heap.size, 1, none⟩ = some (.slice none 0 0) := by unfold World.cell?; rw [HC1.out.res]; rfl
      have r2 : w9.frozen? ⟨w.heap.size, 0, none⟩ = false := frozen_of_row _ _ _ _ _ HC1.out.res
      have r3 : w9.frozen? ⟨w.heap.size, 1, none⟩ = false := frozen_of_row _ _ _ _ _ HC1.out.res
      obtain ⟨wf, hwf⟩ : ∃ wf, (w9.setCell ⟨w.heap.size, 0, none⟩ (.slice (some ⟨g1, 0, none⟩) 286 286)).setCell ⟨w.heap.size, 1, none⟩ (.slice (some ⟨g2, 0, none⟩) 30 30) = wf := ⟨_, rfl⟩
      have hoth : ∀ k, k ≠ w.heap.size → wf.heap[k]? = w9.heap[k]? := fun k hk => by rw [← hwf, setCell_others _ _ _ _ _ hk, setCell_others _ _ _ _ _ hk]
      have HBF : Hid (Below w.heap.size w wf) := by rw [← hwf]; exact (HB9.out.setCell (p := ⟨w.heap.size, 0, none⟩) (Nat.le_refl _) _).setCell (p := ⟨w.heap.size, 1, none⟩) (Nat.le_refl _) _
      have HLF : Hid (OI wf w.heap.size (.slice (some ⟨g1, 0, none⟩) 286 286) ((cls (List.replicate 286 0) R).set 256 1)) := HC1.out.lit.move fun k hk => hoth k (by simp [Value.ownBlock] at hk; omega)
      have HDF : Hid (OI wf w.heap.size (.slice (some ⟨g2, 0, none⟩) 30 30) (cdt (List.replicate 30 0) R)) := HC1.out.dist.move fun k hk => hoth k (by simp [Value.ownBlock] at hk; omega)
      have hfb : wf.heap[w.heap.size]? = some (.cells #[.slice (some ⟨g1, 0, none⟩) 286 286, .slice (some ⟨g2, 0, none⟩) 30 30] 38 (0, 0)) := by
        have h1 := heap_setCell_same w9 w.heap.size 0 _ _ (.slice (some ⟨g1, 0, none⟩) 286 286) HC1.out.res
        have h2 := heap_setCell_same _ w.heap.size 1 _ _ (.slice (some ⟨g2, 0, none⟩) 30 30) h1
        rw [hwf] at h2
        simpa using h2
      have f0 : wf.cell? ⟨w.heap.size, 0, none⟩ = some (.slice (some ⟨g1, 0, none⟩) 286 286) := by unfold World.cell?; rw [hfb]; rfl
      have f1 : wf.cell? ⟨w.heap.size, 1, none⟩ = some (.slice (some ⟨g2, 0, none⟩) 30 30) := by unfold World.cell?; rw [hfb]; rfl
      have HNE : Hid (g1 ≠ g2) := hne.1
      clear hoth hfb HC HC1 HB9 hup hne
      go_wp2
      refine bodyPost_ret (v := .agg #[.slice (some ⟨g1, 0, none⟩) 286 286, .slice (some ⟨g2, 0, none⟩) 30 30]) (by simp [results, Tryz.results10, go_sem, f0, f1]) rfl ?_
      exact ⟨_, _, rfl, HLF.out, HDF.out, HNE.out, HBF.out⟩
end Go.Proofs.YthngagciiidppaaGreatDoor

