import Derived.Test.YtippppcdongahaaDoorG00Ints
import Derived.Handy
import Derived.Laws.Rows
import Derived.Laws.Tables
import Derived.Test.YtippppcdongahaaDoorRows
namespace Go.Proofs.YtippppcdongahaaDoor
open Go.RowKit
set_option maxRecDepth 20000

theorem u32_and1 {v : Int} (h0 : 0 ≤ v) (h1 : v < 4294967296) : bits .and .u32 v 1 = v % 2 := by
  have := bits_mask .u32 32 (by decide) (fun n a b => by rw [IntKind.wrap_u32]; omega) 1 (by decide) v h0 (by omega)
  simpa using this

def Cnt (n : Int) : Prop := 0 ≤ n ∧ n ≤ 32
instance (n : Int) : Decidable (Cnt n) := by unfold Cnt; exact inferInstance
def Fit (v n : Int) : Prop := Cnt n ∧ v < 2 ^ n.toNat
instance (v n : Int) : Decidable (Fit v n) := by unfold Fit; exact inferInstance

theorem countable_any (n : Int) (w : World) : Calls Tryd.prog 46 #[.int .i64 n] w fun e w' => e = .returned (.bool (decide (Cnt n))) ∧ w' = w := by
  by_cases h0 : 0 ≤ n
  · by_cases h1 : n ≤ 32
    · have HD : Hid (decide (Cnt n) = true) := decide_eq_true ⟨h0, h1⟩
      go_enter Tryd.func46, Tryd.ntmps46
      go_wp2
      go_ret
      rw [HD.out]
      exact ⟨rfl, rfl⟩
    · have HD : Hid (decide (Cnt n) = false) := decide_eq_false fun h => h1 h.2
      go_enter Tryd.func46, Tryd.ntmps46
      go_wp2
      go_ret
      rw [HD.out]
      exact ⟨rfl, rfl⟩
  · have HD : Hid (decide (Cnt n) = false) := decide_eq_false fun h => h0 h.1
    go_enter Tryd.func46, Tryd.ntmps46
    go_wp2
    go_ret
    rw [HD.out]
    exact ⟨rfl, rfl⟩

theorem rev_snoc (v : Int) (k : Nat) : val (bts v (k + 1)).reverse = v / 2 ^ k % 2 + 2 * val (bts v k).reverse := by
  rw [bts_snoc, List.reverse_append]
  rfl

theorem rev_bound (v : Int) (k : Nat) : 0 ≤ val (bts v k).reverse ∧ val (bts v k).reverse < 2 ^ k := by
  have := val_bound (l := (bts v k).reverse) (fun b hb => bit_bts v k b (List.mem_reverse.1 hb))
  rwa [List.length_reverse, length_bts] at this

end Go.Proofs.YtippppcdongahaaDoor

namespace Go.Proofs.YtippppcdongahaaDoor
open Go.RowKit Go.Maps
set_option maxRecDepth 20000

def av (f : Nat → Int) : Array Value := Array.ofFn fun i : Fin 16 => Value.int .i64 (f i)

theorem av_size (f : Nat → Int) : (av f).size = 16 := by simp [av]

theorem av_get (f : Nat → Int) {i : Nat} (h : i < 16) : (av f)[i]? = some (.int .i64 (f i)) := by simp [av, h]

def upf (f : Nat → Int) (i : Nat) (x : Int) : Nat → Int := fun k => if k = i then x else f k

theorem av_set (f : Nat → Int) {i : Nat} (x : Int) (h : i < 16) : (av f).setIfInBounds i (.int .i64 x) = av (upf f i x) := by
  apply Array.ext_getElem?
  intro k
  rw [Array.getElem?_setIfInBounds]
  by_cases e : i = k
  · subst e; simp [av, h, upf]
  · rw [if_neg e]
    by_cases hk : k < 16
    · have : k ≠ i := fun h => e h.symm
      simp [av, hk, upf, this]
    · simp [av, hk]

theorem av_congr {f g : Nat → Int} (h : ∀ i, i < 16 → f i = g i) : av f = av g := by
  unfold av
  congr 1
  funext i
  rw [h i i.2]

theorem av_one (f : Nat → Int) : (av f).all (·.oneCell') = true := by
  rw [Array.all_eq_true]
  intro i hi
  simp [av, Value.oneCell']

theorem av_zero : av (fun _ => 0) = #[.int .i64 0, .int .i64 0, .int .i64 0, .int .i64 0, .int .i64 0, .int .i64 0, .int .i64 0, .int .i64 0, .int .i64 0, .int .i64 0, .int .i64 0, .int .i64 0, .int .i64 0, .int .i64 0, .int .i64 0, .int .i64 0] := rfl

theorem sizePer (f : Nat → Int) : (Tryd.prog.info? 102).map (·.size) = some (av f).size := by rw [av_size]; kernel_rfl

theorem wpList_loadP {ops : Array Oper} {rest : List Oper} {a : Act} {w : World} {Q : Exit → Act → World → Prop} {dst : Option Tmp} {x : Operand} {ty : TypeId} {pos : String} {after : Array Edge} (g : Nat) (f : Nat → Int)
    (hx : a.eval x = .pointer (some ⟨g, 0, none⟩)) (hg : w.heap[g]? = some (.cells (av f) 102 (0, 0))) (h : wpList Tryd.prog ops Q rest (a.put dst (.agg (av f))) w) :
    wpList Tryd.prog ops Q ({ dst := dst, op := .load 102 x, type := ty, pos := pos, after := after, guard := none } :: rest) a w :=
  wpList_load_row rfl 102 x rfl g hx 102 (av f) (0, 0) _ hg Tryd.underlying102 rfl (sizePer f) h

theorem wpList_storeP {ops : Array Oper} {rest : List Oper} {a : Act} {w : World} {Q : Exit → Act → World → Prop} {dst : Option Tmp} {x y : Operand} {ty : TypeId} {pos : String} {after : Array Edge} (g : Nat) (f h0 : Nat → Int)
    (hx : a.eval x = .pointer (some ⟨g, 0, none⟩)) (hy : a.eval y = .agg (av f)) (hg : w.heap[g]? = some (.cells (av h0) 102 (0, 0))) (h : wpList Tryd.prog ops Q rest (a.put dst undef) (w.setRow g (av f))) :
    wpList Tryd.prog ops Q ({ dst := dst, op := .store 102 x y, type := ty, pos := pos, after := after, guard := none } :: rest) a w :=
  wpList_store_row rfl 102 x y rfl g (av f) hx hy 102 (av h0) hg (sizePer f) (by rw [av_size, av_size]) (av_one f) h

theorem ret_per {fn : Func} {R : Ending → World → Prop} {a : Act} {w : World} {p : Tmp} (hres : fn.results = #[.cell p 102]) (g : Nat) (f : Nat → Int) (hp : a.tmps.getD p undef = .pointer (some ⟨g, 0, none⟩))
    (hg : w.heap[g]? = some (.cells (av f) 102 (0, 0))) (hd : a.defers = []) (hR : R (.returned (.agg (av f))) w) : bodyPost Tryd.prog fn R .ret a w :=
  bodyPost_ret (results_cell_row hres a.tmps w g 102 (av f) (0, 0) _ hp hg Tryd.underlying102 rfl (sizePer f)) hd hR

theorem SI.get {W w : World} {ao : Option Addr} {cap : Nat} {l : List Int} (h : SI W (.slice ao l.length cap) l) (hb : Below W.heap.size W w) {k : Nat} (hk : k < l.length) : ∃ b o, ao = some ⟨b, o, none⟩ ∧ w.cell? ⟨b, o + k, none⟩ = some (.int .i64 (l.getD k 0)) := by
  obtain ⟨ao', cap', he, h1, h2, h3, h4⟩ := h
  simp only [Value.slice.injEq] at he
  obtain ⟨rfl, -, rfl⟩ := he
  cases ao with
  | none => have := h3 rfl; omega
  | some x =>
    obtain ⟨b, o, rfl⟩ := addr_lit (h4 x rfl 0 (by omega))
    have hc := h4 _ rfl k hk
    have hbl := World.block_lt_of_cell? _ _ hc
    rw [Addr.add_lit] at hc hbl
    exact ⟨b, o, rfl, (hb.cell hbl).trans hc⟩

theorem SI.open {w : World} {v : Value} {l : List Int} (h : SI w v l) : ∃ ao cap, v = .slice ao l.length cap ∧ l.length ≤ cap ∧ cap ≤ 9223372036854775807 := by
  obtain ⟨ao, cap, rfl, h1, h2, _⟩ := h
  unfold maxLen at h2
  exact ⟨ao, cap, rfl, h1, by omega⟩

def Two (w : World) (f g : Nat → Int) (wr : World) : Prop := wr.heap[w.heap.size]? = some (.cells (av f) 102 (0, 0)) ∧ wr.heap[w.heap.size + 1]? = some (.cells (av g) 102 (0, 0)) ∧ Below w.heap.size w wr

theorem two_start (w : World) (o p : Obj) (f g : Nat → Int) (ho : o = .cells (av f) 102 (0, 0)) (hp : p = .cells (av g) 102 (0, 0)) : Two w f g ((w.alloc o).alloc p) := by
  subst ho hp
  obtain ⟨h1, h2⟩ := heap_two w (.cells (av f) 102 (0, 0)) (.cells (av g) 102 (0, 0))
  exact ⟨h2, h1, ((Below.refl _ _).alloc (Nat.le_refl _) _).alloc (by simp) _⟩

theorem Two.cell {w wr : World} {f g : Nat → Int} (h : Two w f g wr) {n : Nat} (hn : n < 16) : wr.cell? ⟨w.heap.size + 1, n, none⟩ = some (.int .i64 (g n)) := by
  rw [cell_of_row _ _ _ _ _ _ h.2.1, av_get g hn]

theorem Two.free {w wr : World} {f g : Nat → Int} (h : Two w f g wr) (n : Nat) : wr.frozen? ⟨w.heap.size + 1, n, none⟩ = false := frozen_of_row _ _ _ _ _ h.2.1
theorem Two.free0 {w wr : World} {f g : Nat → Int} (h : Two w f g wr) (n : Nat) : wr.frozen? ⟨w.heap.size, n, none⟩ = false := frozen_of_row _ _ _ _ _ h.1

theorem Two.set {w wr : World} {f g : Nat → Int} (h : Two w f g wr) {n : Nat} (hn : n < 16) (x : Int) : Two w f (upf g n x) (wr.setCell ⟨w.heap.size + 1, n, none⟩ (.int .i64 x)) := by
  refine ⟨(setCell_others wr _ n _ _ (by omega)).trans h.1, ?_, ?_⟩
  · rw [heap_setCell_same _ _ _ _ _ _ h.2.1, av_set g x hn]
  · exact h.2.2.setCell (by show _ ≤ w.heap.size + 1; omega) _

theorem Two.drewN {w wr : World} {f g : Nat → Int} (h : Two w f g wr) (n : Nat) : Two w f g (wr.drewN n) := ⟨h.1, h.2.1, below_drewN h.2.2 n⟩

theorem Two.over {w wr : World} {f g f' : Nat → Int} (h : Two w f g wr) : Two w f' g (wr.setRow w.heap.size (av f')) := by
  refine ⟨setRow_heap wr _ _ _ _ _ h.1, (setRow_other wr _ _ _ (by omega)).trans h.2.1, ?_⟩
  exact ⟨h.2.2.os, h.2.2.tape, h.2.2.output, by rw [size_setRow]; exact h.2.2.size, fun k hk => (setRow_other wr _ _ _ (by omega)).trans (h.2.2.block k hk)⟩

theorem cn_snoc {l : List Int} {k : Nat} (hk : k < l.length) (n : Nat) : cn (l.take (k + 1)) n = cn (l.take k) n + if n ≠ 0 ∧ l.getD k 0 = (n : Int) then 1 else 0 := by
  unfold cn
  by_cases h : n = 0
  · simp [h]
  · rw [if_neg h, if_neg h, count_take_succ l _ hk]
    by_cases e : l.getD k 0 = (n : Int)
    · rw [if_pos e, if_pos ⟨h, e⟩]
    · rw [if_neg e, if_neg (fun x => e x.2)]

theorem cn_step {l : List Int} {k n : Nat} (hk : k < l.length) (hn : l.getD k 0 = (n : Int)) :
    (n = 0 → (av fun m => (cn (l.take (k + 1)) m : Int)) = av fun m => (cn (l.take k) m : Int)) ∧ (n ≠ 0 → (av fun m => (cn (l.take (k + 1)) m : Int)) = av (upf (fun m => (cn (l.take k) m : Int)) n ((cn (l.take k) n : Int) + 1))) := by
  refine ⟨fun h => av_congr fun i _ => ?_, fun h => av_congr fun i _ => ?_⟩
  · rw [cn_snoc hk, if_neg (fun x => x.1 (by have := x.2; omega))]; rfl
  · rw [cn_snoc hk]
    unfold upf
    by_cases e : i = n
    · subst e
      rw [if_pos ⟨h, hn⟩, if_pos rfl]; omega
    · rw [if_neg (fun x => e (by have := x.2; omega)), if_neg e]; rfl

theorem count_any (v : Value) (l : List Int) (w : World) (h : SI w v l) (hl : Lens l) :
    Calls Tryd.prog 63 #[v] w fun e w' => e = .returned (.agg (av fun n => (cn l n : Int))) ∧ Below w.heap.size w w' := by
  have HS := hide h
  have HL := hide hl
  have h288 := hl.1
  obtain ⟨ao, cap, rfl, hlc, hcm⟩ := h.open
  clear h hl
  go_enter Tryd.func63, Tryd.ntmps63
  go_wp2
  go_loopw [8] (fun i wr => ∃ k : Nat, k ≤ l.length ∧ i = .int .i64 k ∧ Hid (Two w (fun _ => 0) (fun n => (cn (l.take k) n : Int)) wr)) (fun i _ => l.length - (intOf i).toNat)
  case atStart =>
    refine ⟨0, Nat.zero_le _, rfl, two_start w _ _ _ _ ?_ ?_⟩
    · rw [av_zero]
    · rw [show (fun n => (cn (l.take 0) n : Int)) = fun _ => 0 by funext n; simp [cn], av_zero]
  case round =>
    obtain ⟨k, hk, rfl, HT⟩ := hrel
    by_cases hlt : k < l.length
    · have hlt' : (k : Int) < (l.length : Int) := by omega
      obtain ⟨b, o, rfl, hc⟩ := HS.out.get HT.out.2.2 hlt
      obtain ⟨n, hn⟩ : ∃ n, n = ln l k := ⟨_, rfl⟩
      have HN : Hid (l.getD k 0 = (n : Int)) := by show _ = _; rw [hn]; exact (HL.out.ln k).1
      have hn15 : n < 16 := by rw [hn]; have := (HL.out.ln k).2; omega
      rw [HN.out] at hc
      clear hn
      have HX := hide (cn_step hlt HN.out)
      by_cases h0 : n = 0
      · subst h0
        go_wp2
        go_roundw
        case rel => exact ⟨k + 1, by omega, by go_num, by show Two _ _ _ _; exact ⟨HT.out.1, by rw [HX.out.1 rfl]; exact HT.out.2.1, HT.out.2.2⟩⟩
        case measure => simp [intOf]; omega
      · have h0' : (0 : Int) < n := by omega
        have hcn := HT.out.cell hn15
        have hfz := HT.out.free n
        have hle : cn (l.take k) n ≤ 288 := by
          have := cn_le (l.take k) n
          rw [List.length_take] at this; omega
        obtain ⟨c, HC⟩ : ∃ c : Nat, Hid (c = cn (l.take k) n) := ⟨_, rfl⟩
        rw [← HC.out] at hcn hle
        go_wp2
        go_roundw
        case rel =>
          refine ⟨k + 1, by omega, by go_num, ?_⟩
          have := HT.out.set hn15 ((c : Int) + 1)
          refine ⟨this.1, ?_, this.2.2⟩
          rw [HX.out.2 h0, ← HC.out]
          exact this.2.1
        case measure => simp [intOf]; omega
    · obtain rfl : k = l.length := by omega
      have hlt' : ¬ (l.length : Int) < (l.length : Int) := by omega
      have HT2 : Hid (Two w (fun _ => 0) (fun n => (cn l n : Int)) wr) := by have := HT.out; rwa [List.take_of_length_le (Nat.le_refl _)] at this
      clear HT
      have HA := hide HT2.out.2.1
      have HB := hide HT2.out.1
      have HO := hide (HT2.out.over (f' := fun n => (cn l n : Int)))
      clear HT2
      go_wp2_with (first | ((with_reducible refine wpList_loadP (w.heap.size + 1) _ ?hx HA.out ?_); case hx => rfl) | ((with_reducible refine wpList_storeP w.heap.size (fun n => (cn l n : Int)) _ ?hx ?hy HB.out ?_); (case hx => rfl); (case hy => rfl)))
      (try simp only [Exit.inBlock, Exit.then])
      refine ret_per (p := 2) ?h1 w.heap.size _ ?h2 HO.out.1 ?h3 ?_
      case h1 => rfl
      case h2 => rfl
      case h3 => rfl
      exact ⟨rfl, HO.out.2.2⟩

theorem fi_step {l : List Int} {k : Nat} : (av (upf (fun m => if m ≤ k then (fi l m : Int) else 0) (k + 1) (((fi l k : Int) + cn l k) * 2))) = av fun m => if m ≤ k + 1 then (fi l m : Int) else 0 := by
  refine av_congr fun i _ => ?_
  unfold upf
  by_cases e : i = k + 1
  · subst e
    rw [if_pos rfl, if_pos (Nat.le_refl _)]
    simp only [fi]; omega
  · rw [if_neg e]
    show (if i ≤ k then _ else _) = _
    by_cases h : i ≤ k
    · rw [if_pos h, if_pos (by omega)]
    · rw [if_neg h, if_neg (by omega)]

def Tri (w : World) (h f g : Nat → Int) (wr : World) : Prop := wr.heap[w.heap.size]? = some (.cells (av h) 102 (0, 0)) ∧ wr.heap[w.heap.size + 1]? = some (.cells (av f) 102 (0, 0)) ∧ wr.heap[w.heap.size + 1 + 1]? = some (.cells (av g) 102 (0, 0)) ∧ Below w.heap.size w wr

theorem tri_start (w : World) (h f g : Nat → Int) : Tri w h f g (((w.alloc (.cells (av h) 102 (0, 0))).alloc (.cells (av f) 102 (0, 0))).alloc (.cells (av g) 102 (0, 0))) := by
  have h1 := heap_two (w.alloc (.cells (av h) 102 (0, 0))) (.cells (av f) 102 (0, 0)) (.cells (av g) 102 (0, 0))
  rw [size_alloc'] at h1
  refine ⟨?_, h1.2, h1.1, (((Below.refl _ _).alloc (Nat.le_refl _) _).alloc (by simp) _).alloc (by simp; omega) _⟩
  rw [Below.heap_alloc _ _ _ (by simp; omega), Below.heap_alloc _ _ _ (by simp)]
  exact heap_alloc_new w _

theorem Tri.cellh {w wr : World} {h f g : Nat → Int} (t : Tri w h f g wr) {n : Nat} (hn : n < 16) : wr.cell? ⟨w.heap.size, n, none⟩ = some (.int .i64 (h n)) := by
  rw [cell_of_row _ _ _ _ _ _ t.1, av_get h hn]

theorem Tri.cellg {w wr : World} {h f g : Nat → Int} (t : Tri w h f g wr) {n : Nat} (hn : n < 16) : wr.cell? ⟨w.heap.size + 1 + 1, n, none⟩ = some (.int .i64 (g n)) := by
  rw [cell_of_row _ _ _ _ _ _ t.2.2.1, av_get g hn]

theorem Tri.free {w wr : World} {h f g : Nat → Int} (t : Tri w h f g wr) (n : Nat) : wr.frozen? ⟨w.heap.size + 1 + 1, n, none⟩ = false := frozen_of_row _ _ _ _ _ t.2.2.1

theorem Tri.set {w wr : World} {h f g : Nat → Int} (t : Tri w h f g wr) {n : Nat} (hn : n < 16) (x : Int) : Tri w h f (upf g n x) (wr.setCell ⟨w.heap.size + 1 + 1, n, none⟩ (.int .i64 x)) := by
  refine ⟨(setCell_others wr _ n _ _ (by omega)).trans t.1, (setCell_others wr _ n _ _ (by omega)).trans t.2.1, ?_, ?_⟩
  · rw [heap_setCell_same _ _ _ _ _ _ t.2.2.1, av_set g x hn]
  · exact t.2.2.2.setCell (by show _ ≤ w.heap.size + 1 + 1; omega) _

theorem Tri.drewN {w wr : World} {h f g : Nat → Int} (t : Tri w h f g wr) (n : Nat) : Tri w h f g (wr.drewN n) := ⟨t.1, t.2.1, t.2.2.1, below_drewN t.2.2.2 n⟩

theorem Tri.over {w wr : World} {h f g f' : Nat → Int} (t : Tri w h f g wr) : Tri w h f' g (wr.setRow (w.heap.size + 1) (av f')) := by
  refine ⟨(setRow_other wr _ _ _ (by omega)).trans t.1, setRow_heap wr _ _ _ _ _ t.2.1, (setRow_other wr _ _ _ (by omega)).trans t.2.2.1, ?_⟩
  exact ⟨t.2.2.2.os, t.2.2.2.tape, t.2.2.2.output, by rw [size_setRow]; exact t.2.2.2.size, fun k hk => (setRow_other wr _ _ _ (by omega)).trans (t.2.2.2.block k hk)⟩

theorem firsts_any (l : List Int) (w : World) (hl : Lens l) :
    Calls Tryd.prog 66 #[.agg (av fun n => (cn l n : Int))] w fun e w' => e = .returned (.agg (av fun n => (fi l n : Int))) ∧ Below w.heap.size w w' := by
  have HL := hide hl
  clear hl
  obtain ⟨A, HA⟩ : ∃ A, Hid (A = av fun n => (cn l n : Int)) := ⟨_, rfl⟩
  rw [← HA.out]
  go_enter Tryd.func66, Tryd.ntmps66
  go_wp2
  go_loopw [4] (fun i wr => ∃ k : Nat, k ≤ 15 ∧ i = .int .i64 ((k : Int) + 1) ∧ Hid (Tri w (fun n => (cn l n : Int)) (fun _ => 0) (fun m => if m ≤ k then (fi l m : Int) else 0) wr)) (fun i _ => 16 - (intOf i).toNat)
  case atStart =>
    refine ⟨0, Nat.zero_le _, rfl, ?_⟩
    have := tri_start w (fun n => (cn l n : Int)) (fun _ => 0) (fun _ => 0)
    rw [← HA.out, av_zero] at this
    rw [show (fun m => if m ≤ 0 then (fi l m : Int) else 0) = fun _ => 0 by funext m; by_cases e : m ≤ 0; (obtain rfl : m = 0 := by omega); rfl; rw [if_neg e]]
    exact ⟨this.1, by rw [av_zero]; exact this.2.1, by rw [av_zero]; exact this.2.2.1, this.2.2.2⟩
  case round =>
    obtain ⟨k, hk, rfl, HT⟩ := hrel
    by_cases hlt : k < 15
    · have hlt' : (k : Int) + 1 ≤ 15 := by omega
      have c1 := HT.out.cellg (n := k) (by omega)
      have c2 := HT.out.cellh (n := k) (by omega)
      have hfz := HT.out.free (k + 1)
      have c3 := HT.out.cellg (n := k + 1) (by omega)
      rw [if_pos (Nat.le_refl _)] at c1
      rw [if_neg (by omega)] at c3
      have b1 := fi_top HL.out (n := k) (by omega)
      have b2 : cn l k ≤ 288 := by have := cn_le l k; have := HL.out.1; omega
      obtain ⟨x, HX⟩ : ∃ x : Nat, Hid (x = fi l k) := ⟨_, rfl⟩
      obtain ⟨y, HY⟩ : ∃ y : Nat, Hid (y = cn l k) := ⟨_, rfl⟩
      rw [← HX.out] at c1 b1
      rw [← HY.out] at c2 b2
      have e1 : (k : Int) + 1 - 1 = k := by omega
      have HR : Hid (∀ q, Tri w (fun n => (cn l n : Int)) (fun _ => 0) (fun m => if m ≤ k + 1 then (fi l m : Int) else 0) ((wr.drewN q).setCell ⟨w.heap.size + 1 + 1, k + 1, none⟩ (.int .i64 (((x : Int) + y) * 2)))) := fun q => by
        have := (HT.out.drewN q).set (n := k + 1) (by omega) (((x : Int) + y) * 2)
        refine ⟨this.1, this.2.1, ?_, this.2.2.2⟩
        rw [← fi_step, ← HX.out, ← HY.out]
        exact this.2.2.1
      clear HT
      go_wp2
      go_region
      go_wp2
      go_roundw
      case rel => exact ⟨k + 1, by omega, by go_num, HR.out 1⟩
      case measure => simp [intOf]; omega
    · obtain rfl : k = 15 := by omega
      have hlt' : ¬ ((15 : Nat) : Int) + 1 ≤ 15 := by omega
      have HT2 : Hid (Tri w (fun n => (cn l n : Int)) (fun _ => 0) (fun n => (fi l n : Int)) wr) := by
        have := HT.out
        refine ⟨this.1, this.2.1, ?_, this.2.2.2⟩
        rw [this.2.2.1, av_congr fun i hi => if_pos (show i ≤ 15 by omega)]
      clear HT
      have HC := hide HT2.out.2.2.1
      have HB := hide HT2.out.2.1
      have HO := hide (HT2.out.over (f' := fun n => (fi l n : Int)))
      clear HT2
      go_wp2_with (first | ((with_reducible refine wpList_loadP (w.heap.size + 1 + 1) _ ?hx HC.out ?_); case hx => rfl) | ((with_reducible refine wpList_storeP (w.heap.size + 1) (fun n => (fi l n : Int)) _ ?hx ?hy HB.out ?_); (case hx => rfl); (case hy => rfl)))
      (try simp only [Exit.inBlock, Exit.then])
      refine ret_per (p := 2) ?h1 (w.heap.size + 1) _ ?h2 HO.out.2.1 ?h3 ?_
      case h1 => rfl
      case h2 => rfl
      case h3 => rfl
      exact ⟨rfl, HO.out.2.2.2⟩
end Go.Proofs.YtippppcdongahaaDoor

namespace Go.Proofs.YtippppcdongahaaDoor
open Go.RowKit Go.Maps
set_option maxRecDepth 20000

theorem OI.get {w : World} {base : Nat} {v : Value} {l : List Int} (h : OI w base v l) {b : Nat} (hv : v.ownBlock = some b) {i : Nat} (hi : i < l.length) : w.cell? ⟨b, i, none⟩ = some (.int .i64 (l.getD i 0)) := by
  rcases h.2 with ⟨rfl, h0⟩ | ⟨g, cap, cur, rfl, h1, h2, h3, h4, h5, h6⟩
  · simp [Value.ownBlock] at hv
  · simp [Value.ownBlock] at hv
    subst hv
    have := World.ownsRow.cells h (g := g) rfl i (.int .i64 (l.getD i 0)) (by simp [hi])
    rwa [Addr.add_lit, Nat.zero_add] at this

theorem OI.put {w : World} {B : Nat} {v : Value} {l : List Int} (h : OI w B v l) {k : Nat} (hk : k < l.length) (m : Int) :
    ∃ g c, v = .slice (some ⟨g, 0, none⟩) l.length c ∧ (∃ u, w.cell? ⟨g, k, none⟩ = some u) ∧ w.frozen? ⟨g, k, none⟩ = false ∧ OI (w.setCell ⟨g, k, none⟩ (.int .i64 m)) B v (l.set k m) := by
  rcases h.2 with ⟨hv, h0⟩ | ⟨g, cap, cur, rfl, h1, h2, h3, h4, h5, h6⟩
  · omega
  · refine ⟨g, cap, rfl, ⟨_, h.get rfl hk⟩, frozen_of_row _ _ _ _ _ h2, ?_⟩
    unfold OI
    rw [List.length_set, List.map_set]
    refine ⟨by simp, .inr ⟨g, cap, _, rfl, h1, heap_setCell_same _ _ _ _ _ _ h2, h3, h4, by simpa using h5, ?_⟩⟩
    simp only [Array.toList_setIfInBounds, List.take_set]
    rw [h6]

theorem OI.form {w : World} {base : Nat} {v : Value} {l : List Int} (h : OI w base v l) (h0 : 0 < l.length) : ∃ g c, v = .slice (some ⟨g, 0, none⟩) l.length c ∧ base ≤ g ∧ g < w.heap.size ∧ l.length ≤ c ∧ c ≤ 9223372036854775807 := by
  rcases h.2 with ⟨hv, hz⟩ | ⟨g, cap, cur, rfl, h1, h2, h3, h4, h5, h6⟩
  · omega
  · unfold maxLen at h4
    exact ⟨g, cap, rfl, h1, (h.lt g rfl).2, h3, by omega⟩

end Go.Proofs.YtippppcdongahaaDoor

namespace Go.Proofs.YtippppcdongahaaDoor
open Go.RowKit Go.Maps
set_option maxRecDepth 20000
set_option linter.unusedVariables false

end Go.Proofs.YtippppcdongahaaDoor

namespace Go.Proofs.YtippppcdongahaaDoor
set_option linter.unusedVariables false

abbrev Rn := Int × Int

def eqn (v : Int) : List Int → Nat
  | [] => 0
  | x :: r => if x = v then eqn v r + 1 else 0

def n18 (l : List Int) (k : Nat) : Nat := min (eqn 0 (l.drop k)) 138
def n17 (l : List Int) (k : Nat) : Nat := min (eqn 0 (l.drop k)) 10
def n16 (l : List Int) (k : Nat) : Nat := if k = 0 then 0 else min (eqn (l.getD (k - 1) 0) (l.drop k)) 6

def lst (s : Int) : Int := if s < 16 then 1 else if s < 18 then 3 else 11
def frt (s : Int) : Nat := if s < 16 then 0 else if s = 16 then 2 else if s = 17 then 3 else 7
def mst (s : Int) : Int := if s < 16 then 1 else if s = 16 then 6 else if s = 17 then 10 else 138
def Okr (r : Rn) : Prop := 0 ≤ r.1 ∧ r.1 ≤ 18 ∧ lst r.1 ≤ r.2 ∧ r.2 ≤ mst r.1
instance (r : Rn) : Decidable (Okr r) := by unfold Okr; infer_instance

def mnt (s : Int) (a : List Int) : Int := if s < 16 then s else if s = 16 then a.getD (a.length - 1) 0 else 0
def lay (a : List Int) (r : Rn) : List Int := a ++ List.replicate r.2.toNat (mnt r.1 a)
def lays (a : List Int) (rs : List Rn) : List Int := rs.foldl lay a

theorem lay_len (a : List Int) (r : Rn) : (lay a r).length = a.length + r.2.toNat := by simp [lay]
theorem lays_snoc (a : List Int) (rs : List Rn) (r : Rn) : lays a (rs ++ [r]) = lay (lays a rs) r := by simp [lays]

end Go.Proofs.YtippppcdongahaaDoor

namespace Go.Proofs.YtippppcdongahaaDoor
open Go.RowKit Go.Maps
set_option maxRecDepth 20000
set_option linter.unusedVariables false

structure Tab (w : World) : Prop where
  least : ∀ i : Nat, i < 19 → w.cell? ⟨2, i, none⟩ = some (.int .i64 (lst i))
  further : ∀ i : Nat, i < 19 → w.cell? ⟨1, i, none⟩ = some (.int .i64 (frt i : Nat))

theorem Tab.below {W w w' : World} {B : Nat} (h : Tab w) (h0 : Tab W) (hW : W.heap.size ≤ B) (hb : Below B w w') : Tab w' :=
  ⟨fun i hi => (hb.cell (Nat.lt_of_lt_of_le (World.block_lt_of_cell? W _ (h0.least i hi)) hW)).trans (h.least i hi), fun i hi => (hb.cell (Nat.lt_of_lt_of_le (World.block_lt_of_cell? W _ (h0.further i hi)) hW)).trans (h.further i hi)⟩

theorem Tab.mono {w w' : World} (h : Tab w) (hb : Below w.heap.size w w') : Tab w' := h.below h (Nat.le_refl _) hb

theorem Tab.drewN {w : World} (h : Tab w) (n : Nat) : Tab (w.drewN n) := ⟨h.least, h.further⟩

def fr2 (R : List Rn) : List Value := R.flatMap fun r => [.int .i64 r.1, .int .i64 r.2]

def rn0 : Rn := (0, 0)

def SR (w : World) (v : Value) (R : List Rn) : Prop :=
  ∃ ao cap, v = .slice ao R.length cap ∧ R.length ≤ cap ∧ cap ≤ maxLen ∧ (ao = none → cap = 0) ∧ ∀ x, ao = some x → ∀ i, i < R.length → w.cell? (x.add (i * 2)) = some (.int .i64 (R.getD i rn0).1) ∧ w.cell? (x.add (i * 2 + 1)) = some (.int .i64 (R.getD i rn0).2)

def OR (w : World) (base : Nat) (v : Value) (R : List Rn) : Prop := w.ownsRow base 118 2 v R.length (fr2 R)

theorem SR.below {w w' : World} {v : Value} {R : List Rn} (h : SR w v R) (hb : Below w.heap.size w w') : SR w' v R := by
  obtain ⟨ao, cap, rfl, h1, h2, h3, h4⟩ := h
  refine ⟨ao, cap, rfl, h1, h2, h3, fun x hx i hi => ?_⟩
  obtain ⟨c1, c2⟩ := h4 x hx i hi
  exact ⟨(hb.cell (World.block_lt_of_cell? w _ c1)).trans c1, (hb.cell (World.block_lt_of_cell? w _ c2)).trans c2⟩

theorem SR.drewN {w : World} {v : Value} {R : List Rn} (h : SR w v R) (n : Nat) : SR (w.drewN n) v R := h

theorem rown_move {w w' : World} {base : Nat} {e : TypeId} {size : Nat} {v : Value} {n : Nat} {xs : List Value} (h : w.ownsRow base e size v n xs) (hb : ∀ k, v.ownBlock = some k → w'.heap[k]? = w.heap[k]?) : w'.ownsRow base e size v n xs := by
  refine ⟨h.1, ?_⟩
  rcases h.2 with h2 | ⟨g, cap, cur, rfl, h1, h2, r⟩
  · exact .inl h2
  · exact .inr ⟨g, cap, cur, rfl, h1, (hb g rfl).trans h2, r⟩

theorem OR.lt {w : World} {base : Nat} {v : Value} {R : List Rn} (h : OR w base v R) : ∀ k, v.ownBlock = some k → base ≤ k ∧ k < w.heap.size := World.ownsRow.lt h
theorem OR.below {w w' : World} {base B : Nat} {v : Value} {R : List Rn} (h : OR w base v R) (hb : Below B w w') (hB : w.heap.size ≤ B) : OR w' base v R := rown_move h fun k hk => hb.block k (Nat.lt_of_lt_of_le (h.lt k hk).2 hB)
theorem OR.drewN {w : World} {base : Nat} {v : Value} {R : List Rn} (h : OR w base v R) (n : Nat) : OR (w.drewN n) base v R := rown_move h fun _ _ => rfl
theorem OR.alloc {w : World} {base : Nat} {v : Value} {R : List Rn} (h : OR w base v R) (o : Obj) : OR (w.alloc o) base v R := rown_move h fun k hk => Below.heap_alloc w o k (h.lt k hk).2
theorem OR.base {w : World} {base base' : Nat} {v : Value} {R : List Rn} (h : OR w base v R) (hb : base' ≤ base) : OR w base' v R := by
  refine ⟨h.1, ?_⟩
  rcases h.2 with h2 | ⟨g, cap, cur, rfl, h1, r⟩
  · exact .inl h2
  · exact .inr ⟨g, cap, cur, rfl, Nat.le_trans hb h1, r⟩

theorem OR.shape {w : World} {base : Nat} {v : Value} {R : List Rn} (h : OR w base v R) : ∃ a c, v = .slice a R.length c ∧ R.length ≤ c ∧ c ≤ 9223372036854775807 := by
  rcases h.2 with ⟨rfl, h0⟩ | ⟨g, cap, cur, rfl, _, _, h3, h4, _⟩
  · exact ⟨none, 0, by rw [h0], by omega, by omega⟩
  · unfold maxLen at h4; exact ⟨_, _, rfl, h3, by omega⟩

theorem grow_one7 {w wr w3 : World} {u v3 : Value} {D : List Int} {o : Obj} {B : Nat} (hB : Below B w wr) (hw : B ≤ w.heap.size) (hO : OI wr B u D) (hg : Grew (wr.alloc o) w3 u v3) : Below B w w3 :=
  (hB.alloc (Nat.le_trans hw hB.size) _).grown hg.by (by have := hB.size; simp; omega) (fun j hj => by have := hO.lt j hj; omega)
end Go.Proofs.YtippppcdongahaaDoor

