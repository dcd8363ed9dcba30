import Derived.Test.YtiabhmdefaabgacGreatDoorG5a
import Derived.Test.YtiabhmdefaabgacGreatDoorG3b
import Derived.Laws.Rows
import Derived.Laws.Tables
import Derived.Laws.StructEq
namespace Go.Proofs.YtiabhmdefaabgacGreatDoor
open Go.RowKit Go.Maps
set_option maxRecDepth 20000

/-- An array of sixteen numbers. -/
def av (f : Nat → Int) : Array Value := Array.ofFn fun i : Fin 16 => Value.int .i64 (f i)

theorem av_size (f : Nat → Int) : (av f).size = 16 := by simp [av]

theorem av_get (f : Nat → Int) {i : Nat} (h : i < 16) : (av f)[i]? = some (.int .i64 (f i)) := by simp [av, h]

def upf (f : Nat → Int) (i : Nat) (x : Int) : Nat → Int := fun k => if k = i then x else f k

theorem av_set (f : Nat → Int) {i : Nat} (x : Int) (h : i < 16) : (av f).setIfInBounds i (.int .i64 x) = av (upf f i x) := by
  apply Array.ext_getElem?
  intro k
  rw [Array.getElem?_setIfInBounds]
  by_cases e : i = k
  · subst e; simp [av, h, upf]
  · rw [if_neg e]
    by_cases hk : k < 16
    · have : k ≠ i := fun h => e h.symm
      simp [av, hk, upf, this]
    · simp [av, hk]

theorem av_congr {f g : Nat → Int} (h : ∀ i, i < 16 → f i = g i) : av f = av g := by
  unfold av
  congr 1
  funext i
  rw [h i i.2]

theorem av_one (f : Nat → Int) : (av f).all (·.oneCell') = true := by
  rw [Array.all_eq_true]
  intro i hi
  simp [av, Value.oneCell']

theorem av_zero : av (fun _ => 0) = #[.int .i64 0, .int .i64 0, .int .i64 0, .int .i64 0, .int .i64 0, .int .i64 0, .int .i64 0, .int .i64 0, .int .i64 0, .int .i64 0, .int .i64 0, .int .i64 0, .int .i64 0, .int .i64 0, .int .i64 0, .int .i64 0] := rfl

theorem sizePer (f : Nat → Int) : (Tryz.prog.info? 126).map (·.size) = some (av f).size := by rw [av_size]; kernel_rfl

/-- A whole array out of its block, and into one. -/
theorem wpList_loadP {ops : Array Oper} {rest : List Oper} {a : Act} {w : World} {Q : Exit → Act → World → Prop} {dst : Option Tmp} {x : Operand} {ty : TypeId} {pos : String} {after : Array Edge} (g : Nat) (f : Nat → Int)
    (hx : a.eval x = .pointer (some ⟨g, 0, none⟩)) (hg : w.heap[g]? = some (.cells (av f) 126 (0, 0))) (h : wpList Tryz.prog ops Q rest (a.put dst (.agg (av f))) w) :
    wpList Tryz.prog ops Q ({ dst := dst, op := .load 126 x, type := ty, pos := pos, after := after, guard := none } :: rest) a w :=
  wpList_load_row rfl 126 x rfl g hx 126 (av f) (0, 0) _ hg Tryz.underlying126 rfl (sizePer f) h

theorem wpList_storeP {ops : Array Oper} {rest : List Oper} {a : Act} {w : World} {Q : Exit → Act → World → Prop} {dst : Option Tmp} {x y : Operand} {ty : TypeId} {pos : String} {after : Array Edge} (g : Nat) (f h0 : Nat → Int)
    (hx : a.eval x = .pointer (some ⟨g, 0, none⟩)) (hy : a.eval y = .agg (av f)) (hg : w.heap[g]? = some (.cells (av h0) 126 (0, 0))) (h : wpList Tryz.prog ops Q rest (a.put dst undef) (w.setRow g (av f))) :
    wpList Tryz.prog ops Q ({ dst := dst, op := .store 126 x y, type := ty, pos := pos, after := after, guard := none } :: rest) a w :=
  wpList_store_row rfl 126 x y rfl g (av f) hx hy 126 (av h0) hg (sizePer f) (by rw [av_size, av_size]) (av_one f) h

theorem ret_per {fn : Func} {R : Ending → World → Prop} {a : Act} {w : World} {p : Tmp} (hres : fn.results = #[.cell p 126]) (g : Nat) (f : Nat → Int) (hp : a.tmps.getD p undef = .pointer (some ⟨g, 0, none⟩))
    (hg : w.heap[g]? = some (.cells (av f) 126 (0, 0))) (hd : a.defers = []) (hR : R (.returned (.agg (av f))) w) : bodyPost Tryz.prog fn R .ret a w :=
  bodyPost_ret (results_cell_row hres a.tmps w g 126 (av f) (0, 0) _ hp hg Tryz.underlying126 rfl (sizePer f)) hd hR

theorem SI.get {W w : World} {ao : Option Addr} {cap : Nat} {l : List Int} (h : SI W (.slice ao l.length cap) l) (hb : Below W.heap.size W w) {k : Nat} (hk : k < l.length) : ∃ b o, ao = some ⟨b, o, none⟩ ∧ w.cell? ⟨b, o + k, none⟩ = some (.int .i64 (l.getD k 0)) := by
  obtain ⟨ao', cap', he, h1, h2, h3, h4⟩ := h
  simp only [Value.slice.injEq] at he
  obtain ⟨rfl, -, rfl⟩ := he
  cases ao with
  | none => have := h3 rfl; omega
  | some x =>
    obtain ⟨b, o, rfl⟩ := addr_lit (h4 x rfl 0 (by omega))
    have hc := h4 _ rfl k hk
    have hbl := World.block_lt_of_cell? _ _ hc
    rw [Addr.add_lit] at hc hbl
    exact ⟨b, o, rfl, (hb.cell hbl).trans hc⟩

theorem SI.open {w : World} {v : Value} {l : List Int} (h : SI w v l) : ∃ ao cap, v = .slice ao l.length cap ∧ l.length ≤ cap ∧ cap ≤ 9223372036854775807 := by
  obtain ⟨ao, cap, rfl, h1, h2, _⟩ := h
  unfold maxLen at h2
  exact ⟨ao, cap, rfl, h1, by omega⟩

/-- Two blocks of our own: an answer, an array. -/
def Two (w : World) (f g : Nat → Int) (wr : World) : Prop := wr.heap[w.heap.size]? = some (.cells (av f) 126 (0, 0)) ∧ wr.heap[w.heap.size + 1]? = some (.cells (av g) 126 (0, 0)) ∧ Below w.heap.size w wr

theorem two_start (w : World) (o p : Obj) (f g : Nat → Int) (ho : o = .cells (av f) 126 (0, 0)) (hp : p = .cells (av g) 126 (0, 0)) : Two w f g ((w.alloc o).alloc p) := by
  subst ho hp
  obtain ⟨h1, h2⟩ := heap_two w (.cells (av f) 126 (0, 0)) (.cells (av g) 126 (0, 0))
  exact ⟨h2, h1, ((Below.refl _ _).alloc (Nat.le_refl _) _).alloc (by simp) _⟩

theorem Two.cell {w wr : World} {f g : Nat → Int} (h : Two w f g wr) {n : Nat} (hn : n < 16) : wr.cell? ⟨w.heap.size + 1, n, none⟩ = some (.int .i64 (g n)) := by
  rw [cell_of_row _ _ _ _ _ _ h.2.1, av_get g hn]

theorem Two.cell0 {w wr : World} {f g : Nat → Int} (h : Two w f g wr) {n : Nat} (hn : n < 16) : wr.cell? ⟨w.heap.size, n, none⟩ = some (.int .i64 (f n)) := by
  rw [cell_of_row _ _ _ _ _ _ h.1, av_get f hn]

theorem Two.free {w wr : World} {f g : Nat → Int} (h : Two w f g wr) (n : Nat) : wr.frozen? ⟨w.heap.size + 1, n, none⟩ = false := frozen_of_row _ _ _ _ _ h.2.1
theorem Two.free0 {w wr : World} {f g : Nat → Int} (h : Two w f g wr) (n : Nat) : wr.frozen? ⟨w.heap.size, n, none⟩ = false := frozen_of_row _ _ _ _ _ h.1

theorem Two.set {w wr : World} {f g : Nat → Int} (h : Two w f g wr) {n : Nat} (hn : n < 16) (x : Int) : Two w f (upf g n x) (wr.setCell ⟨w.heap.size + 1, n, none⟩ (.int .i64 x)) := by
  refine ⟨(setCell_others wr _ n _ _ (by omega)).trans h.1, ?_, ?_⟩
  · rw [heap_setCell_same _ _ _ _ _ _ h.2.1, av_set g x hn]
  · exact h.2.2.setCell (by show _ ≤ w.heap.size + 1; omega) _

theorem Two.drewN {w wr : World} {f g : Nat → Int} (h : Two w f g wr) (n : Nat) : Two w f g (wr.drewN n) := ⟨h.1, h.2.1, below_drewN h.2.2 n⟩

theorem Two.over {w wr : World} {f g f' : Nat → Int} (h : Two w f g wr) : Two w f' g (wr.setRow w.heap.size (av f')) := by
  refine ⟨setRow_heap wr _ _ _ _ _ h.1, (setRow_other wr _ _ _ (by omega)).trans h.2.1, ?_⟩
  exact ⟨h.2.2.os, h.2.2.tape, h.2.2.output, by rw [size_setRow]; exact h.2.2.size, fun k hk => (setRow_other wr _ _ _ (by omega)).trans (h.2.2.block k hk)⟩

theorem cn_snoc {l : List Int} {k : Nat} (hk : k < l.length) (n : Nat) : cn (l.take (k + 1)) n = cn (l.take k) n + if n ≠ 0 ∧ l.getD k 0 = (n : Int) then 1 else 0 := by
  unfold cn
  by_cases h : n = 0
  · simp [h]
  · rw [if_neg h, if_neg h, count_take_succ l _ hk]
    by_cases e : l.getD k 0 = (n : Int)
    · rw [if_pos e, if_pos ⟨h, e⟩]
    · rw [if_neg e, if_neg (fun x => e x.2)]

theorem cn_step {l : List Int} {k n : Nat} (hk : k < l.length) (hn : l.getD k 0 = (n : Int)) :
    (n = 0 → (av fun m => (cn (l.take (k + 1)) m : Int)) = av fun m => (cn (l.take k) m : Int)) ∧ (n ≠ 0 → (av fun m => (cn (l.take (k + 1)) m : Int)) = av (upf (fun m => (cn (l.take k) m : Int)) n ((cn (l.take k) n : Int) + 1))) := by
  refine ⟨fun h => av_congr fun i _ => ?_, fun h => av_congr fun i _ => ?_⟩
  · rw [cn_snoc hk, if_neg (fun x => x.1 (by have := x.2; omega))]; rfl
  · rw [cn_snoc hk]
    unfold upf
    by_cases e : i = n
    · subst e
      rw [if_pos ⟨h, hn⟩, if_pos rfl]; omega
    · rw [if_neg (fun x => e (by have := x.2; omega)), if_neg e]; rfl

theorem count_any (v : Value) (l : List Int) (w : World) (h : SI w v l) (hl : Lens l) :
    Calls Tryz.prog 76 #[v] w fun e w' => e = .returned (.agg (av fun n => (cn l n : Int))) ∧ Below w.heap.size w w' := by
  have HS := hide h
  have HL := hide hl
  have h288 := hl.1
  obtain ⟨ao, cap, rfl, hlc, hcm⟩ := h.open
  clear h hl
  go_enter Tryz.func76, Tryz.ntmps76
  go_wp2
  go_loopw [8] (fun i wr => ∃ k : Nat, k ≤ l.length ∧ i = .int .i64 k ∧ Hid (Two w (fun _ => 0) (fun n => (cn (l.take k) n : Int)) wr)) (fun i _ => l.length - (intOf i).toNat)
  case atStart =>
    refine ⟨0, Nat.zero_le _, rfl, two_start w _ _ _ _ ?_ ?_⟩
    · rw [av_zero]
    · rw [show (fun n => (cn (l.take 0) n : Int)) = fun _ => 0 by funext n; simp [cn], av_zero]
  case round =>
    obtain ⟨k, hk, rfl, HT⟩ := hrel
    by_cases hlt : k < l.length
    · have hlt' : (k : Int) < (l.length : Int) := by omega
      obtain ⟨b, o, rfl, hc⟩ := HS.out.get HT.out.2.2 hlt
      obtain ⟨n, hn⟩ : ∃ n, n = ln l k := ⟨_, rfl⟩
      have HN : Hid (l.getD k 0 = (n : Int)) := by show _ = _; rw [hn]; exact (HL.out.ln k).1
      have hn15 : n < 16 := by rw [hn]; have := (HL.out.ln k).2; omega
      rw [HN.out] at hc
      clear hn
      have HX := hide (cn_step hlt HN.out)
      by_cases h0 : n = 0
      · subst h0
        go_wp2
        go_roundw
        case rel => exact ⟨k + 1, by omega, by go_num, by show Two _ _ _ _; exact ⟨HT.out.1, by rw [HX.out.1 rfl]; exact HT.out.2.1, HT.out.2.2⟩⟩
        case measure => simp [intOf]; omega
      · have h0' : (0 : Int) < n := by omega
        have hcn := HT.out.cell hn15
        have hfz := HT.out.free n
        have hle : cn (l.take k) n ≤ 288 := by
          have := cn_le (l.take k) n
          rw [List.length_take] at this; omega
        obtain ⟨c, HC⟩ : ∃ c : Nat, Hid (c = cn (l.take k) n) := ⟨_, rfl⟩
        rw [← HC.out] at hcn hle
        go_wp2
        go_roundw
        case rel =>
          refine ⟨k + 1, by omega, by go_num, ?_⟩
          have := HT.out.set hn15 ((c : Int) + 1)
          refine ⟨this.1, ?_, this.2.2⟩
          rw [HX.out.2 h0, ← HC.out]
          exact this.2.1
        case measure => simp [intOf]; omega
    · obtain rfl : k = l.length := by omega
      have hlt' : ¬ (l.length : Int) < (l.length : Int) := by omega
      have HT2 : Hid (Two w (fun _ => 0) (fun n => (cn l n : Int)) wr) := by have := HT.out; rwa [List.take_of_length_le (Nat.le_refl _)] at this
      clear HT
      have HA := hide HT2.out.2.1
      have HB := hide HT2.out.1
      have HO := hide (HT2.out.over (f' := fun n => (cn l n : Int)))
      clear HT2
      go_wp2_with (first | ((with_reducible refine wpList_loadP (w.heap.size + 1) _ ?hx HA.out ?_); case hx => rfl) | ((with_reducible refine wpList_storeP w.heap.size (fun n => (cn l n : Int)) _ ?hx ?hy HB.out ?_); (case hx => rfl); (case hy => rfl)))
      (try simp only [Exit.inBlock, Exit.then])
      refine ret_per (p := 2) ?h1 w.heap.size _ ?h2 HO.out.1 ?h3 ?_
      case h1 => rfl
      case h2 => rfl
      case h3 => rfl
      exact ⟨rfl, HO.out.2.2⟩

theorem fi_step {l : List Int} {k : Nat} : (av (upf (fun m => if m ≤ k then (fi l m : Int) else 0) (k + 1) (((fi l k : Int) + cn l k) * 2))) = av fun m => if m ≤ k + 1 then (fi l m : Int) else 0 := by
  refine av_congr fun i _ => ?_
  unfold upf
  by_cases e : i = k + 1
  · subst e
    rw [if_pos rfl, if_pos (Nat.le_refl _)]
    simp only [fi]; omega
  · rw [if_neg e]
    show (if i ≤ k then _ else _) = _
    by_cases h : i ≤ k
    · rw [if_pos h, if_pos (by omega)]
    · rw [if_neg h, if_neg (by omega)]

/-- Three blocks of our own. -/
def Tri (w : World) (h f g : Nat → Int) (wr : World) : Prop := wr.heap[w.heap.size]? = some (.cells (av h) 126 (0, 0)) ∧ wr.heap[w.heap.size + 1]? = some (.cells (av f) 126 (0, 0)) ∧ wr.heap[w.heap.size + 1 + 1]? = some (.cells (av g) 126 (0, 0)) ∧ Below w.heap.size w wr

theorem tri_start (w : World) (h f g : Nat → Int) : Tri w h f g (((w.alloc (.cells (av h) 126 (0, 0))).alloc (.cells (av f) 126 (0, 0))).alloc (.cells (av g) 126 (0, 0))) := by
  have h1 := heap_two (w.alloc (.cells (av h) 126 (0, 0))) (.cells (av f) 126 (0, 0)) (.cells (av g) 126 (0, 0))
  rw [size_alloc'] at h1
  refine ⟨?_, h1.2, h1.1, (((Below.refl _ _).alloc (Nat.le_refl _) _).alloc (by simp) _).alloc (by simp; omega) _⟩
  rw [Below.heap_alloc _ _ _ (by simp; omega), Below.heap_alloc _ _ _ (by simp)]
  exact heap_alloc_new w _

theorem Tri.cellh {w wr : World} {h f g : Nat → Int} (t : Tri w h f g wr) {n : Nat} (hn : n < 16) : wr.cell? ⟨w.heap.size, n, none⟩ = some (.int .i64 (h n)) := by
  rw [cell_of_row _ _ _ _ _ _ t.1, av_get h hn]

theorem Tri.cellg {w wr : World} {h f g : Nat → Int} (t : Tri w h f g wr) {n : Nat} (hn : n < 16) : wr.cell? ⟨w.heap.size + 1 + 1, n, none⟩ = some (.int .i64 (g n)) := by
  rw [cell_of_row _ _ _ _ _ _ t.2.2.1, av_get g hn]

theorem Tri.free {w wr : World} {h f g : Nat → Int} (t : Tri w h f g wr) (n : Nat) : wr.frozen? ⟨w.heap.size + 1 + 1, n, none⟩ = false := frozen_of_row _ _ _ _ _ t.2.2.1

theorem Tri.set {w wr : World} {h f g : Nat → Int} (t : Tri w h f g wr) {n : Nat} (hn : n < 16) (x : Int) : Tri w h f (upf g n x) (wr.setCell ⟨w.heap.size + 1 + 1, n, none⟩ (.int .i64 x)) := by
  refine ⟨(setCell_others wr _ n _ _ (by omega)).trans t.1, (setCell_others wr _ n _ _ (by omega)).trans t.2.1, ?_, ?_⟩
  · rw [heap_setCell_same _ _ _ _ _ _ t.2.2.1, av_set g x hn]
  · exact t.2.2.2.setCell (by show _ ≤ w.heap.size + 1 + 1; omega) _

theorem Tri.drewN {w wr : World} {h f g : Nat → Int} (t : Tri w h f g wr) (n : Nat) : Tri w h f g (wr.drewN n) := ⟨t.1, t.2.1, t.2.2.1, below_drewN t.2.2.2 n⟩

theorem Tri.over {w wr : World} {h f g f' : Nat → Int} (t : Tri w h f g wr) : Tri w h f' g (wr.setRow (w.heap.size + 1) (av f')) := by
  refine ⟨(setRow_other wr _ _ _ (by omega)).trans t.1, setRow_heap wr _ _ _ _ _ t.2.1, (setRow_other wr _ _ _ (by omega)).trans t.2.2.1, ?_⟩
  exact ⟨t.2.2.2.os, t.2.2.2.tape, t.2.2.2.output, by rw [size_setRow]; exact t.2.2.2.size, fun k hk => (setRow_other wr _ _ _ (by omega)).trans (t.2.2.2.block k hk)⟩

theorem firsts_any (l : List Int) (w : World) (hl : Lens l) :
    Calls Tryz.prog 86 #[.agg (av fun n => (cn l n : Int))] w fun e w' => e = .returned (.agg (av fun n => (fi l n : Int))) ∧ Below w.heap.size w w' := by
  have HL := hide hl
  clear hl
  obtain ⟨A, HA⟩ : ∃ A, Hid (A = av fun n => (cn l n : Int)) := ⟨_, rfl⟩
  rw [← HA.out]
  go_enter Tryz.func86, Tryz.ntmps86
  go_wp2
  go_loopw [4] (fun i wr => ∃ k : Nat, k ≤ 15 ∧ i = .int .i64 ((k : Int) + 1) ∧ Hid (Tri w (fun n => (cn l n : Int)) (fun _ => 0) (fun m => if m ≤ k then (fi l m : Int) else 0) wr)) (fun i _ => 16 - (intOf i).toNat)
  case atStart =>
    refine ⟨0, Nat.zero_le _, rfl, ?_⟩
    have := tri_start w (fun n => (cn l n : Int)) (fun _ => 0) (fun _ => 0)
    rw [← HA.out, av_zero] at this
    rw [show (fun m => if m ≤ 0 then (fi l m : Int) else 0) = fun _ => 0 by funext m; by_cases e : m ≤ 0; (obtain rfl : m = 0 := by omega); rfl; rw [if_neg e]]
    exact ⟨this.1, by rw [av_zero]; exact this.2.1, by rw [av_zero]; exact this.2.2.1, this.2.2.2⟩
  case round =>
    obtain ⟨k, hk, rfl, HT⟩ := hrel
    by_cases hlt : k < 15
    · have hlt' : (k : Int) + 1 ≤ 15 := by omega
      have c1 := HT.out.cellg (n := k) (by omega)
      have c2 := HT.out.cellh (n := k) (by omega)
      have hfz := HT.out.free (k + 1)
      have c3 := HT.out.cellg (n := k + 1) (by omega)
      rw [if_pos (Nat.le_refl _)] at c1
      rw [if_neg (by omega)] at c3
      have b1 := fi_top HL.out (n := k) (by omega)
      have b2 : cn l k ≤ 288 := by have := cn_le l k; have := HL.out.1; omega
      obtain ⟨x, HX⟩ : ∃ x : Nat, Hid (x = fi l k) := ⟨_, rfl⟩
      obtain ⟨y, HY⟩ : ∃ y : Nat, Hid (y = cn l k) := ⟨_, rfl⟩
      rw [← HX.out] at c1 b1
      rw [← HY.out] at c2 b2
      have e1 : (k : Int) + 1 - 1 = k := by omega
      have HR : Hid (∀ q, Tri w (fun n => (cn l n : Int)) (fun _ => 0) (fun m => if m ≤ k + 1 then (fi l m : Int) else 0) ((wr.drewN q).setCell ⟨w.heap.size + 1 + 1, k + 1, none⟩ (.int .i64 (((x : Int) + y) * 2)))) := fun q => by
        have := (HT.out.drewN q).set (n := k + 1) (by omega) (((x : Int) + y) * 2)
        refine ⟨this.1, this.2.1, ?_, this.2.2.2⟩
        rw [← fi_step, ← HX.out, ← HY.out]
        exact this.2.2.1
      clear HT
      go_wp2
      go_region
      go_wp2
      go_roundw
      case rel => exact ⟨k + 1, by omega, by go_num, HR.out 1⟩
      case measure => simp [intOf]; omega
    · obtain rfl : k = 15 := by omega
      have hlt' : ¬ ((15 : Nat) : Int) + 1 ≤ 15 := by omega
      have HT2 : Hid (Tri w (fun n => (cn l n : Int)) (fun _ => 0) (fun n => (fi l n : Int)) wr) := by
        have := HT.out
        refine ⟨this.1, this.2.1, ?_, this.2.2.2⟩
        rw [this.2.2.1, av_congr fun i hi => if_pos (show i ≤ 15 by omega)]
      clear HT
      have HC := hide HT2.out.2.2.1
      have HB := hide HT2.out.2.1
      have HO := hide (HT2.out.over (f' := fun n => (fi l n : Int)))
      clear HT2
      go_wp2_with (first | ((with_reducible refine wpList_loadP (w.heap.size + 1 + 1) _ ?hx HC.out ?_); case hx => rfl) | ((with_reducible refine wpList_storeP (w.heap.size + 1) (fun n => (fi l n : Int)) _ ?hx ?hy HB.out ?_); (case hx => rfl); (case hy => rfl)))
      (try simp only [Exit.inBlock, Exit.then])
      refine ret_per (p := 2) ?h1 (w.heap.size + 1) _ ?h2 HO.out.2.1 ?h3 ?_
      case h1 => rfl
      case h2 => rfl
      case h3 => rfl
      exact ⟨rfl, HO.out.2.2.2⟩
end Go.Proofs.YtiabhmdefaabgacGreatDoor

namespace Go.Proofs.YtiabhmdefaabgacGreatDoor
open Go.RowKit Go.Maps
set_option maxRecDepth 20000

theorem OI.get {w : World} {base : Nat} {v : Value} {l : List Int} (h : OI w base v l) {b : Nat} (hv : v.ownBlock = some b) {i : Nat} (hi : i < l.length) : w.cell? ⟨b, i, none⟩ = some (.int .i64 (l.getD i 0)) := by
  rcases h.2 with ⟨rfl, h0⟩ | ⟨g, cap, cur, rfl, h1, h2, h3, h4, h5, h6⟩
  · simp [Value.ownBlock] at hv
  · simp [Value.ownBlock] at hv
    subst hv
    have := World.ownsRow.cells h (g := g) rfl i (.int .i64 (l.getD i 0)) (by simp [hi])
    rwa [Addr.add_lit, Nat.zero_add] at this

theorem OI.put {w : World} {B : Nat} {v : Value} {l : List Int} (h : OI w B v l) {k : Nat} (hk : k < l.length) (m : Int) :
    ∃ g c, v = .slice (some ⟨g, 0, none⟩) l.length c ∧ (∃ u, w.cell? ⟨g, k, none⟩ = some u) ∧ w.frozen? ⟨g, k, none⟩ = false ∧ OI (w.setCell ⟨g, k, none⟩ (.int .i64 m)) B v (l.set k m) := by
  rcases h.2 with ⟨hv, h0⟩ | ⟨g, cap, cur, rfl, h1, h2, h3, h4, h5, h6⟩
  · omega
  · refine ⟨g, cap, rfl, ⟨_, h.get rfl hk⟩, frozen_of_row _ _ _ _ _ h2, ?_⟩
    unfold OI
    rw [List.length_set, List.map_set]
    refine ⟨by simp, .inr ⟨g, cap, _, rfl, h1, heap_setCell_same _ _ _ _ _ _ h2, h3, h4, by simpa using h5, ?_⟩⟩
    simp only [Array.toList_setIfInBounds, List.take_set]
    rw [h6]

theorem OI.form {w : World} {base : Nat} {v : Value} {l : List Int} (h : OI w base v l) (h0 : 0 < l.length) : ∃ g c, v = .slice (some ⟨g, 0, none⟩) l.length c ∧ base ≤ g ∧ g < w.heap.size ∧ l.length ≤ c ∧ c ≤ 9223372036854775807 := by
  rcases h.2 with ⟨hv, hz⟩ | ⟨g, cap, cur, rfl, h1, h2, h3, h4, h5, h6⟩
  · omega
  · unfold maxLen at h4
    exact ⟨g, cap, rfl, h1, (h.lt g rfl).2, h3, by omega⟩

/-- A list that lies in more than it says. -/
theorem OI.front {w : World} {base g c : Nat} {l r : List Int} (h : OI w base (.slice (some ⟨g, 0, none⟩) (l ++ r).length c) (l ++ r)) : SI w (.slice (some ⟨g, 0, none⟩) l.length c) l := by
  obtain ⟨ao', cap', he, h1, h2, h3, h4⟩ := h.sb
  simp only [Value.slice.injEq] at he
  obtain ⟨rfl, -, rfl⟩ := he
  rw [List.length_append] at h1
  refine ⟨_, c, rfl, by omega, h2, h3, fun x hx i hi => ?_⟩
  rw [h4 x hx i (by rw [List.length_append]; omega)]
  simp only [List.getD, List.getElem?_append_left hi]

end Go.Proofs.YtiabhmdefaabgacGreatDoor

namespace Go.Proofs.YtiabhmdefaabgacGreatDoor
open Go.RowKit Go.Maps
set_option maxRecDepth 20000

theorem run_part (f : Nat → Int) {k : Nat} (h : k < 16) (w : World) : (part 3 (av f) k).run Tryz.prog w = .ok (.int .i64 (f k)) w := by
  simp [part, isAgg, run_underlying Tryz.underlying3, av_get f h]

theorem run_index (f : Nat → Int) {k : Nat} (h : k < 16) (w : World) : (Instr.index 126 (.agg (av f)) (.int .i64 k)).run Tryz.prog w = .ok (.int .i64 (f k)) w := by
  obtain ⟨i0, hi, hz0, hz1, hz2⟩ := info_parts infoInt
  simp [Instr.index, asIntOf, run_underlying Tryz.underlying126, sizeOf, typeInfo, hi, hz1, run_part f h]
  omega

def eq16 (f g : Nat → Int) : Bool := (List.range' 0 16).all fun i => f i == g i

theorem eq16_iff (f g : Nat → Int) : eq16 f g = true ↔ ∀ i, i < 16 → f i = g i := by
  unfold eq16
  rw [List.all_eq_true]
  constructor
  · intro h i hi
    have := h i (by simp [List.mem_range']; omega)
    simpa using this
  · intro h i hi
    simp [List.mem_range'] at hi
    have := h i (by omega)
    simpa using this

theorem forIn_eq {P : Program} (f g : Nat → Int) (body : Nat → Option Bool × Unit → Sem (ForInStep (Option Bool × Unit))) (hb : ∀ i w, i < 16 → (body i (none, ())).run P w = .ok (if f i = g i then .yield (none, ()) else .done (some false, ())) w) :
    ∀ n k w, k + n ≤ 16 → (forIn (List.range' k n) (none, ()) body).run P w = .ok (if ((List.range' k n).all fun i => f i == g i) then (none, ()) else (some false, ())) w := by
  intro n
  induction n with
  | zero => intro k w _; simp
  | succ n ih =>
    intro k w h
    simp only [List.range'_succ, List.forIn_cons, Sem.run_bind, hb k w (by omega)]
    by_cases e : f k = g k
    · have e2 : (f k == g k) = true := by simp [e]
      simp only [List.all_cons, e2, Bool.true_and]
      simp [e, ih (k + 1) w (by omega)]
    · have e2 : (f k == g k) = false := by simp [e]
      simp only [List.all_cons, e2, Bool.false_and]
      simp [e]

theorem run_equal_per (d : Nat) (f g : Nat → Int) (w : World) (H : ∀ a b w, (Op.equalIn d 3 (.int .i64 a) (.int .i64 b)).run Tryz.prog w = .ok (a == b) w) : (Op.equalIn (d+1) 126 (.agg (av f)) (.agg (av g))).run Tryz.prog w = .ok (eq16 f g) w := by
  obtain ⟨i0, hi, hz0, hz1, hz2⟩ := info_parts infoInt
  simp only [Op.equalIn, Sem.run_bind, run_underlying Tryz.underlying126, Result.andThen_ok]
  simp [sizeOf, typeInfo, hi, hz1]
  rw [forIn_eq f g _ _ 16 0 w (by omega)]
  · by_cases e : eq16 f g = true
    · have e2 := e
      unfold eq16 at e2
      simp [e2, e]
    · have e3 : eq16 f g = false := by simpa using e
      have e2 := e3
      unfold eq16 at e2
      simp [e2, e3]
  · intro i w hi
    simp [run_part f hi, run_part g hi, H]
    by_cases e : f i = g i
    · simp [e]
    · simp [e]

theorem run_eql_per (f g : Nat → Int) (w : World) : (binOp .eql 126 (.agg (av f)) (.agg (av g))).run Tryz.prog w = .ok (.bool (eq16 f g)) w := by
  rw [run_eql_struct, run_equal_per 9999 f g w (fun a b w => run_equalIn_int w 9998 3 .i64 .i64 a b Tryz.underlying3)]
  rfl

theorem rows_shr {k : Nat} (h : k ≤ 15) : (32768 : Int) / 2 ^ k = ((2 ^ (15 - k) : Nat) : Int) := by
  have e : (32768 : Int) = ((2 ^ (15 - k) : Nat) : Int) * 2 ^ k := by
    have : (2 : Nat) ^ (15 - k) * 2 ^ k = 2 ^ 15 := by rw [← Nat.pow_add]; congr 1; omega
    have h2 : ((2 ^ (15 - k) * 2 ^ k : Nat) : Int) = 32768 := by rw [this]; rfl
    rw [← h2]; push_cast; rfl
  conv => lhs; rw [e]
  exact Int.mul_ediv_cancel _ (by have := pow_pos k; omega)

theorem used_any (l : List Int) (w : World) (hl : Lens l) :
    Calls Tryz.prog 92 #[.agg (av fun n => (cn l n : Int))] w fun e w' => e = .returned (.int .i64 (us l 16)) ∧ Below w.heap.size w w' := by
  have HL := hide hl
  clear hl
  obtain ⟨A, HA⟩ : ∃ A, Hid (A = av fun n => (cn l n : Int)) := ⟨_, rfl⟩
  rw [← HA.out]
  have HG : Hid ((w.alloc (.cells A 126)).heap[w.heap.size]? = some (.cells (av fun n => (cn l n : Int)) 126 (0, 0))) := by rw [← HA.out]; exact heap_alloc_new w _
  have HB : Hid (Below w.heap.size w (w.alloc (.cells A 126))) := (Below.refl _ _).alloc (Nat.le_refl _) _
  obtain ⟨W, HW⟩ : ∃ W, Hid (W = w.alloc (.cells A 126)) := ⟨_, rfl⟩
  rw [← HW.out] at HG HB
  go_enter Tryz.func92, Tryz.ntmps92
  go_wp2_with (first | ((with_reducible refine wpList_loadP w.heap.size _ ?hx (show (w.alloc (.cells A 126)).heap[w.heap.size]? = some (.cells (av fun n => (cn l n : Int)) 126 (0, 0)) from by rw [← HW.out]; exact HG.out) ?_); case hx => rfl))
  rw [← HW.out]
  go_loopw [3, 7] (fun u i wr => ∃ k : Nat, k ≤ 16 ∧ i = .int .i64 k ∧ u = .int .i64 (us l k) ∧ wr = W) (fun _ i _ => 16 - (intOf i).toNat)
  case atStart => exact ⟨0, Nat.zero_le _, rfl, rfl, rfl⟩
  case round =>
    obtain ⟨k, hk, rfl, rfl, rfl⟩ := hrel
    by_cases hlt : k < 16
    · have hlt' : (k : Int) < 16 := by omega
      have hg := fun W => run_index (fun n => (cn l n : Int)) hlt W
      have b2 : cn l k ≤ 288 := by have := cn_le l k; have := HL.out.1; omega
      have b3 : us l k ≤ 288 * 16384 := Nat.le_trans (us_mono l (by omega)) (us_bound HL.out)
      have b4 : 2 ^ (15 - k) ≤ 32768 := Nat.pow_le_pow_right (n := 2) (by decide) (show 15 - k ≤ 15 by omega)
      have hs := rows_shr (k := k) (by omega)
      have HS : Hid (us l (k + 1) = us l k + cn l k * 2 ^ (15 - k)) := rfl
      obtain ⟨c, HC⟩ : ∃ c : Nat, Hid (c = cn l k) := ⟨_, rfl⟩
      obtain ⟨p, HP⟩ : ∃ p : Nat, Hid (p = 2 ^ (15 - k)) := ⟨_, rfl⟩
      obtain ⟨u, HU⟩ : ∃ u : Nat, Hid (u = us l k) := ⟨_, rfl⟩
      rw [← HC.out] at b2 hg HS
      rw [← HP.out] at b4 hs HS
      rw [← HU.out] at b3 HS ⊢
      have hcp : c * p ≤ 288 * 32768 := Nat.mul_le_mul b2 b4
      have hcp' : (c : Int) * p = ((c * p : Nat) : Int) := by push_cast; rfl
      obtain ⟨m, HM⟩ : ∃ m : Nat, Hid (m = c * p) := ⟨_, rfl⟩
      rw [← HM.out] at hcp hcp' HS
      go_wp2
      go_roundw
      case rel => exact ⟨k + 1, by omega, by go_num, by rw [HS.out]; push_cast; rfl, by trivial⟩
      case measure => simp [intOf]; omega
    · obtain rfl : k = 16 := by omega
      have hlt' : ¬ ((16 : Nat) : Int) < 16 := by omega
      go_wp2
      go_ret
      exact ⟨rfl, HB.out⟩

theorem shape_any (l : List Int) (w : World) (hl : Lens l) :
    Calls Tryz.prog 75 #[.agg (av fun n => (cn l n : Int))] w fun e w' => e = .returned (.int .i64 (shp l)) ∧ Below w.heap.size w w' := by
  have HL := hide hl
  have HU := hide (us_sum hl.2)
  have hz : eq16 (fun n => (cn l n : Int)) (fun _ => 0) = decide (tsum l = 0) := by
    rw [Bool.eq_iff_iff, eq16_iff, decide_eq_true_iff, tsum_zero hl]
    exact ⟨fun h n hn => by have := h n hn; omega, fun h n hn => by rw [h n hn]; rfl⟩
  have ho : eq16 (fun n => (cn l n : Int)) (fun n => if n = 1 then 1 else 0) = decide (tsum l = 1 ∧ usum l = 16384) := by
    rw [Bool.eq_iff_iff, eq16_iff, decide_eq_true_iff, single_iff hl]
    exact ⟨fun h n hn => by have := h n hn; by_cases e : n = 1 <;> simp [e] at this ⊢ <;> omega, fun h n hn => by rw [h n hn]; by_cases e : n = 1 <;> simp [e]⟩
  have hb := us_bound hl
  rw [HU.out] at hb
  clear hl
  have q1 := fun W => run_eql_per (fun n => (cn l n : Int)) (fun _ => 0) W
  have q2 := fun W => run_eql_per (fun n => (cn l n : Int)) (fun n => if n = 1 then 1 else 0) W
  rw [av_zero, hz] at q1
  have e1 : av (fun n => if n = 1 then 1 else 0) = #[.int .i64 0, .int .i64 1, .int .i64 0, .int .i64 0, .int .i64 0, .int .i64 0, .int .i64 0, .int .i64 0, .int .i64 0, .int .i64 0, .int .i64 0, .int .i64 0, .int .i64 0, .int .i64 0, .int .i64 0, .int .i64 0] := rfl
  rw [e1, ho] at q2
  clear hz ho e1
  have HG : Hid ((w.alloc (.cells (av fun n => (cn l n : Int)) 126)).heap[w.heap.size]? = some (.cells (av fun n => (cn l n : Int)) 126 (0, 0))) := heap_alloc_new w _
  have HB : Hid (Below w.heap.size w (w.alloc (.cells (av fun n => (cn l n : Int)) 126))) := (Below.refl _ _).alloc (Nat.le_refl _) _
  obtain ⟨U, HUU⟩ : ∃ U : Nat, Hid (U = usum l) := ⟨_, rfl⟩
  have HSH : Hid (shp l = if tsum l = 0 then 0 else if tsum l = 1 ∧ usum l = 16384 then 1 else if 32768 < usum l then 3 else if usum l = 32768 then 4 else 2) := rfl
  rw [← HUU.out] at hb HSH q2
  go_enter Tryz.func75, Tryz.ntmps75
  go_wp2_with ((with_reducible refine wpList_loadP w.heap.size _ ?hx HG.out ?_); (case hx => rfl))
  refine (used_any l _ HL.out).mono ?_
  rintro e w2 ⟨rfl, hb2⟩
  rw [HU.out, ← HUU.out]
  have HG2 : Hid (w2.heap[w.heap.size]? = some (.cells (av fun n => (cn l n : Int)) 126 (0, 0))) := (hb2.block _ (by simp)).trans HG.out
  have HB2 : Hid (Below w.heap.size w w2) := HB.out.trans (hb2.mono (by simp))
  clear hb2 HG HB
  by_cases c1 : tsum l = 0
  · have d1 : decide (tsum l = 0) = true := decide_eq_true c1
    rw [d1] at q1
    have HX : Hid (shp l = 0) := by show _ = _; rw [HSH.out, if_pos c1]
    clear c1 d1 HSH q2
    go_wp2_with ((with_reducible refine wpList_loadP w.heap.size _ ?hx HG2.out ?_); (case hx => rfl))
    go_ret
    rw [HX.out]
    exact ⟨rfl, HB2.out⟩
  have d1 : decide (tsum l = 0) = false := decide_eq_false c1
  rw [d1] at q1
  by_cases c2 : tsum l = 1 ∧ U = 16384
  · have d2 : decide (tsum l = 1 ∧ U = 16384) = true := decide_eq_true c2
    rw [d2] at q2
    have HX : Hid (shp l = 1) := by show _ = _; rw [HSH.out, if_neg c1, if_pos c2]
    clear c1 d1 c2 d2 HSH
    go_wp2_with ((with_reducible refine wpList_loadP w.heap.size _ ?hx HG2.out ?_); (case hx => rfl))
    go_ret
    rw [HX.out]
    exact ⟨rfl, HB2.out⟩
  have d2 : decide (tsum l = 1 ∧ U = 16384) = false := decide_eq_false c2
  rw [d2] at q2
  have HX : Hid (shp l = if 32768 < U then 3 else if U = 32768 then 4 else 2) := by show _ = _; rw [HSH.out, if_neg c1, if_neg c2]
  clear c1 d1 c2 d2 HSH
  by_cases c3 : 32768 < U
  · have HY : Hid (shp l = 3) := by show _ = _; rw [HX.out, if_pos c3]
    clear HX
    go_wp2_with ((with_reducible refine wpList_loadP w.heap.size _ ?hx HG2.out ?_); (case hx => rfl))
    go_ret
    rw [HY.out]
    exact ⟨rfl, HB2.out⟩
  by_cases c4 : U = 32768
  · have HY : Hid (shp l = 4) := by show _ = _; rw [HX.out, if_neg c3, if_pos c4]
    clear HX HUU
    subst c4
    go_wp2_with ((with_reducible refine wpList_loadP w.heap.size _ ?hx HG2.out ?_); (case hx => rfl))
    go_ret
    rw [HY.out]
    exact ⟨rfl, HB2.out⟩
  · have HY : Hid (shp l = 2) := by show _ = _; rw [HX.out, if_neg c3, if_neg c4]
    clear HX
    go_wp2_with ((with_reducible refine wpList_loadP w.heap.size _ ?hx HG2.out ?_); (case hx => rfl))
    go_ret
    rw [HY.out]
    exact ⟨rfl, HB2.out⟩
end Go.Proofs.YtiabhmdefaabgacGreatDoor

namespace Go.Proofs.YtiabhmdefaabgacGreatDoor
open Go.RowKit Go.Maps
set_option maxRecDepth 20000

/-- All words. -/
def wds (l : List Int) : List Int := (List.range l.length).map fun s => (wd l s : Int)

theorem wds_len (l : List Int) : (wds l).length = l.length := by simp [wds]

theorem wds_get {l : List Int} {k : Nat} (h : k < l.length) : (wds l).getD k 0 = (wd l k : Int) := by simp [wds, h]

def outAt (l : List Int) (k : Nat) : List Int := (wds l).take k ++ List.replicate (l.length - k) 0

theorem out_zero (l : List Int) : outAt l 0 = List.replicate l.length 0 := by simp [outAt]

theorem out_end (l : List Int) : outAt l l.length = wds l := by
  unfold outAt
  rw [List.take_of_length_le (by rw [wds_len]; exact Nat.le_refl _)]; simp

theorem out_len {l : List Int} {k : Nat} (h : k ≤ l.length) : (outAt l k).length = l.length := by
  unfold outAt
  rw [List.length_append, List.length_take, wds_len, List.length_replicate]; omega

theorem out_succ {l : List Int} {k : Nat} (h : k < l.length) : outAt l (k + 1) = (outAt l k).set k (wd l k : Int) := by
  unfold outAt
  have hl : k < (wds l).length := by rw [wds_len]; exact h
  rw [List.take_succ_eq_append_getElem hl]
  have e : (wds l)[k] = (wd l k : Int) := by simp [wds]
  rw [e]
  have h2 : ((wds l).take k).length = k := by rw [List.length_take]; omega
  rw [List.set_append_right _ _ (by omega), h2, Nat.sub_self]
  rw [show l.length - k = (l.length - (k + 1)) + 1 by omega, List.replicate_succ, List.set_cons_zero]
  simp

theorem out_same {l : List Int} {k : Nat} (h : k < l.length) (h0 : ln l k = 0) : outAt l (k + 1) = outAt l k := by
  unfold outAt
  have hl : k < (wds l).length := by rw [wds_len]; exact h
  rw [List.take_succ_eq_append_getElem hl]
  have e : (wds l)[k] = 0 := by simp [wds, wd, h0]
  rw [e, show l.length - k = (l.length - (k + 1)) + 1 by omega, List.replicate_succ]
  simp

/-- The next words, and the words so far. -/
def Wst (w : World) (l : List Int) (k : Nat) (wr : World) : Prop := wr.heap[w.heap.size]? = some (.cells (av fun n => (fi l n : Int) + cn (l.take k) n) 126 (0, 0)) ∧ wr.heap[w.heap.size + 1]? = some (.cells ((outAt l k).map (Value.int .i64)).toArray 3 (0, 0)) ∧ Below w.heap.size w wr

theorem Wst.nx {w wr : World} {l : List Int} {k n : Nat} (h : Wst w l k wr) (hn : n < 16) : wr.cell? ⟨w.heap.size, n, none⟩ = some (.int .i64 ((fi l n : Int) + cn (l.take k) n)) := by
  rw [cell_of_row _ _ _ _ _ _ h.1, av_get _ hn]

theorem Wst.ou {w wr : World} {l : List Int} {k : Nat} (h : Wst w l k wr) (hk : k < l.length) : ∃ x, wr.cell? ⟨w.heap.size + 1, k, none⟩ = some (.int .i64 x) := by
  have e : k < (outAt l k).length := by rw [out_len (by omega)]; exact hk
  refine ⟨(outAt l k)[k], ?_⟩
  rw [cell_of_row _ _ _ _ _ _ h.2.1]
  simp [e]

theorem map_set (L : List Int) (k : Nat) (x : Int) : ((L.map (Value.int .i64)).toArray.setIfInBounds k (.int .i64 x)) = ((L.set k x).map (Value.int .i64)).toArray := by
  apply Array.ext'
  rw [Array.toList_setIfInBounds]
  simp [List.map_set]

theorem Wst.zero {w wr : World} {l : List Int} {k : Nat} (h : Wst w l k wr) (hk : k < l.length) (h0 : ln l k = 0) (hl : Lens l) : Wst w l (k + 1) wr := by
  refine ⟨?_, by rw [out_same hk h0]; exact h.2.1, h.2.2⟩
  rw [h.1, av_congr fun i _ => ?_]
  rw [cn_snoc hk, if_neg (fun x => x.1 (by have := (hl.ln k).1; omega))]; rfl

theorem Wst.step {w wr : World} {l : List Int} {k n : Nat} (h : Wst w l k wr) (hk : k < l.length) (hn : ln l k = n) (h0 : n ≠ 0) (hl : Lens l) (x : Int) (hx : x = (fi l n : Int) + cn (l.take k) n) :
    Wst w l (k + 1) ((wr.setCell ⟨w.heap.size + 1, k, none⟩ (.int .i64 x)).setCell ⟨w.heap.size, n, none⟩ (.int .i64 (x + 1))) := by
  have hln := hl.ln k
  have hwd : (wd l k : Int) = x := by
    rw [hx, Has.wd ⟨hk, by omega⟩, hn]
    unfold rk cn
    rw [if_neg h0, hln.1, hn]
    push_cast; rfl
  refine ⟨?_, ?_, ?_⟩
  · have h1 : (wr.setCell ⟨w.heap.size + 1, k, none⟩ (.int .i64 x)).heap[w.heap.size]? = some (.cells (av fun n => (fi l n : Int) + cn (l.take k) n) 126 (0, 0)) := (setCell_others wr _ k _ _ (by omega)).trans h.1
    rw [heap_setCell_same _ _ _ _ _ _ h1, av_set _ _ (by omega)]
    rw [av_congr fun i _ => ?_]
    unfold upf
    rw [cn_snoc hk]
    by_cases e : i = n
    · subst e
      rw [if_pos rfl, if_pos ⟨h0, by omega⟩]
      omega
    · rw [if_neg e, if_neg (fun y => e (by have := y.2; omega))]; rfl
  · rw [setCell_others _ _ n _ _ (by omega), heap_setCell_same _ _ _ _ _ _ h.2.1, map_set, out_succ hk, hwd]
  · exact (h.2.2.setCell (by show _ ≤ w.heap.size + 1; omega) _).setCell (by show _ ≤ w.heap.size; omega) _

theorem words_any (v : Value) (l : List Int) (w : World) (h : SI w v l) (hl : Lens l) :
    Calls Tryz.prog 85 #[v, .agg (av fun n => (fi l n : Int))] w fun e w' => ∃ a c, e = .returned (.slice a l.length c) ∧ OI w' w.heap.size (.slice a l.length c) (wds l) ∧ Below w.heap.size w w' := by
  have HS := hide h
  have HL := hide hl
  have h288 := hl.1
  obtain ⟨ao, cap, rfl, hlc, hcm⟩ := h.open
  clear h hl
  go_enter Tryz.func85, Tryz.ntmps85
  go_wp2_with (at_make; refine wpList_mkI rfl _ _ rfl _ _ _ _ l.length l.length rfl rfl rfl rfl (Nat.le_refl _) (by omega) ?_)
  intro w1 hg hb1
  have HW : Hid (Wst w l 0 w1) := by
    have hs : (w.alloc (.cells (av fun n => (fi l n : Int)) 126)).heap.size = w.heap.size + 1 := size_alloc' _ _
    (try rw [hs] at hg)
    (try rw [hs] at hb1)
    refine ⟨?_, ?_, ((Below.refl _ _).alloc (Nat.le_refl _) _).trans (hb1.mono (by omega))⟩
    · rw [hb1.block _ (by omega), heap_alloc_new]
      rw [av_congr fun i _ => ?_]
      simp [cn]
    · rw [hg, out_zero]; simp
  clear hg hb1
  (try simp only [size_alloc'])
  go_wp2
  go_loopw [13] (fun i wr => ∃ k : Nat, k ≤ l.length ∧ i = .int .i64 k ∧ Hid (Wst w l k wr)) (fun i _ => l.length - (intOf i).toNat)
  case atStart => exact ⟨0, Nat.zero_le _, rfl, HW⟩
  case round =>
    clear HW
    obtain ⟨k, hk, rfl, HT⟩ := hrel
    by_cases hlt : k < l.length
    · have hlt' : (k : Int) < (l.length : Int) := by omega
      obtain ⟨b, o, rfl, hc⟩ := HS.out.get HT.out.2.2 hlt
      obtain ⟨n, HN⟩ : ∃ n, Hid (ln l k = n) := ⟨_, rfl⟩
      have hn15 : n < 16 := by rw [← HN.out]; have := (HL.out.ln k).2; omega
      rw [(HL.out.ln k).1, HN.out] at hc
      by_cases h0 : n = 0
      · subst h0
        have HNX := hide (HT.out.zero hlt HN.out HL.out)
        go_wp2
        go_roundw
        case rel => exact ⟨k + 1, by omega, by go_num, HNX⟩
        case measure => simp [intOf]; omega
      · have h0' : (0 : Int) < n := by omega
        have c1 := HT.out.nx hn15
        obtain ⟨y, c2⟩ := HT.out.ou hlt
        have f1 : wr.frozen? ⟨w.heap.size + 1, k, none⟩ = false := frozen_of_row _ _ _ _ _ HT.out.2.1
        obtain ⟨x, HX⟩ : ∃ x, Hid (x = (fi l n : Int) + cn (l.take k) n) := ⟨_, rfl⟩
        rw [← HX.out] at c1
        have hx : 0 ≤ x ∧ x ≤ 100000000 := by
          have h1 := fi_top HL.out (n := n) (by omega)
          have h2 := cn_le (l.take k) n
          rw [List.length_take] at h2
          rw [HX.out]; omega
        have HNX := hide (HT.out.step hlt HN.out h0 HL.out x HX.out)
        have hne : w.heap.size ≠ w.heap.size + 1 := by omega
        have c3 : (wr.setCell ⟨w.heap.size + 1, k, none⟩ (.int .i64 x)).cell? ⟨w.heap.size, n, none⟩ = some (.int .i64 x) := by
          rw [World.cell?_of_block (setCell_others wr _ k _ _ hne)]; exact c1
        have f3 : (wr.setCell ⟨w.heap.size + 1, k, none⟩ (.int .i64 x)).frozen? ⟨w.heap.size, n, none⟩ = false := frozen_of_row _ _ _ _ _ ((setCell_others wr _ k _ _ hne).trans HT.out.1)
        clear HT
        go_wp2
        go_roundw
        case rel => exact ⟨k + 1, by omega, by go_num, HNX⟩
        case measure => simp [intOf]; omega
    · obtain rfl : k = l.length := by omega
      have hlt' : ¬ (l.length : Int) < (l.length : Int) := by omega
      go_wp2
      go_ret
      refine ⟨_, _, rfl, ?_, HT.out.2.2⟩
      have e := HT.out.2.1
      rw [out_end] at e
      have := OI.of_full (base := w.heap.size) e (by omega) (by rw [wds_len]; unfold maxLen; omega)
      rwa [wds_len] at this
end Go.Proofs.YtiabhmdefaabgacGreatDoor

namespace Go.Proofs.YtiabhmdefaabgacGreatDoor
open Go.RowKit Go.Maps
set_option maxRecDepth 20000

instance (l : List Int) : Decidable (Lens l) := by unfold Lens; exact inferInstance

def chkE (l : List Int) : Int := if 288 < l.length then 1 else if Lens l then 0 else 50
def chkS (l : List Int) : Int := if Lens l then shp l else 0

def okTo (l : List Int) (k : Nat) : Prop := ∀ i, i < k → 0 ≤ l.getD i 0 ∧ l.getD i 0 ≤ 15

theorem okTo_lens {l : List Int} (h : okTo l l.length) (h2 : l.length ≤ 288) : Lens l := by
  refine ⟨h2, fun x hx => ?_⟩
  obtain ⟨i, hi, rfl⟩ := List.getElem_of_mem hx
  have := h i hi
  rwa [show l.getD i 0 = l[i] by simp [hi]] at this

theorem okTo_succ {l : List Int} {k : Nat} (h : okTo l k) (hk : 0 ≤ l.getD k 0 ∧ l.getD k 0 ≤ 15) : okTo l (k + 1) := fun i hi => by
  by_cases e : i = k
  · subst e; exact hk
  · exact h i (by omega)

theorem not_lens {l : List Int} {k : Nat} (h : ¬ (0 ≤ l.getD k 0 ∧ l.getD k 0 ≤ 15)) : ¬ Lens l := fun hl => h (hl.at k)

theorem check_any (v : Value) (l : List Int) (w : World) (h : SI w v l) :
    Calls Tryz.prog 52 #[v] w fun e w' => e = .returned (.tuple #[.int .i64 (chkS l), .int .i64 (chkE l)]) ∧ Below w.heap.size w w' := by
  have HS := hide h
  obtain ⟨ao, cap, rfl, hlc, hcm⟩ := h.open
  clear h
  by_cases hlen : 288 < l.length
  · have hlen' : (288 : Int) < l.length := by omega
    have hn : ¬ Lens l := fun h => by have := h.1; omega
    have HE : Hid (chkE l = 1 ∧ chkS l = 0) := ⟨if_pos hlen, if_neg hn⟩
    clear hn
    go_enter Tryz.func52, Tryz.ntmps52
    go_wp2
    go_ret2
    rw [HE.out.1, HE.out.2]
    exact ⟨rfl, Below.refl _ _⟩
  have hlen' : ¬ (288 : Int) < l.length := by omega
  have HNL := hide hlen
  clear hlen
  go_enter Tryz.func52, Tryz.ntmps52
  go_wp2
  go_loopw [11] (fun i wr => ∃ k : Nat, k ≤ l.length ∧ i = .int .i64 k ∧ wr = w ∧ Hid (okTo l k)) (fun i _ => l.length - (intOf i).toNat)
  case atStart => exact ⟨0, Nat.zero_le _, rfl, rfl, fun i hi => by omega⟩
  case round =>
    obtain ⟨k, hk, rfl, rfl, HT⟩ := hrel
    by_cases hlt : k < l.length
    · have hlt' : (k : Int) < (l.length : Int) := by omega
      obtain ⟨b, o, rfl, hc⟩ := HS.out.get (Below.refl _ _) hlt
      obtain ⟨x, HX⟩ : ∃ x, Hid (x = l.getD k 0) := ⟨_, rfl⟩
      rw [← HX.out] at hc
      by_cases hb : 0 ≤ x ∧ x ≤ 15
      · have HN : Hid (okTo l (k + 1)) := okTo_succ HT.out (by rw [← HX.out]; exact hb)
        obtain ⟨b0, b1⟩ := hb
        have b0' : ¬ x < 0 := by omega
        have b1' : ¬ 15 < x := by omega
        clear HT
        go_wp2
        go_roundw
        case rel => exact ⟨k + 1, by omega, by go_num, by trivial, HN⟩
        case measure => simp [intOf]; omega
      · have hn : ¬ Lens l := not_lens (k := k) (by rw [← HX.out]; exact hb)
        have HE : Hid (chkE l = 50 ∧ chkS l = 0) := ⟨by unfold chkE; rw [if_neg HNL.out, if_neg hn], if_neg hn⟩
        clear hn
        by_cases b0 : x < 0
        · clear hb
          go_wp2
          go_ret2
          rw [HE.out.1, HE.out.2]
          exact ⟨rfl, Below.refl _ _⟩
        · have b1 : 15 < x := by omega
          clear hb
          go_wp2
          go_ret2
          rw [HE.out.1, HE.out.2]
          exact ⟨rfl, Below.refl _ _⟩
    · obtain rfl : k = l.length := by omega
      have hl : Lens l := okTo_lens HT.out (by have := HNL.out; omega)
      have HL := hide hl
      have HE : Hid (chkE l = 0 ∧ chkS l = shp l) := ⟨by unfold chkE; rw [if_neg HNL.out, if_pos hl], if_pos hl⟩
      have hlt' : ¬ (l.length : Int) < (l.length : Int) := by omega
      clear hl HT
      go_wp2_with fail
      refine (count_any _ l _ HS.out HL.out).mono ?_
      rintro e w1 ⟨rfl, hb1⟩
      have HB1 := hide hb1
      clear hb1
      go_wp2_with fail
      refine (shape_any l _ HL.out).mono ?_
      rintro e w2 ⟨rfl, hb2⟩
      have HB2 : Hid (Below wr.heap.size wr w2) := HB1.out.trans (hb2.mono HB1.out.size)
      clear hb2
      go_wp2
      go_ret2
      rw [HE.out.1, HE.out.2]
      exact ⟨rfl, HB2.out⟩

def cdE (l : List Int) : Int := if chkE l ≠ 0 then chkE l else if shp l = 3 then 51 else 0
def cdL (l : List Int) : List Int := if cdE l = 0 then wds l else []

theorem chkE_zero {l : List Int} (h : chkE l = 0) : Lens l ∧ chkS l = shp l := by
  unfold chkE at h
  by_cases h1 : 288 < l.length
  · rw [if_pos h1] at h; omega
  · rw [if_neg h1] at h
    by_cases h2 : Lens l
    · exact ⟨h2, if_pos h2⟩
    · rw [if_neg h2] at h; omega

end Go.Proofs.YtiabhmdefaabgacGreatDoor

