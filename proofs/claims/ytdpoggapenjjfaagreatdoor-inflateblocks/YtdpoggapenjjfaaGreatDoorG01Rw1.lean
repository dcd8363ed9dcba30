import Derived.Test.YtdpoggapenjjfaaGreatDoorG00Rev
import Derived.Laws.Rows
import Derived.Laws.Tables
import Derived.Test.YtdpoggapenjjfaaGreatDoorRows
namespace Go.Proofs.YtdpoggapenjjfaaGreatDoor
open Go.RowKit Go.Maps
set_option maxRecDepth 20000

def av (f : Nat → Int) : Array Value := Array.ofFn fun i : Fin 16 => Value.int .i64 (f i)

theorem av_size (f : Nat → Int) : (av f).size = 16 := by simp [av]

theorem av_get (f : Nat → Int) {i : Nat} (h : i < 16) : (av f)[i]? = some (.int .i64 (f i)) := by simp [av, h]

def upf (f : Nat → Int) (i : Nat) (x : Int) : Nat → Int := fun k => if k = i then x else f k

theorem av_set (f : Nat → Int) {i : Nat} (x : Int) (h : i < 16) : (av f).setIfInBounds i (.int .i64 x) = av (upf f i x) := by
  apply Array.ext_getElem?
  intro k
  rw [Array.getElem?_setIfInBounds]
  by_cases e : i = k
  · subst e; simp [av, h, upf]
  · rw [if_neg e]
    by_cases hk : k < 16
    · have : k ≠ i := fun h => e h.symm
      simp [av, hk, upf, this]
    · simp [av, hk]

theorem av_congr {f g : Nat → Int} (h : ∀ i, i < 16 → f i = g i) : av f = av g := by
  unfold av
  congr 1
  funext i
  rw [h i i.2]

theorem av_one (f : Nat → Int) : (av f).all (·.oneCell') = true := by
  rw [Array.all_eq_true]
  intro i hi
  simp [av, Value.oneCell']

theorem av_zero : av (fun _ => 0) = #[.int .i64 0, .int .i64 0, .int .i64 0, .int .i64 0, .int .i64 0, .int .i64 0, .int .i64 0, .int .i64 0, .int .i64 0, .int .i64 0, .int .i64 0, .int .i64 0, .int .i64 0, .int .i64 0, .int .i64 0, .int .i64 0] := rfl

theorem sizePer (f : Nat → Int) : (Tryz.prog.info? 125).map (·.size) = some (av f).size := by rw [av_size]; kernel_rfl

theorem wpList_loadP {ops : Array Oper} {rest : List Oper} {a : Act} {w : World} {Q : Exit → Act → World → Prop} {dst : Option Tmp} {x : Operand} {ty : TypeId} {pos : String} {after : Array Edge} (g : Nat) (f : Nat → Int)
    (hx : a.eval x = .pointer (some ⟨g, 0, none⟩)) (hg : w.heap[g]? = some (.cells (av f) 125 (0, 0))) (h : wpList Tryz.prog ops Q rest (a.put dst (.agg (av f))) w) :
    wpList Tryz.prog ops Q ({ dst := dst, op := .load 125 x, type := ty, pos := pos, after := after, guard := none } :: rest) a w :=
  wpList_load_row rfl 125 x rfl g hx 125 (av f) (0, 0) _ hg Tryz.underlying125 rfl (sizePer f) h

theorem wpList_storeP {ops : Array Oper} {rest : List Oper} {a : Act} {w : World} {Q : Exit → Act → World → Prop} {dst : Option Tmp} {x y : Operand} {ty : TypeId} {pos : String} {after : Array Edge} (g : Nat) (f h0 : Nat → Int)
    (hx : a.eval x = .pointer (some ⟨g, 0, none⟩)) (hy : a.eval y = .agg (av f)) (hg : w.heap[g]? = some (.cells (av h0) 125 (0, 0))) (h : wpList Tryz.prog ops Q rest (a.put dst undef) (w.setRow g (av f))) :
    wpList Tryz.prog ops Q ({ dst := dst, op := .store 125 x y, type := ty, pos := pos, after := after, guard := none } :: rest) a w :=
  wpList_store_row rfl 125 x y rfl g (av f) hx hy 125 (av h0) hg (sizePer f) (by rw [av_size, av_size]) (av_one f) h

theorem ret_per {fn : Func} {R : Ending → World → Prop} {a : Act} {w : World} {p : Tmp} (hres : fn.results = #[.cell p 125]) (g : Nat) (f : Nat → Int) (hp : a.tmps.getD p undef = .pointer (some ⟨g, 0, none⟩))
    (hg : w.heap[g]? = some (.cells (av f) 125 (0, 0))) (hd : a.defers = []) (hR : R (.returned (.agg (av f))) w) : bodyPost Tryz.prog fn R .ret a w :=
  bodyPost_ret (results_cell_row hres a.tmps w g 125 (av f) (0, 0) _ hp hg Tryz.underlying125 rfl (sizePer f)) hd hR

theorem SI.get {W w : World} {ao : Option Addr} {cap : Nat} {l : List Int} (h : SI W (.slice ao l.length cap) l) (hb : Below W.heap.size W w) {k : Nat} (hk : k < l.length) : ∃ b o, ao = some ⟨b, o, none⟩ ∧ w.cell? ⟨b, o + k, none⟩ = some (.int .i64 (l.getD k 0)) := by
  obtain ⟨ao', cap', he, h1, h2, h3, h4⟩ := h
  simp only [Value.slice.injEq] at he
  obtain ⟨rfl, -, rfl⟩ := he
  cases ao with
  | none => have := h3 rfl; omega
  | some x =>
    obtain ⟨b, o, rfl⟩ := addr_lit (h4 x rfl 0 (by omega))
    have hc := h4 _ rfl k hk
    have hbl := World.block_lt_of_cell? _ _ hc
    rw [Addr.add_lit] at hc hbl
    exact ⟨b, o, rfl, (hb.cell hbl).trans hc⟩

theorem SI.open {w : World} {v : Value} {l : List Int} (h : SI w v l) : ∃ ao cap, v = .slice ao l.length cap ∧ l.length ≤ cap ∧ cap ≤ 9223372036854775807 := by
  obtain ⟨ao, cap, rfl, h1, h2, _⟩ := h
  unfold maxLen at h2
  exact ⟨ao, cap, rfl, h1, by omega⟩

def Two (w : World) (f g : Nat → Int) (wr : World) : Prop := wr.heap[w.heap.size]? = some (.cells (av f) 125 (0, 0)) ∧ wr.heap[w.heap.size + 1]? = some (.cells (av g) 125 (0, 0)) ∧ Below w.heap.size w wr

theorem two_start (w : World) (o p : Obj) (f g : Nat → Int) (ho : o = .cells (av f) 125 (0, 0)) (hp : p = .cells (av g) 125 (0, 0)) : Two w f g ((w.alloc o).alloc p) := by
  subst ho hp
  obtain ⟨h1, h2⟩ := heap_two w (.cells (av f) 125 (0, 0)) (.cells (av g) 125 (0, 0))
  exact ⟨h2, h1, ((Below.refl _ _).alloc (Nat.le_refl _) _).alloc (by simp) _⟩

theorem Two.cell {w wr : World} {f g : Nat → Int} (h : Two w f g wr) {n : Nat} (hn : n < 16) : wr.cell? ⟨w.heap.size + 1, n, none⟩ = some (.int .i64 (g n)) := by
  rw [cell_of_row _ _ _ _ _ _ h.2.1, av_get g hn]

theorem Two.free {w wr : World} {f g : Nat → Int} (h : Two w f g wr) (n : Nat) : wr.frozen? ⟨w.heap.size + 1, n, none⟩ = false := frozen_of_row _ _ _ _ _ h.2.1
theorem Two.free0 {w wr : World} {f g : Nat → Int} (h : Two w f g wr) (n : Nat) : wr.frozen? ⟨w.heap.size, n, none⟩ = false := frozen_of_row _ _ _ _ _ h.1

theorem Two.set {w wr : World} {f g : Nat → Int} (h : Two w f g wr) {n : Nat} (hn : n < 16) (x : Int) : Two w f (upf g n x) (wr.setCell ⟨w.heap.size + 1, n, none⟩ (.int .i64 x)) := by
  refine ⟨(setCell_others wr _ n _ _ (by omega)).trans h.1, ?_, ?_⟩
  · rw [heap_setCell_same _ _ _ _ _ _ h.2.1, av_set g x hn]
  · exact h.2.2.setCell (by show _ ≤ w.heap.size + 1; omega) _

theorem Two.drewN {w wr : World} {f g : Nat → Int} (h : Two w f g wr) (n : Nat) : Two w f g (wr.drewN n) := ⟨h.1, h.2.1, below_drewN h.2.2 n⟩

theorem Two.over {w wr : World} {f g f' : Nat → Int} (h : Two w f g wr) : Two w f' g (wr.setRow w.heap.size (av f')) := by
  refine ⟨setRow_heap wr _ _ _ _ _ h.1, (setRow_other wr _ _ _ (by omega)).trans h.2.1, ?_⟩
  exact ⟨h.2.2.os, h.2.2.tape, h.2.2.output, by rw [size_setRow]; exact h.2.2.size, fun k hk => (setRow_other wr _ _ _ (by omega)).trans (h.2.2.block k hk)⟩

theorem cn_snoc {l : List Int} {k : Nat} (hk : k < l.length) (n : Nat) : cn (l.take (k + 1)) n = cn (l.take k) n + if n ≠ 0 ∧ l.getD k 0 = (n : Int) then 1 else 0 := by
  unfold cn
  by_cases h : n = 0
  · simp [h]
  · rw [if_neg h, if_neg h, count_take_succ l _ hk]
    by_cases e : l.getD k 0 = (n : Int)
    · rw [if_pos e, if_pos ⟨h, e⟩]
    · rw [if_neg e, if_neg (fun x => e x.2)]

theorem cn_step {l : List Int} {k n : Nat} (hk : k < l.length) (hn : l.getD k 0 = (n : Int)) :
    (n = 0 → (av fun m => (cn (l.take (k + 1)) m : Int)) = av fun m => (cn (l.take k) m : Int)) ∧ (n ≠ 0 → (av fun m => (cn (l.take (k + 1)) m : Int)) = av (upf (fun m => (cn (l.take k) m : Int)) n ((cn (l.take k) n : Int) + 1))) := by
  refine ⟨fun h => av_congr fun i _ => ?_, fun h => av_congr fun i _ => ?_⟩
  · rw [cn_snoc hk, if_neg (fun x => x.1 (by have := x.2; omega))]; rfl
  · rw [cn_snoc hk]
    unfold upf
    by_cases e : i = n
    · subst e
      rw [if_pos ⟨h, hn⟩, if_pos rfl]; omega
    · rw [if_neg (fun x => e (by have := x.2; omega)), if_neg e]; rfl

theorem count_any (v : Value) (l : List Int) (w : World) (h : SI w v l) (hl : Lens l) :
    Calls Tryz.prog 85 #[v] w fun e w' => e = .returned (.agg (av fun n => (cn l n : Int))) ∧ Below w.heap.size w w' := by
  have HS := hide h
  have HL := hide hl
  have h288 := hl.1
  obtain ⟨ao, cap, rfl, hlc, hcm⟩ := h.open
  clear h hl
  go_enter Tryz.func85, Tryz.ntmps85
  go_wp2
  go_loopw [8] (fun i wr => ∃ k : Nat, k ≤ l.length ∧ i = .int .i64 k ∧ Hid (Two w (fun _ => 0) (fun n => (cn (l.take k) n : Int)) wr)) (fun i _ => l.length - (intOf i).toNat)
  case atStart =>
    refine ⟨0, Nat.zero_le _, rfl, two_start w _ _ _ _ ?_ ?_⟩
    · rw [av_zero]
    · rw [show (fun n => (cn (l.take 0) n : Int)) = fun _ => 0 by funext n; simp [cn], av_zero]
  case round =>
    obtain ⟨k, hk, rfl, HT⟩ := hrel
    by_cases hlt : k < l.length
    · have hlt' : (k : Int) < (l.length : Int) := by omega
      obtain ⟨b, o, rfl, hc⟩ := HS.out.get HT.out.2.2 hlt
      obtain ⟨n, hn⟩ : ∃ n, n = ln l k := ⟨_, rfl⟩
      have HN : Hid (l.getD k 0 = (n : Int)) := by show _ = _; rw [hn]; exact (HL.out.ln k).1
      have hn15 : n < 16 := by rw [hn]; have := (HL.out.ln k).2; omega
      rw [HN.out] at hc
      clear hn
      have HX := hide (cn_step hlt HN.out)
      by_cases h0 : n = 0
      · subst h0
        go_wp2
        go_roundw
        case rel => exact ⟨k + 1, by omega, by go_num, by show Two _ _ _ _; exact ⟨HT.out.1, by rw [HX.out.1 rfl]; exact HT.out.2.1, HT.out.2.2⟩⟩
        case measure => simp [intOf]; omega
      · have h0' : (0 : Int) < n := by omega
        have hcn := HT.out.cell hn15
        have hfz := HT.out.free n
        have hle : cn (l.take k) n ≤ 288 := by
          have := cn_le (l.take k) n
          rw [List.length_take] at this; omega
        obtain ⟨c, HC⟩ : ∃ c : Nat, Hid (c = cn (l.take k) n) := ⟨_, rfl⟩
        rw [← HC.out] at hcn hle
        go_wp2
        go_roundw
        case rel =>
          refine ⟨k + 1, by omega, by go_num, ?_⟩
          have := HT.out.set hn15 ((c : Int) + 1)
          refine ⟨this.1, ?_, this.2.2⟩
          rw [HX.out.2 h0, ← HC.out]
          exact this.2.1
        case measure => simp [intOf]; omega
    · obtain rfl : k = l.length := by omega
      have hlt' : ¬ (l.length : Int) < (l.length : Int) := by omega
      have HT2 : Hid (Two w (fun _ => 0) (fun n => (cn l n : Int)) wr) := by have := HT.out; rwa [List.take_of_length_le (Nat.le_refl _)] at this
      clear HT
      have HA := hide HT2.out.2.1
      have HB := hide HT2.out.1
      have HO := hide (HT2.out.over (f' := fun n => (cn l n : Int)))
      clear HT2
      go_wp2_with (first | ((with_reducible refine wpList_loadP (w.heap.size + 1) _ ?hx HA.out ?_); case hx => rfl) | ((with_reducible refine wpList_storeP w.heap.size (fun n => (cn l n : Int)) _ ?hx ?hy HB.out ?_); (case hx => rfl); (case hy => rfl)))
      (try simp only [Exit.inBlock, Exit.then])
      refine ret_per (p := 2) ?h1 w.heap.size _ ?h2 HO.out.1 ?h3 ?_
      case h1 => rfl
      case h2 => rfl
      case h3 => rfl
      exact ⟨rfl, HO.out.2.2⟩

theorem fi_step {l : List Int} {k : Nat} : (av (upf (fun m => if m ≤ k then (fi l m : Int) else 0) (k + 1) (((fi l k : Int) + cn l k) * 2))) = av fun m => if m ≤ k + 1 then (fi l m : Int) else 0 := by
  refine av_congr fun i _ => ?_
  unfold upf
  by_cases e : i = k + 1
  · subst e
    rw [if_pos rfl, if_pos (Nat.le_refl _)]
    simp only [fi]; omega
  · rw [if_neg e]
    show (if i ≤ k then _ else _) = _
    by_cases h : i ≤ k
    · rw [if_pos h, if_pos (by omega)]
    · rw [if_neg h, if_neg (by omega)]

def Tri (w : World) (h f g : Nat → Int) (wr : World) : Prop := wr.heap[w.heap.size]? = some (.cells (av h) 125 (0, 0)) ∧ wr.heap[w.heap.size + 1]? = some (.cells (av f) 125 (0, 0)) ∧ wr.heap[w.heap.size + 1 + 1]? = some (.cells (av g) 125 (0, 0)) ∧ Below w.heap.size w wr

theorem tri_start (w : World) (h f g : Nat → Int) : Tri w h f g (((w.alloc (.cells (av h) 125 (0, 0))).alloc (.cells (av f) 125 (0, 0))).alloc (.cells (av g) 125 (0, 0))) := by
  have h1 := heap_two (w.alloc (.cells (av h) 125 (0, 0))) (.cells (av f) 125 (0, 0)) (.cells (av g) 125 (0, 0))
  rw [size_alloc'] at h1
  refine ⟨?_, h1.2, h1.1, (((Below.refl _ _).alloc (Nat.le_refl _) _).alloc (by simp) _).alloc (by simp; omega) _⟩
  rw [Below.heap_alloc _ _ _ (by simp; omega), Below.heap_alloc _ _ _ (by simp)]
  exact heap_alloc_new w _

theorem Tri.cellh {w wr : World} {h f g : Nat → Int} (t : Tri w h f g wr) {n : Nat} (hn : n < 16) : wr.cell? ⟨w.heap.size, n, none⟩ = some (.int .i64 (h n)) := by
  rw [cell_of_row _ _ _ _ _ _ t.1, av_get h hn]

theorem Tri.cellg {w wr : World} {h f g : Nat → Int} (t : Tri w h f g wr) {n : Nat} (hn : n < 16) : wr.cell? ⟨w.heap.size + 1 + 1, n, none⟩ = some (.int .i64 (g n)) := by
  rw [cell_of_row _ _ _ _ _ _ t.2.2.1, av_get g hn]

theorem Tri.free {w wr : World} {h f g : Nat → Int} (t : Tri w h f g wr) (n : Nat) : wr.frozen? ⟨w.heap.size + 1 + 1, n, none⟩ = false := frozen_of_row _ _ _ _ _ t.2.2.1

theorem Tri.set {w wr : World} {h f g : Nat → Int} (t : Tri w h f g wr) {n : Nat} (hn : n < 16) (x : Int) : Tri w h f (upf g n x) (wr.setCell ⟨w.heap.size + 1 + 1, n, none⟩ (.int .i64 x)) := by
  refine ⟨(setCell_others wr _ n _ _ (by omega)).trans t.1, (setCell_others wr _ n _ _ (by omega)).trans t.2.1, ?_, ?_⟩
  · rw [heap_setCell_same _ _ _ _ _ _ t.2.2.1, av_set g x hn]
  · exact t.2.2.2.setCell (by show _ ≤ w.heap.size + 1 + 1; omega) _

theorem Tri.drewN {w wr : World} {h f g : Nat → Int} (t : Tri w h f g wr) (n : Nat) : Tri w h f g (wr.drewN n) := ⟨t.1, t.2.1, t.2.2.1, below_drewN t.2.2.2 n⟩

theorem Tri.over {w wr : World} {h f g f' : Nat → Int} (t : Tri w h f g wr) : Tri w h f' g (wr.setRow (w.heap.size + 1) (av f')) := by
  refine ⟨(setRow_other wr _ _ _ (by omega)).trans t.1, setRow_heap wr _ _ _ _ _ t.2.1, (setRow_other wr _ _ _ (by omega)).trans t.2.2.1, ?_⟩
  exact ⟨t.2.2.2.os, t.2.2.2.tape, t.2.2.2.output, by rw [size_setRow]; exact t.2.2.2.size, fun k hk => (setRow_other wr _ _ _ (by omega)).trans (t.2.2.2.block k hk)⟩

theorem firsts_any (l : List Int) (w : World) (hl : Lens l) :
    Calls Tryz.prog 88 #[.agg (av fun n => (cn l n : Int))] w fun e w' => e = .returned (.agg (av fun n => (fi l n : Int))) ∧ Below w.heap.size w w' := by
  have HL := hide hl
  clear hl
  obtain ⟨A, HA⟩ : ∃ A, Hid (A = av fun n => (cn l n : Int)) := ⟨_, rfl⟩
  rw [← HA.out]
  go_enter Tryz.func88, Tryz.ntmps88
  go_wp2
  go_loopw [4] (fun i wr => ∃ k : Nat, k ≤ 15 ∧ i = .int .i64 ((k : Int) + 1) ∧ Hid (Tri w (fun n => (cn l n : Int)) (fun _ => 0) (fun m => if m ≤ k then (fi l m : Int) else 0) wr)) (fun i _ => 16 - (intOf i).toNat)
  case atStart =>
    refine ⟨0, Nat.zero_le _, rfl, ?_⟩
    have := tri_start w (fun n => (cn l n : Int)) (fun _ => 0) (fun _ => 0)
    rw [← HA.out, av_zero] at this
    rw [show (fun m => if m ≤ 0 then (fi l m : Int) else 0) = fun _ => 0 by funext m; by_cases e : m ≤ 0; (obtain rfl : m = 0 := by omega); rfl; rw [if_neg e]]
    exact ⟨this.1, by rw [av_zero]; exact this.2.1, by rw [av_zero]; exact this.2.2.1, this.2.2.2⟩
  case round =>
    obtain ⟨k, hk, rfl, HT⟩ := hrel
    by_cases hlt : k < 15
    · have hlt' : (k : Int) + 1 ≤ 15 := by omega
      have c1 := HT.out.cellg (n := k) (by omega)
      have c2 := HT.out.cellh (n := k) (by omega)
      have hfz := HT.out.free (k + 1)
      have c3 := HT.out.cellg (n := k + 1) (by omega)
      rw [if_pos (Nat.le_refl _)] at c1
      rw [if_neg (by omega)] at c3
      have b1 := fi_top HL.out (n := k) (by omega)
      have b2 : cn l k ≤ 288 := by have := cn_le l k; have := HL.out.1; omega
      obtain ⟨x, HX⟩ : ∃ x : Nat, Hid (x = fi l k) := ⟨_, rfl⟩
      obtain ⟨y, HY⟩ : ∃ y : Nat, Hid (y = cn l k) := ⟨_, rfl⟩
      rw [← HX.out] at c1 b1
      rw [← HY.out] at c2 b2
      have e1 : (k : Int) + 1 - 1 = k := by omega
      have HR : Hid (∀ q, Tri w (fun n => (cn l n : Int)) (fun _ => 0) (fun m => if m ≤ k + 1 then (fi l m : Int) else 0) ((wr.drewN q).setCell ⟨w.heap.size + 1 + 1, k + 1, none⟩ (.int .i64 (((x : Int) + y) * 2)))) := fun q => by
        have := (HT.out.drewN q).set (n := k + 1) (by omega) (((x : Int) + y) * 2)
        refine ⟨this.1, this.2.1, ?_, this.2.2.2⟩
        rw [← fi_step, ← HX.out, ← HY.out]
        exact this.2.2.1
      clear HT
      go_wp2
      go_region
      go_wp2
      go_roundw
      case rel => exact ⟨k + 1, by omega, by go_num, HR.out 1⟩
      case measure => simp [intOf]; omega
    · obtain rfl : k = 15 := by omega
      have hlt' : ¬ ((15 : Nat) : Int) + 1 ≤ 15 := by omega
      have HT2 : Hid (Tri w (fun n => (cn l n : Int)) (fun _ => 0) (fun n => (fi l n : Int)) wr) := by
        have := HT.out
        refine ⟨this.1, this.2.1, ?_, this.2.2.2⟩
        rw [this.2.2.1, av_congr fun i hi => if_pos (show i ≤ 15 by omega)]
      clear HT
      have HC := hide HT2.out.2.2.1
      have HB := hide HT2.out.2.1
      have HO := hide (HT2.out.over (f' := fun n => (fi l n : Int)))
      clear HT2
      go_wp2_with (first | ((with_reducible refine wpList_loadP (w.heap.size + 1 + 1) _ ?hx HC.out ?_); case hx => rfl) | ((with_reducible refine wpList_storeP (w.heap.size + 1) (fun n => (fi l n : Int)) _ ?hx ?hy HB.out ?_); (case hx => rfl); (case hy => rfl)))
      (try simp only [Exit.inBlock, Exit.then])
      refine ret_per (p := 2) ?h1 (w.heap.size + 1) _ ?h2 HO.out.2.1 ?h3 ?_
      case h1 => rfl
      case h2 => rfl
      case h3 => rfl
      exact ⟨rfl, HO.out.2.2.2⟩
end Go.Proofs.YtdpoggapenjjfaaGreatDoor

namespace Go.Proofs.YtdpoggapenjjfaaGreatDoor
open Go.RowKit Go.Maps
set_option maxRecDepth 20000

theorem OI.get {w : World} {base : Nat} {v : Value} {l : List Int} (h : OI w base v l) {b : Nat} (hv : v.ownBlock = some b) {i : Nat} (hi : i < l.length) : w.cell? ⟨b, i, none⟩ = some (.int .i64 (l.getD i 0)) := by
  rcases h.2 with ⟨rfl, h0⟩ | ⟨g, cap, cur, rfl, h1, h2, h3, h4, h5, h6⟩
  · simp [Value.ownBlock] at hv
  · simp [Value.ownBlock] at hv
    subst hv
    have := World.ownsRow.cells h (g := g) rfl i (.int .i64 (l.getD i 0)) (by simp [hi])
    rwa [Addr.add_lit, Nat.zero_add] at this

theorem OI.put {w : World} {B : Nat} {v : Value} {l : List Int} (h : OI w B v l) {k : Nat} (hk : k < l.length) (m : Int) :
    ∃ g c, v = .slice (some ⟨g, 0, none⟩) l.length c ∧ (∃ u, w.cell? ⟨g, k, none⟩ = some u) ∧ w.frozen? ⟨g, k, none⟩ = false ∧ OI (w.setCell ⟨g, k, none⟩ (.int .i64 m)) B v (l.set k m) := by
  rcases h.2 with ⟨hv, h0⟩ | ⟨g, cap, cur, rfl, h1, h2, h3, h4, h5, h6⟩
  · omega
  · refine ⟨g, cap, rfl, ⟨_, h.get rfl hk⟩, frozen_of_row _ _ _ _ _ h2, ?_⟩
    unfold OI
    rw [List.length_set, List.map_set]
    refine ⟨by simp, .inr ⟨g, cap, _, rfl, h1, heap_setCell_same _ _ _ _ _ _ h2, h3, h4, by simpa using h5, ?_⟩⟩
    simp only [Array.toList_setIfInBounds, List.take_set]
    rw [h6]

theorem OI.form {w : World} {base : Nat} {v : Value} {l : List Int} (h : OI w base v l) (h0 : 0 < l.length) : ∃ g c, v = .slice (some ⟨g, 0, none⟩) l.length c ∧ base ≤ g ∧ g < w.heap.size ∧ l.length ≤ c ∧ c ≤ 9223372036854775807 := by
  rcases h.2 with ⟨hv, hz⟩ | ⟨g, cap, cur, rfl, h1, h2, h3, h4, h5, h6⟩
  · omega
  · unfold maxLen at h4
    exact ⟨g, cap, rfl, h1, (h.lt g rfl).2, h3, by omega⟩

end Go.Proofs.YtdpoggapenjjfaaGreatDoor

namespace Go.Proofs.YtdpoggapenjjfaaGreatDoor
open Go.RowKit Go.Maps
set_option maxRecDepth 20000
set_option linter.unusedVariables false

end Go.Proofs.YtdpoggapenjjfaaGreatDoor

namespace Go.Proofs.YtdpoggapenjjfaaGreatDoor
set_option linter.unusedVariables false

abbrev Rn := Int × Int

def eqn (v : Int) : List Int → Nat
  | [] => 0
  | x :: r => if x = v then eqn v r + 1 else 0

def n18 (l : List Int) (k : Nat) : Nat := min (eqn 0 (l.drop k)) 138
def n17 (l : List Int) (k : Nat) : Nat := min (eqn 0 (l.drop k)) 10
def n16 (l : List Int) (k : Nat) : Nat := if k = 0 then 0 else min (eqn (l.getD (k - 1) 0) (l.drop k)) 6

def lst (s : Int) : Int := if s < 16 then 1 else if s < 18 then 3 else 11
def frt (s : Int) : Nat := if s < 16 then 0 else if s = 16 then 2 else if s = 17 then 3 else 7
def mst (s : Int) : Int := if s < 16 then 1 else if s = 16 then 6 else if s = 17 then 10 else 138
def Okr (r : Rn) : Prop := 0 ≤ r.1 ∧ r.1 ≤ 18 ∧ lst r.1 ≤ r.2 ∧ r.2 ≤ mst r.1
instance (r : Rn) : Decidable (Okr r) := by unfold Okr; infer_instance

def mnt (s : Int) (a : List Int) : Int := if s < 16 then s else if s = 16 then a.getD (a.length - 1) 0 else 0
def lay (a : List Int) (r : Rn) : List Int := a ++ List.replicate r.2.toNat (mnt r.1 a)
def lays (a : List Int) (rs : List Rn) : List Int := rs.foldl lay a

def xpE (a : List Int) : List Rn → Int
  | [] => 0
  | r :: rs => if Okr r then if r.1 = 16 ∧ a = [] then 73 else xpE (lay a r) rs else 77

def xpL (rs : List Rn) : List Int := if xpE [] rs = 0 then lays [] rs else []

theorem lay_len (a : List Int) (r : Rn) : (lay a r).length = a.length + r.2.toNat := by simp [lay]
theorem lays_snoc (a : List Int) (rs : List Rn) (r : Rn) : lays a (rs ++ [r]) = lay (lays a rs) r := by simp [lays]

end Go.Proofs.YtdpoggapenjjfaaGreatDoor

namespace Go.Proofs.YtdpoggapenjjfaaGreatDoor
open Go.RowKit Go.Maps
set_option maxRecDepth 20000
set_option linter.unusedVariables false

structure Tab (w : World) : Prop where
  least : ∀ i : Nat, i < 19 → w.cell? ⟨3, i, none⟩ = some (.int .i64 (lst i))
  further : ∀ i : Nat, i < 19 → w.cell? ⟨2, i, none⟩ = some (.int .i64 (frt i : Nat))

theorem Tab.below {W w w' : World} {B : Nat} (h : Tab w) (h0 : Tab W) (hW : W.heap.size ≤ B) (hb : Below B w w') : Tab w' :=
  ⟨fun i hi => (hb.cell (Nat.lt_of_lt_of_le (World.block_lt_of_cell? W _ (h0.least i hi)) hW)).trans (h.least i hi), fun i hi => (hb.cell (Nat.lt_of_lt_of_le (World.block_lt_of_cell? W _ (h0.further i hi)) hW)).trans (h.further i hi)⟩

theorem Tab.mono {w w' : World} (h : Tab w) (hb : Below w.heap.size w w') : Tab w' := h.below h (Nat.le_refl _) hb

theorem Tab.drewN {w : World} (h : Tab w) (n : Nat) : Tab (w.drewN n) := ⟨h.least, h.further⟩

def fr2 (R : List Rn) : List Value := R.flatMap fun r => [.int .i64 r.1, .int .i64 r.2]

def rn0 : Rn := (0, 0)

theorem fr2_get {R : List Rn} {i : Nat} (h : i < R.length) : (fr2 R)[i * 2]? = some (.int .i64 (R.getD i rn0).1) ∧ (fr2 R)[i * 2 + 1]? = some (.int .i64 (R.getD i rn0).2) := by
  induction R generalizing i with
  | nil => simp at h
  | cons a r ih =>
    cases i with
    | zero => exact ⟨rfl, rfl⟩
    | succ i =>
      have := ih (i := i) (by simpa using h)
      have e : fr2 (a :: r) = .int .i64 a.1 :: .int .i64 a.2 :: fr2 r := rfl
      rw [e, show (i + 1) * 2 = i * 2 + 1 + 1 by omega, show i * 2 + 1 + 1 + 1 = (i * 2 + 1) + 1 + 1 by omega]
      simp only [List.getElem?_cons_succ]
      exact this

theorem fr2_snoc (R : List Rn) (p : Rn) : fr2 (R ++ [p]) = fr2 R ++ [.int .i64 p.1, .int .i64 p.2] := by simp [fr2]
theorem fr2_app (R S : List Rn) : fr2 (R ++ S) = fr2 R ++ fr2 S := by simp [fr2]

def SR (w : World) (v : Value) (R : List Rn) : Prop :=
  ∃ ao cap, v = .slice ao R.length cap ∧ R.length ≤ cap ∧ cap ≤ maxLen ∧ (ao = none → cap = 0) ∧ ∀ x, ao = some x → ∀ i, i < R.length → w.cell? (x.add (i * 2)) = some (.int .i64 (R.getD i rn0).1) ∧ w.cell? (x.add (i * 2 + 1)) = some (.int .i64 (R.getD i rn0).2)

def OR (w : World) (base : Nat) (v : Value) (R : List Rn) : Prop := w.ownsRow base 140 2 v R.length (fr2 R)

theorem SR.below {w w' : World} {v : Value} {R : List Rn} (h : SR w v R) (hb : Below w.heap.size w w') : SR w' v R := by
  obtain ⟨ao, cap, rfl, h1, h2, h3, h4⟩ := h
  refine ⟨ao, cap, rfl, h1, h2, h3, fun x hx i hi => ?_⟩
  obtain ⟨c1, c2⟩ := h4 x hx i hi
  exact ⟨(hb.cell (World.block_lt_of_cell? w _ c1)).trans c1, (hb.cell (World.block_lt_of_cell? w _ c2)).trans c2⟩

theorem SR.drewN {w : World} {v : Value} {R : List Rn} (h : SR w v R) (n : Nat) : SR (w.drewN n) v R := h

theorem SR.open {w : World} {v : Value} {R : List Rn} (h : SR w v R) : ∃ ao cap, v = .slice ao R.length cap ∧ R.length ≤ cap ∧ cap ≤ 9223372036854775807 := by
  obtain ⟨ao, cap, rfl, h1, h2, _⟩ := h
  unfold maxLen at h2
  exact ⟨ao, cap, rfl, h1, by omega⟩

theorem SR.get {W w : World} {ao : Option Addr} {cap : Nat} {R : List Rn} (h : SR W (.slice ao R.length cap) R) (hb : Below W.heap.size W w) {k : Nat} (hk : k < R.length) : ∃ b o, ao = some ⟨b, o, none⟩ ∧ w.cell? ⟨b, o + k * 2, none⟩ = some (.int .i64 (R.getD k rn0).1) ∧ w.cell? ⟨b, o + k * 2 + 1, none⟩ = some (.int .i64 (R.getD k rn0).2) := by
  obtain ⟨ao', cap', he, h1, h2, h3, h4⟩ := h
  simp only [Value.slice.injEq] at he
  obtain ⟨rfl, -, rfl⟩ := he
  cases ao with
  | none => have := h3 rfl; omega
  | some x =>
    obtain ⟨b, o, rfl⟩ := addr_lit (h4 x rfl 0 (by omega)).1
    obtain ⟨c1, c2⟩ := h4 _ rfl k hk
    rw [Addr.add_lit] at c1 c2
    exact ⟨b, o, rfl, (hb.cell (World.block_lt_of_cell? W _ c1)).trans c1, (hb.cell (World.block_lt_of_cell? W _ c2)).trans c2⟩

theorem rown_move {w w' : World} {base : Nat} {e : TypeId} {size : Nat} {v : Value} {n : Nat} {xs : List Value} (h : w.ownsRow base e size v n xs) (hb : ∀ k, v.ownBlock = some k → w'.heap[k]? = w.heap[k]?) : w'.ownsRow base e size v n xs := by
  refine ⟨h.1, ?_⟩
  rcases h.2 with h2 | ⟨g, cap, cur, rfl, h1, h2, r⟩
  · exact .inl h2
  · exact .inr ⟨g, cap, cur, rfl, h1, (hb g rfl).trans h2, r⟩

theorem OR.lt {w : World} {base : Nat} {v : Value} {R : List Rn} (h : OR w base v R) : ∀ k, v.ownBlock = some k → base ≤ k ∧ k < w.heap.size := World.ownsRow.lt h
theorem OR.below {w w' : World} {base B : Nat} {v : Value} {R : List Rn} (h : OR w base v R) (hb : Below B w w') (hB : w.heap.size ≤ B) : OR w' base v R := rown_move h fun k hk => hb.block k (Nat.lt_of_lt_of_le (h.lt k hk).2 hB)
theorem OR.drewN {w : World} {base : Nat} {v : Value} {R : List Rn} (h : OR w base v R) (n : Nat) : OR (w.drewN n) base v R := rown_move h fun _ _ => rfl
theorem OR.alloc {w : World} {base : Nat} {v : Value} {R : List Rn} (h : OR w base v R) (o : Obj) : OR (w.alloc o) base v R := rown_move h fun k hk => Below.heap_alloc w o k (h.lt k hk).2
theorem OR.base {w : World} {base base' : Nat} {v : Value} {R : List Rn} (h : OR w base v R) (hb : base' ≤ base) : OR w base' v R := by
  refine ⟨h.1, ?_⟩
  rcases h.2 with h2 | ⟨g, cap, cur, rfl, h1, r⟩
  · exact .inl h2
  · exact .inr ⟨g, cap, cur, rfl, Nat.le_trans hb h1, r⟩

theorem OR.shape {w : World} {base : Nat} {v : Value} {R : List Rn} (h : OR w base v R) : ∃ a c, v = .slice a R.length c ∧ R.length ≤ c ∧ c ≤ 9223372036854775807 := by
  rcases h.2 with ⟨rfl, h0⟩ | ⟨g, cap, cur, rfl, _, _, h3, h4, _⟩
  · exact ⟨none, 0, by rw [h0], by omega, by omega⟩
  · unfold maxLen at h4; exact ⟨_, _, rfl, h3, by omega⟩

theorem OR.sr {w : World} {base : Nat} {v : Value} {R : List Rn} (h : OR w base v R) : SR w v R := by
  have hc := @World.ownsRow.cells _ _ _ _ _ _ _ h
  rcases h.2 with ⟨rfl, h0⟩ | ⟨g, cap, cur, rfl, _, _, h3, h4, _⟩
  · obtain rfl : R = [] := List.eq_nil_of_length_eq_zero h0
    exact ⟨none, 0, rfl, Nat.le_refl _, Nat.zero_le _, fun _ => rfl, fun x hx => by cases hx⟩
  · refine ⟨some ⟨g, 0, none⟩, cap, rfl, h3, h4, (fun e => by cases e), fun x hx i hi => ?_⟩
    cases hx
    obtain ⟨g1, g2⟩ := fr2_get hi
    exact ⟨hc (g := g) rfl _ _ g1, hc (g := g) rfl _ _ g2⟩

theorem OR.nil (w : World) (base : Nat) : OR w base (.slice none 0 0) [] := World.ownsRow_nil _ _ _ _

theorem infoRun : (Tryz.prog.info? 140).map (fun i => (i.zero, i.size, i.bytes)) = some (some (.agg #[.int .i64 0, .int .i64 0]), 2, 16) := by kernel_rfl

theorem wpRun {w : World} {ops : Array Oper} {rest : List Oper} {o : Oper} {a : Act} {Q : Exit → Act → World → Prop} (hgd : o.guard = none) (s x : Operand)
    (ho : o.op = .call { callee := .builtin .append, args := #[s, x], argTypes := #[145, 145] }) (base : Nat) (v : Value) (R : List Rn) (p1 p2 : Int) (hs : a.eval s = v) (hown : OR w base v R)
    (c : Nat) (hx : a.eval x = .slice (some ⟨w.heap.size, 0, none⟩) 1 c) (hn : R.length ≤ 100000000) (hbase : base ≤ w.heap.size)
    (h : ∀ v' w', OR w' base v' (R ++ [(p1, p2)]) → (w.alloc (.cells #[.int .i64 p1, .int .i64 p2] 140)).grownBy w' v.ownBlock → wpList Tryz.prog ops Q rest (a.put o.dst v') w') :
    wpList Tryz.prog ops Q (o :: rest) a (w.alloc (.cells #[.int .i64 p1, .int .i64 p2] 140)) := by
  obtain ⟨i0, hi0, hz0, hz1, hz2⟩ := info_parts infoRun
  refine wpList_append_own_at _ hgd s x 145 ho base 140 i0 _ 2 16 Tryz.underlying145 hi0 hz0 hz1 hz2 rfl (by omega) v R.length (fr2 R) hs (hown.alloc _) ⟨w.heap.size, 0, none⟩ 1 c [.int .i64 p1, .int .i64 p2] hx rfl (World.news_of_block (cs := #[.int .i64 p1, .int .i64 p2]) (t := 140) (fr := (0, 0)) (heap_alloc_new w _))
    (fun u hu => by
      simp only [List.mem_cons, List.not_mem_nil, or_false] at hu
      rcases hu with rfl | rfl <;> rfl) (by unfold maxLen; omega) (by omega) (by simp; omega) fun v' w' h1 h2 _ _ => h v' w' ?_ h2
  show World.ownsRow _ _ _ _ _ _ _
  rw [List.length_append, fr2_snoc]
  exact h1

theorem grow_run {w wr w3 : World} {u : Value} {R : List Rn} {o : Obj} {B : Nat} (hB : Below B w wr) (hw : B ≤ w.heap.size) (hO : OR wr B u R) (hg : (wr.alloc o).grownBy w3 u.ownBlock) : Below B w w3 :=
  (hB.alloc (Nat.le_trans hw hB.size) _).grown hg (by have := hB.size; simp; omega) (fun j hj => by have := hO.lt j hj; omega)

theorem grow_one7 {w wr w3 : World} {u v3 : Value} {D : List Int} {o : Obj} {B : Nat} (hB : Below B w wr) (hw : B ≤ w.heap.size) (hO : OI wr B u D) (hg : Grew (wr.alloc o) w3 u v3) : Below B w w3 :=
  (hB.alloc (Nat.le_trans hw hB.size) _).grown hg.by (by have := hB.size; simp; omega) (fun j hj => by have := hO.lt j hj; omega)
end Go.Proofs.YtdpoggapenjjfaaGreatDoor

namespace Go.Proofs.YtdpoggapenjjfaaGreatDoor
open Go.RowKit Go.Maps
set_option maxRecDepth 20000
set_option linter.unusedVariables false

end Go.Proofs.YtdpoggapenjjfaaGreatDoor

namespace Go.Proofs.YtdpoggapenjjfaaGreatDoor
open Go.RowKit Go.Maps
set_option maxRecDepth 20000
set_option linter.unusedVariables false

theorem tab_cases (s : Nat) (h : s < 19) : (lst s = 1 ∧ frt s = 0 ∧ mst s = 1) ∨ (lst s = 3 ∧ frt s = 2 ∧ mst s = 6) ∨ (lst s = 3 ∧ frt s = 3 ∧ mst s = 10) ∨ (lst s = 11 ∧ frt s = 7 ∧ mst s = 138) := by
  unfold lst frt mst
  by_cases h1 : (s : Int) < 16
  · left; rw [if_pos h1, if_pos h1, if_pos h1]; exact ⟨rfl, rfl, rfl⟩
  · by_cases h2 : (s : Int) = 16
    · right; left; rw [h2]; exact ⟨rfl, rfl, rfl⟩
    · by_cases h3 : (s : Int) = 17
      · right; right; left; rw [h3]; exact ⟨rfl, rfl, rfl⟩
      · right; right; right; rw [show (s : Int) = 18 by omega]; exact ⟨rfl, rfl, rfl⟩

theorem meant_any (s : Int) (v : Value) (l : List Int) (w : World) (h : SI w v l) (h16 : s = 16 → 0 < l.length) :
    Calls Tryz.prog 103 #[.int .i64 s, v] w fun e w' => e = .returned (.int .i64 (mnt s l)) ∧ w' = w := by
  have HS := hide h
  obtain ⟨ao, cap, rfl, hlc, hcm⟩ := h.open
  clear h
  by_cases c1 : s < 16
  · have HM : Hid (mnt s l = s) := by show _ = _; unfold mnt; rw [if_pos c1]
    clear h16
    go_enter Tryz.func103, Tryz.ntmps103
    go_wp2
    go_ret
    rw [HM.out]
    exact ⟨rfl, rfl⟩
  · by_cases c2 : s = 16
    · subst c2
      have hl := h16 rfl
      obtain ⟨b, o, rfl, hc⟩ := HS.out.get (Below.refl _ _) (k := l.length - 1) (by omega)
      have HM : Hid (mnt 16 l = l.getD (l.length - 1) 0) := rfl
      obtain ⟨y, HY⟩ : ∃ y, Hid (y = l.getD (l.length - 1) 0) := ⟨_, rfl⟩
      rw [← HY.out] at hc HM
      obtain ⟨n, hn⟩ : ∃ n, l.length = n + 1 := ⟨l.length - 1, by omega⟩
      rw [hn] at hc hlc ⊢
      rw [Nat.add_sub_cancel] at hc
      clear HS hl hn h16 c1
      go_enter Tryz.func103, Tryz.ntmps103
      go_wp2
      go_ret
      rw [HM.out]
      exact ⟨rfl, rfl⟩
    · have HM : Hid (mnt s l = 0) := by show _ = _; unfold mnt; rw [if_neg c1, if_neg c2]
      have c3 : (s == 16) = false := by simpa using c2
      clear h16
      go_enter Tryz.func103, Tryz.ntmps103
      go_wp2
      go_ret
      rw [HM.out]
      exact ⟨rfl, rfl⟩
end Go.Proofs.YtdpoggapenjjfaaGreatDoor

