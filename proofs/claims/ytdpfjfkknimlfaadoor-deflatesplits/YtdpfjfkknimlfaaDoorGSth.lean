import Derived.Test.YtdpfjfkknimlfaaDoorGDsn
import Derived.Test.YtdpfjfkknimlfaaDoorGCtx
import Derived.Laws.Rows
import Derived.Laws.Tables
import Derived.Deep.MidRow
import Derived.BigQuiet
import Derived.Deep.QuietTactic
namespace Go.Proofs.YtdpfjfkknimlfaaDoor
open Go.RowKit Go.Maps
set_option maxRecDepth 20000
set_option linter.unusedVariables false
set_option linter.unusedSimpArgs false

/-- A stretch's ten cells; its eight classes. -/
def a10 (f : Nat → Int) : Array Value := Array.ofFn fun i : Fin 10 => Value.int .i64 (f i)
def a8 (f : Nat → Int) : Array Value := Array.ofFn fun i : Fin 8 => Value.int .i64 (f i)

theorem a10_size (f : Nat → Int) : (a10 f).size = 10 := by simp [a10]
theorem a8_size (f : Nat → Int) : (a8 f).size = 8 := by simp [a8]
theorem a10_get (f : Nat → Int) {i : Nat} (h : i < 10) : (a10 f)[i]? = some (.int .i64 (f i)) := by simp [a10, h]
theorem a8_get (f : Nat → Int) {i : Nat} (h : i < 8) : (a8 f)[i]? = some (.int .i64 (f i)) := by simp [a8, h]

theorem a10_set (f : Nat → Int) {i : Nat} (x : Int) (h : i < 10) : (a10 f).setIfInBounds i (.int .i64 x) = a10 (upf f i x) := by
  apply Array.ext_getElem?
  intro k
  rw [Array.getElem?_setIfInBounds]
  by_cases e : i = k
  · subst e; simp [a10, h, upf]
  · rw [if_neg e]
    by_cases hk : k < 10
    · have : k ≠ i := fun h => e h.symm
      simp [a10, hk, upf, this]
    · simp [a10, hk]

theorem a10_congr {f g : Nat → Int} (h : ∀ i, i < 10 → f i = g i) : a10 f = a10 g := by
  unfold a10
  congr 1
  funext i
  rw [h i i.2]

theorem a10_one (f : Nat → Int) : (a10 f).all (·.oneCell') = true := by
  rw [Array.all_eq_true]
  intro i hi
  simp [a10, Value.oneCell']

theorem a10_lit (f : Nat → Int) : a10 f = #[.int .i64 (f 0), .int .i64 (f 1), .int .i64 (f 2), .int .i64 (f 3), .int .i64 (f 4), .int .i64 (f 5), .int .i64 (f 6), .int .i64 (f 7), .int .i64 (f 8), .int .i64 (f 9)] := rfl

theorem rzS : (Tryd.prog.info? 40).map (·.size) = some 10 := by kernel_rfl
theorem rz8 : (Tryd.prog.info? 38).map (·.size) = some 8 := by kernel_rfl

theorem wpList_wantS {ops : Array Oper} {rest : List Oper} {o : Oper} {a : Act} {w : World} {Q : Exit → Act → World → Prop} (hw : Region.wanted o (yielded ops a.tmps) = true)
    (h : ∀ K : Act → World → Prop, (∀ a w, wpList Tryd.prog ops Q rest a w → K a w) → o.wp Tryd.prog a w K Q) : wpList Tryd.prog ops Q (o :: rest) a w :=
  wpList_step fun K hK => by rw [if_pos hw]; exact h K hK

theorem wpList_ldS {ops : Array Oper} {rest : List Oper} {a : Act} {w : World} {Q : Exit → Act → World → Prop} {dst : Option Tmp} {x : Operand} {ty : TypeId} {pos : String} {after : Array Edge} {gd : Option (Nat × Bool)} (g : Nat) (f : Nat → Int)
    (hw : Region.wanted { dst := dst, op := .load 40 x, type := ty, pos := pos, after := after, guard := gd } (yielded ops a.tmps) = true)
    (hx : a.eval x = .pointer (some ⟨g, 0, none⟩)) (hg : w.heap[g]? = some (.cells (a10 f) 40 (0, 0))) (h : wpList Tryd.prog ops Q rest (a.put dst (.agg (a10 f))) w) :
    wpList Tryd.prog ops Q ({ dst := dst, op := .load 40 x, type := ty, pos := pos, after := after, guard := gd } :: rest) a w :=
  wpList_wantS hw fun _ hK => wp_load_row 40 x rfl g hx 40 (a10 f) (0, 0) _ hg Tryd.underlying40 rfl (by rw [a10_size]; exact rzS) (hK _ _ h)

theorem wpList_stS {ops : Array Oper} {rest : List Oper} {a : Act} {w : World} {Q : Exit → Act → World → Prop} {dst : Option Tmp} {x y : Operand} {ty : TypeId} {pos : String} {after : Array Edge} (g : Nat) (f h0 : Nat → Int)
    (hx : a.eval x = .pointer (some ⟨g, 0, none⟩)) (hy : a.eval y = .agg (a10 f)) (hg : w.heap[g]? = some (.cells (a10 h0) 40 (0, 0))) (h : wpList Tryd.prog ops Q rest (a.put dst undef) (w.setRow g (a10 f))) :
    wpList Tryd.prog ops Q ({ dst := dst, op := .store 40 x y, type := ty, pos := pos, after := after, guard := none } :: rest) a w :=
  wpList_store_row rfl 40 x y rfl g (a10 f) hx hy 40 (a10 h0) hg (by rw [a10_size]; exact rzS) (by rw [a10_size, a10_size]) (a10_one f) h

theorem wpList_ld8 {ops : Array Oper} {rest : List Oper} {a : Act} {w : World} {Q : Exit → Act → World → Prop} {dst : Option Tmp} {x : Operand} {ty : TypeId} {pos : String} {after : Array Edge} (g : Nat) (f : Nat → Int)
    (hx : a.eval x = .pointer (some ⟨g, 2, none⟩)) (hg : w.heap[g]? = some (.cells (a10 f) 40 (0, 0))) (h : wpList Tryd.prog ops Q rest (a.put dst (.agg (a8 fun i => f (i + 2)))) w) :
    wpList Tryd.prog ops Q ({ dst := dst, op := .load 38 x, type := ty, pos := pos, after := after, guard := none } :: rest) a w :=
  wpList_plain rfl fun _ hK => wp_load_mid 38 x rfl g 2 hx (a8 fun i => f (i + 2)).toList _ (by
    intro j u hu
    have hj : j < 8 := by
      have := (List.getElem?_eq_some_iff.1 hu).1
      rw [Array.length_toList, a8_size] at this
      exact this
    rw [Array.getElem?_toList, a8_get _ hj] at hu
    rw [cell_of_row _ _ _ _ _ _ hg, a10_get f (by omega), ← hu, Nat.add_comm 2 j]) Tryd.underlying38 rfl (by rw [Array.length_toList, a8_size]; exact rz8) (by rw [Array.toArray_toList]; exact hK _ _ h)

theorem ret_str {fn : Func} {R : Ending → World → Prop} {a : Act} {w : World} {p : Tmp} (hres : fn.results = #[.cell p 40]) (g : Nat) (f : Nat → Int) (hp : a.tmps.getD p undef = .pointer (some ⟨g, 0, none⟩))
    (hg : w.heap[g]? = some (.cells (a10 f) 40 (0, 0))) (hd : a.defers = []) (hR : R (.returned (.agg (a10 f))) w) : bodyPost Tryd.prog fn R .ret a w :=
  bodyPost_ret (results_cell_row hres a.tmps w g 40 (a10 f) (0, 0) _ hp hg Tryd.underlying40 rfl (by rw [a10_size]; exact rzS)) hd hR

theorem run_part8 (f : Nat → Int) {k : Nat} (h : k < 8) (w : World) : (part 3 (a8 f) k).run Tryd.prog w = .ok (.int .i64 (f k)) w := by
  simp [part, isAgg, run_underlying Tryd.underlying3, a8_get f h]

theorem run_index8 (f : Nat → Int) {k : Nat} (h : k < 8) (w : World) : (Instr.index 38 (.agg (a8 f)) (.int .i64 k)).run Tryd.prog w = .ok (.int .i64 (f k)) w := by
  obtain ⟨i0, hi, hz0, hz1, hz2⟩ := info_parts infoInt
  simp [Instr.index, asIntOf, run_underlying Tryd.underlying38, sizeOf, typeInfo, hi, hz1, run_part8 f h]
  omega

/-- What is known of tokens, as ten numbers. -/
noncomputable def sf (R : List Tk) : Nat → Int := fun i => if i = 0 then (R.length : Int) else if i = 1 then sayS R else kn R (i - 2)

theorem kls_lt (t : Tk) (h : 0 ≤ t.2.2 ∧ t.2.2 < 256) : kls t < 8 := by
  unfold kls
  split
  · omega
  · split <;> split <;> omega

theorem class_any (a b c : Int) (w : World) (hc : 0 ≤ c ∧ c < 256) : Calls Tryd.prog 24 #[.agg #[.int .i64 a, .int .i64 b, .int .u8 c]] w fun e w' => e = .returned (.int .i64 (kls (a, b, c) : Nat)) ∧ Below w.heap.size w w' := by
  have HB : Hid (Below w.heap.size w (w.alloc (.cells #[.int .i64 a, .int .i64 b, .int .u8 c] 24))) := (Below.refl _ _).alloc (Nat.le_refl _) _
  obtain ⟨wb, hwb⟩ : ∃ wb, w.alloc (.cells #[.int .i64 a, .int .i64 b, .int .u8 c] 24) = wb := ⟨_, rfl⟩
  have d1 : wb.cell? ⟨w.heap.size, 0, none⟩ = some (.int .i64 a) := by rw [← hwb]; unfold World.cell?; simp only [heap_alloc_new]; rfl
  have d2 : wb.cell? ⟨w.heap.size, 1, none⟩ = some (.int .i64 b) := by rw [← hwb]; unfold World.cell?; simp only [heap_alloc_new]; rfl
  have d3 : wb.cell? ⟨w.heap.size, 2, none⟩ = some (.int .u8 c) := by rw [← hwb]; unfold World.cell?; simp only [heap_alloc_new]; rfl
  rw [hwb] at HB
  by_cases h0 : a = 0
  · obtain ⟨n, rfl⟩ := Int.eq_ofNat_of_zero_le hc.1
    have HE : Hid (((kls (a, b, (n : Int)) : Nat) : Int) = ((n / 64 : Nat) : Int)) := by show _ = _; unfold kls; rw [if_pos h0]; rfl
    have g0 : (a == 0) = true := by simpa using h0
    rw [HE.out]
    clear HE h0
    go_enter Tryd.func24, Tryd.ntmps24
    go_wp2
    go_ret
    exact ⟨rfl, HB.out⟩
  · have g0 : (a == 0) = false := by simpa using h0
    by_cases h8 : 8 < a
    · by_cases hb : 256 < b
      · have HE : Hid (((kls (a, b, c) : Nat) : Int) = 7) := by show _ = _; unfold kls; rw [if_neg h0, if_pos h8, if_pos hb]; rfl
        rw [HE.out]
        clear HE
        go_enter Tryd.func24, Tryd.ntmps24
        go_wp2
        go_ret
        exact ⟨rfl, HB.out⟩
      · have HE : Hid (((kls (a, b, c) : Nat) : Int) = 6) := by show _ = _; unfold kls; rw [if_neg h0, if_pos h8, if_neg hb]; rfl
        rw [HE.out]
        clear HE
        go_enter Tryd.func24, Tryd.ntmps24
        go_wp2
        go_ret
        exact ⟨rfl, HB.out⟩
    · by_cases hb : 256 < b
      · have HE : Hid (((kls (a, b, c) : Nat) : Int) = 5) := by show _ = _; unfold kls; rw [if_neg h0, if_neg h8, if_pos hb]; rfl
        rw [HE.out]
        clear HE
        go_enter Tryd.func24, Tryd.ntmps24
        go_wp2
        go_ret
        exact ⟨rfl, HB.out⟩
      · have HE : Hid (((kls (a, b, c) : Nat) : Int) = 4) := by show _ = _; unfold kls; rw [if_neg h0, if_neg h8, if_neg hb]; rfl
        rw [HE.out]
        clear HE
        go_enter Tryd.func24, Tryd.ntmps24
        go_wp2
        go_ret
        exact ⟨rfl, HB.out⟩
end Go.Proofs.YtdpfjfkknimlfaaDoor

