import Derived.Test.YtioicfhkahcpkaaDoorG3
import Derived.Lib.LaidTab
import Derived.OpenShut
import Derived.ChangeSame
namespace Go.Proofs.YtioicfhkahcpkaaDoor
open Go.RowKit Go.ChangeShapes Go.WideShapes Go.ChangeAt
set_option maxRecDepth 20000
set_option linter.unusedVariables false

/-- What each level looks for: window, chain, lazy. -/
def efz : List (Int × Int × Bool) := [(1, 0, false), (4096, 4, false), (8192, 8, false), (16384, 16, false), (32768, 16, true), (32768, 32, true), (32768, 64, true), (32768, 128, true), (32768, 512, true), (32768, 4096, true)]

def EW (i : Nat) : Int := (efz.getD i (0, 0, false)).1
def EC (i : Nat) : Int := (efz.getD i (0, 0, false)).2.1
def EZ (i : Nat) : Bool := (efz.getD i (0, 0, false)).2.2

/-- The tables as a statement lists them. -/
def effData {H : Type} : DataW H := .agg (efz.map fun z => .agg [.lit (.int .i64 z.1), .lit (.int .i64 z.2.1), .lit (.bool z.2.2)])
def levData {H : Type} : DataW H := .agg (efz.map fun z => .agg [.lit (.int .i64 z.1), .lit (.int .i64 z.2.1), .lit (.int .i64 (if z.2.2 then 1 else 0))])

theorem rows_of {H : Type} {enc : TypeId × Value → H} {P : Program} {w : World} {base : Nat} {sp : Nat → Bool} {held : Bool} {fuel : Nat} {t e : TypeId} {n : Nat} {cs : List Value} {α : Type} {zs : List α} {p : List MemPlace} {fd : α → DataW H} {fv : α → List Value}
    (ht : P.underlying t = some (.array n e)) (hce : P.cellsOf e = 3) (hfv : ∀ m xs q z, DataW.trod enc P w base sp held m e xs = some (fd z, q) → xs = fv z)
    (h : DataW.trod enc P w base sp held fuel t cs = some (.agg (zs.map fd), p)) (i : Nat) (z : α) (hz : zs[i]? = some z) (j : Nat) (hj : j < 3) : cs[i * 3 + j]? = (fv z)[j]? := by
  obtain ⟨xs, m, _, hx, hl, hn, hf⟩ := DataW.trod_array ht h
  have hxs : xs.map (·.1) = zs.map fd := by
    have := congrArg Prod.fst hx
    simpa using this.symm
  have hi : i < zs.length := (List.getElem?_eq_some_iff.1 hz).1
  have hzl : zs.length = n := by
    have := congrArg List.length hxs
    simp at this
    omega
  have h2 := hf i (by omega)
  obtain ⟨y, hy⟩ : ∃ y, xs[i]? = some y := ⟨xs[i]'(by omega), by simp [show i < xs.length by omega]⟩
  rw [hy, hce] at h2
  have h3 : (xs.map (·.1))[i]? = some y.1 := by simp [hy]
  rw [hxs, List.getElem?_map, hz] at h3
  simp only [Option.map_some, Option.some.injEq] at h3
  obtain ⟨y1, y2⟩ := y
  simp only at h3
  subst h3
  have h4 := hfv _ _ _ _ h2
  rw [← h4, List.getElem?_take, if_pos hj, List.getElem?_drop]

theorem eff_cells {H : Type} {enc : TypeId × Value → H} {w : World} {base : Nat} {sp : Nat → Bool} {held : Bool} {m : Nat} {xs : List Value} {q : List MemPlace} {z : Int × Int × Bool}
    (h : DataW.trod enc Tryd.prog w base sp held m 23 xs = some (.agg [.lit (.int .i64 z.1), .lit (.int .i64 z.2.1), .lit (.bool z.2.2)], q)) : xs = [.int .i64 z.1, .int .i64 z.2.1, .bool z.2.2] := by
  obtain ⟨ys, k, _, hx, hl, hyl, hf⟩ := DataW.trod_struct Tryd.underlying23 h
  rw [show Tryd.prog.cellsOf 23 = 3 by kernel_rfl] at hl
  obtain ⟨c0, c1, c2, rfl⟩ : ∃ a b c, xs = [a, b, c] := by match xs, hl with | [a, b, c], _ => exact ⟨a, b, c, rfl⟩
  obtain ⟨y0, y1, y2, rfl⟩ : ∃ a b c, ys = [a, b, c] := by match ys, hyl with | [a, b, c], _ => exact ⟨a, b, c, rfl⟩
  have h0 : DataW.trod enc Tryd.prog w base sp held k 3 (([c0, c1, c2].drop 0).take (Tryd.prog.cellsOf 3)) = some y0 := hf 0 _ rfl
  have h1 : DataW.trod enc Tryd.prog w base sp held k 3 (([c0, c1, c2].drop 1).take (Tryd.prog.cellsOf 3)) = some y1 := hf 1 _ rfl
  have h2 : DataW.trod enc Tryd.prog w base sp held k 4 (([c0, c1, c2].drop 2).take (Tryd.prog.cellsOf 4)) = some y2 := hf 2 _ rfl
  rw [show Tryd.prog.cellsOf 3 = 1 by kernel_rfl] at h0 h1
  rw [show Tryd.prog.cellsOf 4 = 1 by kernel_rfl] at h2
  simp only [List.drop, List.take] at h0 h1 h2
  obtain ⟨k0, e0, d0, _⟩ := DataW.trod_int Tryd.underlying3 h0
  obtain ⟨k1, e1, d1, _⟩ := DataW.trod_int Tryd.underlying3 h1
  obtain ⟨k2, e2, d2⟩ := DataW.trod_bool Tryd.underlying4 h2
  have hx1 := congrArg Prod.fst hx
  simp only [List.map_cons, List.map_nil, DataW.agg.injEq, List.cons.injEq, and_true] at hx1
  rw [d0, d1, d2] at hx1
  simp only [DataW.lit.injEq, Lit.int.injEq, Lit.bool.injEq, true_and] at hx1
  simp at e0 e1 e2
  rw [e0, e1, e2, hx1.1, hx1.2.1, hx1.2.2]

theorem lev_cells {H : Type} {enc : TypeId × Value → H} {w : World} {base : Nat} {sp : Nat → Bool} {held : Bool} {m : Nat} {xs : List Value} {q : List MemPlace} {z : Int × Int × Bool}
    (h : DataW.trod enc Tryd.prog w base sp held m 46 xs = some (.agg [.lit (.int .i64 z.1), .lit (.int .i64 z.2.1), .lit (.int .i64 (if z.2.2 then 1 else 0))], q)) : xs = [.int .i64 z.1, .int .i64 z.2.1, .int .i64 (if z.2.2 then 1 else 0)] := by
  obtain ⟨ys, k, _, hx, hl, hyl, hf⟩ := DataW.trod_array Tryd.underlying46 h
  rw [show Tryd.prog.cellsOf 46 = 3 by kernel_rfl] at hl
  obtain ⟨c0, c1, c2, rfl⟩ : ∃ a b c, xs = [a, b, c] := by match xs, hl with | [a, b, c], _ => exact ⟨a, b, c, rfl⟩
  obtain ⟨y0, y1, y2, rfl⟩ : ∃ a b c, ys = [a, b, c] := by match ys, hyl with | [a, b, c], _ => exact ⟨a, b, c, rfl⟩
  have h0 := hf 0 (by omega)
  have h1 := hf 1 (by omega)
  have h2 := hf 2 (by omega)
  rw [show Tryd.prog.cellsOf 3 = 1 by kernel_rfl] at h0 h1 h2
  simp only [List.drop, List.take, List.getElem?_cons_zero, List.getElem?_cons_succ] at h0 h1 h2
  obtain ⟨k0, e0, d0, _⟩ := DataW.trod_int Tryd.underlying3 h0
  obtain ⟨k1, e1, d1, _⟩ := DataW.trod_int Tryd.underlying3 h1
  obtain ⟨k2, e2, d2, _⟩ := DataW.trod_int Tryd.underlying3 h2
  have hx1 := congrArg Prod.fst hx
  simp only [List.map_cons, List.map_nil, DataW.agg.injEq, List.cons.injEq, and_true] at hx1
  rw [d0, d1, d2] at hx1
  simp only [DataW.lit.injEq, Lit.int.injEq, true_and] at hx1
  simp at e0 e1 e2
  rw [e0, e1, e2, hx1.1, hx1.2.1, hx1.2.2]

/-- The tables in memory. -/
structure Etab (w : World) : Prop where
  ew : ∀ i : Nat, i < 10 → w.cell? ⟨0, i * 3, none⟩ = some (.int .i64 (EW i))
  ec : ∀ i : Nat, i < 10 → w.cell? ⟨0, i * 3 + 1, none⟩ = some (.int .i64 (EC i))
  ez : ∀ i : Nat, i < 10 → w.cell? ⟨0, i * 3 + 2, none⟩ = some (.bool (EZ i))

structure Vtab (w : World) : Prop where
  lw : ∀ i : Nat, i < 10 → w.cell? ⟨1, i * 3, none⟩ = some (.int .i64 (EW i))
  lc : ∀ i : Nat, i < 10 → w.cell? ⟨1, i * 3 + 1, none⟩ = some (.int .i64 (EC i))
  lz : ∀ i : Nat, i < 10 → w.cell? ⟨1, i * 3 + 2, none⟩ = some (.int .i64 (if EZ i then 1 else 0))

theorem Etab.low {w w' : World} (h : Etab w) (hb : Below w.heap.size w w') : Etab w' :=
  ⟨fun i hi => (hb.cell (World.block_lt_of_cell? w _ (h.ew i hi))).trans (h.ew i hi), fun i hi => (hb.cell (World.block_lt_of_cell? w _ (h.ec i hi))).trans (h.ec i hi), fun i hi => (hb.cell (World.block_lt_of_cell? w _ (h.ez i hi))).trans (h.ez i hi)⟩

theorem Vtab.low {w w' : World} (h : Vtab w) (hb : Below w.heap.size w w') : Vtab w' :=
  ⟨fun i hi => (hb.cell (World.block_lt_of_cell? w _ (h.lw i hi))).trans (h.lw i hi), fun i hi => (hb.cell (World.block_lt_of_cell? w _ (h.lc i hi))).trans (h.lc i hi), fun i hi => (hb.cell (World.block_lt_of_cell? w _ (h.lz i hi))).trans (h.lz i hi)⟩

theorem efz_at (i : Nat) (h : i < 10) : efz[i]? = some (EW i, EC i, EZ i) := by
  have hl : i < efz.length := h
  unfold EW EC EZ
  simp [List.getD_eq_getElem?_getD, hl]

theorem etab_of {W : World} {rest : List (String × DataW Unit)} (h : laidMet Tryd.prog (("valise/deflate.efforts", effData) :: rest) W) : Etab W := by
  obtain ⟨ps, ⟨g', t', cs, fuel, p, q, hg', ht', hvar, hd, _, _⟩, _⟩ := h
  obtain rfl := Option.some.inj ((show Tryd.prog.globalNamed "valise/deflate.efforts" = some 0 by kernel_rfl).symm.trans hg')
  obtain rfl := Option.some.inj ((show (Tryd.prog.globals[0]?).map (·.type) = some 45 by kernel_rfl).symm.trans ht')
  have hc := fun i hi j hj => rows_of (zs := efz) (i := i) (fv := fun z => [.int .i64 z.1, .int .i64 z.2.1, .bool z.2.2]) Tryd.underlying45 (by kernel_rfl) (fun m xs q z hh => eff_cells hh) hd _ (efz_at i hi) j hj
  have hg : Tryd.prog.globalNamed "valise/deflate.efforts" = some 0 := by kernel_rfl
  refine ⟨fun i hi => ?_, fun i hi => ?_, fun i hi => ?_⟩
  · rw [World.var?_cell hg hvar]; simpa using hc i hi 0 (by omega)
  · rw [World.var?_cell hg hvar]; simpa using hc i hi 1 (by omega)
  · rw [World.var?_cell hg hvar]; simpa using hc i hi 2 (by omega)

theorem vtab_of {W : World} {rest : List (String × DataW Unit)} (h : laidMet Tryd.prog (("valise/valiseref11.levels", levData) :: rest) W) : Vtab W := by
  obtain ⟨ps, ⟨g', t', cs, fuel, p, q, hg', ht', hvar, hd, _, _⟩, _⟩ := h
  obtain rfl := Option.some.inj ((show Tryd.prog.globalNamed "valise/valiseref11.levels" = some 1 by kernel_rfl).symm.trans hg')
  obtain rfl := Option.some.inj ((show (Tryd.prog.globals[1]?).map (·.type) = some 47 by kernel_rfl).symm.trans ht')
  have hc := fun i hi j hj => rows_of (zs := efz) (i := i) (fv := fun z => [.int .i64 z.1, .int .i64 z.2.1, .int .i64 (if z.2.2 then 1 else 0)]) Tryd.underlying47 (by kernel_rfl) (fun m xs q z hh => lev_cells hh) hd _ (efz_at i hi) j hj
  have hg : Tryd.prog.globalNamed "valise/valiseref11.levels" = some 1 := by kernel_rfl
  refine ⟨fun i hi => ?_, fun i hi => ?_, fun i hi => ?_⟩
  · rw [World.var?_cell hg hvar]; simpa using hc i hi 0 (by omega)
  · rw [World.var?_cell hg hvar]; simpa using hc i hi 1 (by omega)
  · rw [World.var?_cell hg hvar]; simpa using hc i hi 2 (by omega)
end Go.Proofs.YtioicfhkahcpkaaDoor

