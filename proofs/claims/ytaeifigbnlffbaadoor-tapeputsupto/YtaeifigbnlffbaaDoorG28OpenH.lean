import Derived.Test.YtaeifigbnlffbaaDoorG06Tpc
import Derived.Lib.LaidTab
import Derived.OpenShut
import Derived.ChangeSame
import Derived.Stop.LaidErr
namespace Go.Proofs.YtaeifigbnlffbaaDoor
open Go.RowKit Go.ChangeShapes Go.WideShapes Go.ChangeAt
set_option maxRecDepth 20000
set_option linter.unusedVariables false
set_option linter.unusedSimpArgs false

def spanData {H : Type} (zs : List (Int × Int)) : DataW H := .agg (zs.map fun z => .agg [.lit (.int .i64 z.1), .lit (.int .i64 z.2)])

theorem cells_of_spans {H : Type} {enc : TypeId × Value → H} {P : Program} {w : World} {base : Nat} {sp : Nat → Bool} {held : Bool} {fuel : Nat} {t e u : TypeId} {n : Nat} {f0 f1 : Field} {cs : List Value} {zs : List (Int × Int)} {p : List MemPlace}
    (ht : P.underlying t = some (.array n e)) (he : P.underlying e = some (.struct #[f0, f1])) (h0 : f0.type = u ∧ f0.offset = 0) (h1 : f1.type = u ∧ f1.offset = 1) (hu : P.underlying u = some (.int .i64)) (hcu : P.cellsOf u = 1) (hce : P.cellsOf e = 2)
    (h : DataW.trod enc P w base sp held fuel t cs = some (spanData zs, p)) (i : Nat) (hi : i < zs.length) : cs[i * 2]? = some (.int .i64 (zs.getD i (0, 0)).1) ∧ cs[i * 2 + 1]? = some (.int .i64 (zs.getD i (0, 0)).2) := by
  obtain ⟨xs, m, _, hx, hl, hn, hf⟩ := DataW.trod_array ht h
  have hxs : xs.map (·.1) = zs.map fun z => (DataW.agg [.lit (.int .i64 z.1), .lit (.int .i64 z.2)] : DataW H) := by
    have := congrArg Prod.fst hx
    simpa [spanData] using this.symm
  have hzl : zs.length = n := by
    have := congrArg List.length hxs
    simp at this
    omega
  have h2 := hf i (by omega)
  obtain ⟨y, hy⟩ : ∃ y, xs[i]? = some y := ⟨xs[i]'(by omega), by simp [show i < xs.length by omega]⟩
  rw [hy, hce] at h2
  obtain ⟨y0, y1, q, rfl, _, t0, t1⟩ := trod_struct2 he h2
  rw [h0.1, h0.2, hcu] at t0
  rw [h1.1, h1.2, hcu] at t1
  obtain ⟨z0, hc0, hz0, _⟩ := DataW.trod_int hu t0
  obtain ⟨z1, hc1, hz1, _⟩ := DataW.trod_int hu t1
  have h3 : (xs.map (·.1))[i]? = some (DataW.agg [y0.1, y1.1] : DataW H) := by simp [hy]
  rw [hxs] at h3
  have hg : zs[i]? = some (zs.getD i (0, 0)) := by simp [hi]
  rw [List.getElem?_map, hg] at h3
  simp only [Option.map_some, Option.some.injEq, DataW.agg.injEq, List.cons.injEq, and_true] at h3
  rw [hz0, hz1] at h3
  simp only [DataW.lit.injEq, Lit.int.injEq, true_and] at h3
  have k0 := congrArg (·[0]?) hc0
  have k1 := congrArg (·[0]?) hc1
  simp [List.getElem?_drop] at k0 k1
  rw [h3.1, h3.2]
  exact ⟨k0, k1⟩

def nmz : List (Int × Int) := [(100, 8), (108, 8), (116, 8), (124, 12), (136, 12), (329, 8), (337, 8), (148, 8)]
def txz : List (Int × Int) := [(0, 100), (157, 100), (265, 32), (297, 32), (345, 155)]

theorem nmz_at : ∀ i : Nat, i < 16 → nmsL[i]? = some (if i % 2 = 0 then (nmz.getD (i / 2) (0, 0)).1 else (nmz.getD (i / 2) (0, 0)).2) := by decide
theorem txz_at : ∀ i : Nat, i < 10 → txsL[i]? = some (if i % 2 = 0 then (txz.getD (i / 2) (0, 0)).1 else (txz.getD (i / 2) (0, 0)).2) := by decide

theorem cPlace : Tryd.prog.cellsOf 72 = 2 := by kernel_rfl
theorem cIntP : Tryd.prog.cellsOf 3 = 1 := by kernel_rfl

theorem nums_of {W : World} {rest : List (String × DataW Unit)} (h : laidMet Tryd.prog (("valise/tape.numbers", spanData nmz) :: rest) W) : ∀ (i : Nat) (v : Int), nmsL[i]? = some v → W.cell? ⟨0, i, none⟩ = some (.int .i64 v) := by
  obtain ⟨ps, ⟨g', t', cs, fuel, p, q, hg', ht', hvar, hd, _, _⟩, _⟩ := h
  obtain rfl := Option.some.inj ((show Tryd.prog.globalNamed "valise/tape.numbers" = some 0 by kernel_rfl).symm.trans hg')
  obtain rfl := Option.some.inj ((show (Tryd.prog.globals[0]?).map (·.type) = some 73 by kernel_rfl).symm.trans ht')
  have hc := fun i hi => cells_of_spans (i := i) Tryd.underlying73 Tryd.underlying72 ⟨rfl, rfl⟩ ⟨rfl, rfl⟩ Tryd.underlying3 cIntP cPlace hd hi
  have hg : Tryd.prog.globalNamed "valise/tape.numbers" = some 0 := by kernel_rfl
  intro i v hv
  have hi : i < 16 := (List.getElem?_eq_some_iff.1 hv).1
  rw [nmz_at i hi] at hv
  cases hv
  obtain ⟨c1, c2⟩ := hc (i / 2) (by show i / 2 < 8; omega)
  rw [World.var?_cell hg hvar]
  by_cases e : i % 2 = 0
  · rw [if_pos e]
    rw [show i / 2 * 2 = i by omega] at c1
    simpa using c1
  · rw [if_neg e]
    rw [show i / 2 * 2 + 1 = i by omega] at c2
    simpa using c2

theorem texts_of {W : World} {rest : List (String × DataW Unit)} (h : laidMet Tryd.prog (("valise/tape.texts", spanData txz) :: rest) W) : ∀ (i : Nat) (v : Int), txsL[i]? = some v → W.cell? ⟨1, i, none⟩ = some (.int .i64 v) := by
  obtain ⟨ps, ⟨g', t', cs, fuel, p, q, hg', ht', hvar, hd, _, _⟩, _⟩ := h
  obtain rfl := Option.some.inj ((show Tryd.prog.globalNamed "valise/tape.texts" = some 1 by kernel_rfl).symm.trans hg')
  obtain rfl := Option.some.inj ((show (Tryd.prog.globals[1]?).map (·.type) = some 79 by kernel_rfl).symm.trans ht')
  have hc := fun i hi => cells_of_spans (i := i) Tryd.underlying79 Tryd.underlying72 ⟨rfl, rfl⟩ ⟨rfl, rfl⟩ Tryd.underlying3 cIntP cPlace hd hi
  have hg : Tryd.prog.globalNamed "valise/tape.texts" = some 1 := by kernel_rfl
  intro i v hv
  have hi : i < 10 := (List.getElem?_eq_some_iff.1 hv).1
  rw [txz_at i hi] at hv
  cases hv
  obtain ⟨c1, c2⟩ := hc (i / 2) (by show i / 2 < 5; omega)
  rw [World.var?_cell hg hvar]
  by_cases e : i % 2 = 0
  · rw [if_pos e]
    rw [show i / 2 * 2 = i by omega] at c1
    simpa using c1
  · rw [if_neg e]
    rw [show i / 2 * 2 + 1 = i by omega] at c2
    simpa using c2

theorem tbs_of {W : World} {rest : List (String × DataW Unit)} (h : laidMet Tryd.prog (("valise/tape.numbers", spanData nmz) :: ("valise/tape.texts", spanData txz) :: rest) W) : Tbs W := ⟨texts_of h.tail, nums_of h⟩
end Go.Proofs.YtaeifigbnlffbaaDoor

