import Derived.Test.YtijmmfimkibgbaaGOpenN
namespace Go.Proofs.Ytijmmfimkibgbaa
open Go.ChangeShapes Go.WideShapes Go.ChangeAt Go.RowKit Go.Joins Go.Deep
set_option maxRecDepth 20000
set_option linter.unusedVariables false

theorem list16 {α : Type} {l : List α} (h : l.length = 16) : ∃ a0 a1 a2 a3 a4 a5 a6 a7 a8 a9 a10 a11 a12 a13 a14 a15, l = [a0, a1, a2, a3, a4, a5, a6, a7, a8, a9, a10, a11, a12, a13, a14, a15] := by
  match l, h with
  | [a0, a1, a2, a3, a4, a5, a6, a7, a8, a9, a10, a11, a12, a13, a14, a15], _ => exact ⟨a0, a1, a2, a3, a4, a5, a6, a7, a8, a9, a10, a11, a12, a13, a14, a15, rfl⟩

theorem cellsCentral : Try.prog.cellsOf 26 = 16 := by kernel_rfl

structure CenD {H : Type} (l : Cen) (d : DataW H) : Prop where
  made : Ok64 l.made
  disk : Ok64 l.disk
  internal : Ok64 l.internal
  external : Ok64 l.external
  at' : Ok64 l.at'
  d : ∃ x0 x1 x2 x3 x4 x5, LocD l.loc x0 ∧ d = .agg [x0, x1, x2, x3, x4, x5, .lit (.string l.comment.data.toList)]

theorem open_centralC {H : Type} {enc : TypeId × Value → H} {W : World} {n : Nat} {cs : List Value} {y : DataW H × List MemPlace} (h : DataW.trod enc Try.prog W 0 (fun _ => true) true n 26 cs = some y) :
    ∃ l : Cen, cs = l.cs.toList ∧ CenD l y.1 := by
  obtain ⟨xs, m, _, rfl, hl, hxl, hf⟩ := DataW.trod_struct Try.underlying26 h
  rw [cellsCentral] at hl
  obtain ⟨c0, c1, c2, c3, c4, c5, c6, c7, c8, c9, c10, c11, c12, c13, c14, c15, rfl⟩ := list16 hl
  obtain ⟨y0, y1, y2, y3, y4, y5, y6, rfl⟩ := list7 hxl
  have h0 : DataW.trod enc Try.prog W 0 (fun _ => true) true m 24 (([c0, c1, c2, c3, c4, c5, c6, c7, c8, c9, c10, c11, c12, c13, c14, c15].drop 0).take (Try.prog.cellsOf 24)) = some y0 := hf 0 _ rfl
  have h1 : DataW.trod enc Try.prog W 0 (fun _ => true) true m 3 (([c0, c1, c2, c3, c4, c5, c6, c7, c8, c9, c10, c11, c12, c13, c14, c15].drop 10).take (Try.prog.cellsOf 3)) = some y1 := hf 1 _ rfl
  have h2 : DataW.trod enc Try.prog W 0 (fun _ => true) true m 3 (([c0, c1, c2, c3, c4, c5, c6, c7, c8, c9, c10, c11, c12, c13, c14, c15].drop 11).take (Try.prog.cellsOf 3)) = some y2 := hf 2 _ rfl
  have h3 : DataW.trod enc Try.prog W 0 (fun _ => true) true m 3 (([c0, c1, c2, c3, c4, c5, c6, c7, c8, c9, c10, c11, c12, c13, c14, c15].drop 12).take (Try.prog.cellsOf 3)) = some y3 := hf 3 _ rfl
  have h4 : DataW.trod enc Try.prog W 0 (fun _ => true) true m 3 (([c0, c1, c2, c3, c4, c5, c6, c7, c8, c9, c10, c11, c12, c13, c14, c15].drop 13).take (Try.prog.cellsOf 3)) = some y4 := hf 4 _ rfl
  have h5 : DataW.trod enc Try.prog W 0 (fun _ => true) true m 3 (([c0, c1, c2, c3, c4, c5, c6, c7, c8, c9, c10, c11, c12, c13, c14, c15].drop 14).take (Try.prog.cellsOf 3)) = some y5 := hf 5 _ rfl
  have h6 : DataW.trod enc Try.prog W 0 (fun _ => true) true m 9 (([c0, c1, c2, c3, c4, c5, c6, c7, c8, c9, c10, c11, c12, c13, c14, c15].drop 15).take (Try.prog.cellsOf 9)) = some y6 := hf 6 _ rfl
  rw [cellsLocal] at h0
  rw [show Try.prog.cellsOf 3 = 1 by kernel_rfl] at h1 h2 h3 h4 h5
  rw [show Try.prog.cellsOf 9 = 1 by kernel_rfl] at h6
  simp only [List.drop, List.take] at h0 h1 h2 h3 h4 h5 h6
  obtain ⟨k1, e1, _, q1⟩ := DataW.trod_int Try.underlying3 h1
  obtain ⟨k2, e2, _, q2⟩ := DataW.trod_int Try.underlying3 h2
  obtain ⟨k3, e3, _, q3⟩ := DataW.trod_int Try.underlying3 h3
  obtain ⟨k4, e4, _, q4⟩ := DataW.trod_int Try.underlying3 h4
  obtain ⟨k5, e5, _, q5⟩ := DataW.trod_int Try.underlying3 h5
  obtain ⟨k6, e6, q6, _⟩ := DataW.trod_string Try.underlying9 h6
  obtain ⟨lc, hlc, hld⟩ := open_localC h0
  simp at e1 e2 e3 e4 e5 e6
  subst e1 e2 e3 e4 e5 e6
  obtain ⟨l0, l1, l2, l3, l4, l5, l6, l7, l8, l9⟩ := lc
  simp only [Loc.cs, List.cons.injEq, and_true] at hlc
  obtain ⟨rfl, rfl, rfl, rfl, rfl, rfl, rfl, rfl, rfl, rfl⟩ := hlc
  refine ⟨⟨⟨l0, l1, l2, l3, l4, l5, l6, l7, l8, l9⟩, k1, k2, k3, k4, k5, k6⟩, rfl, i64_in q1, i64_in q2, i64_in q3, i64_in q4, i64_in q5, y0.1, y1.1, y2.1, y3.1, y4.1, y5.1, hld, ?_⟩
  rw [q6]
  rfl

theorem open_central {H : Type} {enc : TypeId × Value → H} {W : World} {r : Reach} {b0 : Nat} {v : Value} {d : DataW H} {ps : List MemPlace}
    (hv : Value.okWide Try.prog W r b0 26 v) (h : DataW.Trod enc Try.prog W 0 (fun _ => true) true 26 v d ps) : ∃ l : Cen, v = l.v ∧ CenD l d := by
  obtain ⟨cs, rfl, hsz⟩ := okWide_struct Try.underlying26 hv
  obtain ⟨fuel, hf⟩ := h
  obtain ⟨l, hl, hd⟩ := open_centralC hf
  refine ⟨l, ?_, hd⟩
  have : cs = l.cs := by
    apply Array.ext'
    simpa [Value.cells] using hl
  rw [this]
  rfl

theorem CenD.weigh {H : Type} {l : Cen} {d : DataW H} (hl : CenD l d) : l.loc.name.size ∈ d.weights Try.prog 26 ∧ l.loc.extra.size ∈ d.weights Try.prog 26 ∧ l.comment.size ∈ d.weights Try.prog 26 := by
  obtain ⟨x0, x1, x2, x3, x4, x5, hl0, rfl⟩ := hl.d
  rw [DataW.weights, Try.underlying26]
  exact ⟨DataW.weights_mem_each (j := 0) (t := 24) (d := x0) rfl rfl _ hl0.weigh.1, DataW.weights_mem_each (j := 0) (t := 24) (d := x0) rfl rfl _ hl0.weigh.2, DataW.weights_mem_each (j := 6) (t := 9) (d := .lit (.string l.comment.data.toList)) rfl rfl _ (weigh_str _ _)⟩

theorem reach_central {H : Type} {ts : List TypeId} {ds : List (DataW H)} {j : Nat} {l : Cen} {d : DataW H} (h : (DataW.weightsEach Try.prog ts ds).all (· ≤ reachBytes) = true) (ht : ts[j]? = some 26) (hd : ds[j]? = some d) (hl : CenD l d) : l.Ok := by
  have m1 := List.all_eq_true.1 h _ (DataW.weights_mem_each ht hd _ hl.weigh.1)
  have m2 := List.all_eq_true.1 h _ (DataW.weights_mem_each ht hd _ hl.weigh.2.1)
  have m3 := List.all_eq_true.1 h _ (DataW.weights_mem_each ht hd _ hl.weigh.2.2)
  have m1' : l.loc.name.size ≤ reachBytes := of_decide_eq_true m1
  have m2' : l.loc.extra.size ≤ reachBytes := of_decide_eq_true m2
  have m3' : l.comment.size ≤ reachBytes := of_decide_eq_true m3
  unfold reachBytes at m1' m2' m3'
  obtain ⟨x0, x1, x2, x3, x4, x5, hl0, _⟩ := hl.d
  exact ⟨⟨hl0.need, hl0.flags, hl0.method, hl0.clock, hl0.date, hl0.sum0, hl0.sum1, hl0.packed, hl0.size, by omega, by omega⟩, hl.made, hl.disk, hl.internal, hl.external, hl.at', by omega⟩
end Go.Proofs.Ytijmmfimkibgbaa

