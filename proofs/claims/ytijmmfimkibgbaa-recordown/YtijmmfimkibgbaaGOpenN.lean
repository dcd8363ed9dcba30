import Derived.Test.YtijmmfimkibgbaaGOpenL
import Derived.Test.YtijmmfimkibgbaaGRe
namespace Go.Proofs.Ytijmmfimkibgbaa
open Go.ChangeShapes Go.WideShapes Go.ChangeAt Go.RowKit Go.Joins Go.Deep
set_option maxRecDepth 20000
set_option linter.unusedVariables false

theorem list7 {α : Type} {l : List α} (h : l.length = 7) : ∃ a0 a1 a2 a3 a4 a5 a6, l = [a0, a1, a2, a3, a4, a5, a6] := by
  match l, h with
  | [a0, a1, a2, a3, a4, a5, a6], _ => exact ⟨a0, a1, a2, a3, a4, a5, a6, rfl⟩

theorem cellsEnd : Try.prog.cellsOf 28 = 7 := by kernel_rfl

structure EnrD {H : Type} (l : Enr) (d : DataW H) : Prop where
  disk : Ok64 l.disk
  dirDisk : Ok64 l.dirDisk
  here : Ok64 l.here
  total : Ok64 l.total
  dirSize : Ok64 l.dirSize
  dirAt : Ok64 l.dirAt
  d : ∃ x0 x1 x2 x3 x4 x5, d = .agg [x0, x1, x2, x3, x4, x5, .lit (.string l.comment.data.toList)]

theorem open_endC {H : Type} {enc : TypeId × Value → H} {W : World} {n : Nat} {cs : List Value} {y : DataW H × List MemPlace} (h : DataW.trod enc Try.prog W 0 (fun _ => true) true n 28 cs = some y) :
    ∃ l : Enr, cs = l.cs.toList ∧ EnrD l y.1 := by
  obtain ⟨xs, m, _, rfl, hl, hxl, hf⟩ := DataW.trod_struct Try.underlying28 h
  rw [cellsEnd] at hl
  obtain ⟨c0, c1, c2, c3, c4, c5, c6, rfl⟩ := list7 hl
  obtain ⟨y0, y1, y2, y3, y4, y5, y6, rfl⟩ := list7 hxl
  have h0 : DataW.trod enc Try.prog W 0 (fun _ => true) true m 3 (([c0, c1, c2, c3, c4, c5, c6].drop 0).take (Try.prog.cellsOf 3)) = some y0 := hf 0 _ rfl
  have h1 : DataW.trod enc Try.prog W 0 (fun _ => true) true m 3 (([c0, c1, c2, c3, c4, c5, c6].drop 1).take (Try.prog.cellsOf 3)) = some y1 := hf 1 _ rfl
  have h2 : DataW.trod enc Try.prog W 0 (fun _ => true) true m 3 (([c0, c1, c2, c3, c4, c5, c6].drop 2).take (Try.prog.cellsOf 3)) = some y2 := hf 2 _ rfl
  have h3 : DataW.trod enc Try.prog W 0 (fun _ => true) true m 3 (([c0, c1, c2, c3, c4, c5, c6].drop 3).take (Try.prog.cellsOf 3)) = some y3 := hf 3 _ rfl
  have h4 : DataW.trod enc Try.prog W 0 (fun _ => true) true m 3 (([c0, c1, c2, c3, c4, c5, c6].drop 4).take (Try.prog.cellsOf 3)) = some y4 := hf 4 _ rfl
  have h5 : DataW.trod enc Try.prog W 0 (fun _ => true) true m 3 (([c0, c1, c2, c3, c4, c5, c6].drop 5).take (Try.prog.cellsOf 3)) = some y5 := hf 5 _ rfl
  have h6 : DataW.trod enc Try.prog W 0 (fun _ => true) true m 9 (([c0, c1, c2, c3, c4, c5, c6].drop 6).take (Try.prog.cellsOf 9)) = some y6 := hf 6 _ rfl
  rw [show Try.prog.cellsOf 3 = 1 by kernel_rfl] at h0 h1 h2 h3 h4 h5
  rw [show Try.prog.cellsOf 9 = 1 by kernel_rfl] at h6
  simp only [List.drop, List.take] at h0 h1 h2 h3 h4 h5 h6
  obtain ⟨k0, e0, _, q0⟩ := DataW.trod_int Try.underlying3 h0
  obtain ⟨k1, e1, _, q1⟩ := DataW.trod_int Try.underlying3 h1
  obtain ⟨k2, e2, _, q2⟩ := DataW.trod_int Try.underlying3 h2
  obtain ⟨k3, e3, _, q3⟩ := DataW.trod_int Try.underlying3 h3
  obtain ⟨k4, e4, _, q4⟩ := DataW.trod_int Try.underlying3 h4
  obtain ⟨k5, e5, _, q5⟩ := DataW.trod_int Try.underlying3 h5
  obtain ⟨k6, e6, q6, _⟩ := DataW.trod_string Try.underlying9 h6
  simp at e0 e1 e2 e3 e4 e5 e6
  subst e0 e1 e2 e3 e4 e5 e6
  refine ⟨⟨k0, k1, k2, k3, k4, k5, k6⟩, rfl, i64_in q0, i64_in q1, i64_in q2, i64_in q3, i64_in q4, i64_in q5, y0.1, y1.1, y2.1, y3.1, y4.1, y5.1, ?_⟩
  rw [q6]
  rfl

theorem open_end {H : Type} {enc : TypeId × Value → H} {W : World} {r : Reach} {b0 : Nat} {v : Value} {d : DataW H} {ps : List MemPlace}
    (hv : Value.okWide Try.prog W r b0 28 v) (h : DataW.Trod enc Try.prog W 0 (fun _ => true) true 28 v d ps) : ∃ l : Enr, v = l.v ∧ EnrD l d := by
  obtain ⟨cs, rfl, hsz⟩ := okWide_struct Try.underlying28 hv
  obtain ⟨fuel, hf⟩ := h
  obtain ⟨l, hl, hd⟩ := open_endC hf
  refine ⟨l, ?_, hd⟩
  have : cs = l.cs := by
    apply Array.ext'
    simpa [Value.cells] using hl
  rw [this]
  rfl

theorem reach_end {H : Type} {ts : List TypeId} {ds : List (DataW H)} {j : Nat} {l : Enr} {d : DataW H} (h : (DataW.weightsEach Try.prog ts ds).all (· ≤ reachBytes) = true) (ht : ts[j]? = some 28) (hd : ds[j]? = some d) (hl : EnrD l d) : l.Ok := by
  have m0 : l.comment.size ∈ d.weights Try.prog 28 := by
    obtain ⟨x0, x1, x2, x3, x4, x5, rfl⟩ := hl.d
    rw [DataW.weights, Try.underlying28]
    exact DataW.weights_mem_each (j := 6) (t := 9) (d := .lit (.string l.comment.data.toList)) rfl rfl _ (weigh_str _ _)
  have m1 := List.all_eq_true.1 h _ (DataW.weights_mem_each ht hd _ m0)
  have m1' : l.comment.size ≤ reachBytes := of_decide_eq_true m1
  unfold reachBytes at m1'
  exact ⟨hl.disk, hl.dirDisk, hl.here, hl.total, hl.dirSize, hl.dirAt, by omega⟩
end Go.Proofs.Ytijmmfimkibgbaa

