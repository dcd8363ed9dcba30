import Derived.Test.YtbbbonphmffokaaGOpenA
import Derived.OpenShut
namespace Go.Proofs.Ytbbbonphmffokaa
open Go.ChangeShapes Go.WideShapes Go.ChangeAt Go.RowKit Go.Joins Go.Deep
set_option maxRecDepth 20000

/-- Sizes that are handed in. -/
theorem open_sizes {H : Type} {enc : TypeId × Value → H} {W : World} {r : Reach} {b0 : Nat} {v : Value} {d : DataW H} {ps : List MemPlace}
    (hv : Value.okWide Try.prog W r b0 23 v) (h : DataW.Trod enc Try.prog W 0 (fun _ => true) true 23 v d ps) : ∃ (x y z : Int), v = .agg #[.int .i64 x, .int .i64 y, .int .i64 z] := by
  obtain ⟨c0, c1, c2, y0, y1, y2, m, rfl, rfl, rfl, h0, h1, h2⟩ := open_agg3 Try.underlying23 (by kernel_rfl) (by kernel_rfl) hv h
  obtain ⟨k0, e0, _, q0⟩ := DataW.trod_int Try.underlying3 h0
  obtain ⟨k1, e1, _, q1⟩ := DataW.trod_int Try.underlying3 h1
  obtain ⟨k2, e2, _, q2⟩ := DataW.trod_int Try.underlying3 h2
  simp at e0 e1 e2
  subst e0 e1 e2
  exact ⟨k0, k1, k2, rfl⟩
end Go.Proofs.Ytbbbonphmffokaa

