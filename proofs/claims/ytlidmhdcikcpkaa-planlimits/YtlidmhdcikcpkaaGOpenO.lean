import Derived.Test.YtlidmhdcikcpkaaGOpenW
import Derived.OpenShut
namespace Go.Proofs.Ytlidmhdcikcpkaa
open Go.ChangeShapes Go.WideShapes Go.ChangeAt Go.RowKit Go.Joins Go.Deep
set_option maxRecDepth 20000
set_option linter.unusedVariables false

/-- Options that are handed in. -/
theorem open_opts {H : Type} {enc : TypeId × Value → H} {W : World} {r : Reach} {b0 : Nat} {v : Value} {d : DataW H} {ps : List MemPlace}
    (hv : Value.okWide Try.prog W r b0 28 v) (h : DataW.Trod enc Try.prog W 0 (fun _ => true) true 28 v d ps) : ∃ (x : Int × Int), v = .agg #[.int .i64 x.1, .int .i64 x.2] ∧ True := by
  obtain ⟨c0, c1, y0, y1, m, rfl, rfl, rfl, h0, h1⟩ := open_agg2 Try.underlying28 (by kernel_rfl) (by kernel_rfl) hv h
  obtain ⟨k0, e0, _, q0⟩ := DataW.trod_int Try.underlying3 h0
  obtain ⟨k1, e1, _, q1⟩ := DataW.trod_int Try.underlying3 h1
  simp at e0 e1
  subst e0 e1
  exact ⟨(k0, k1), rfl, trivial⟩
end Go.Proofs.Ytlidmhdcikcpkaa

