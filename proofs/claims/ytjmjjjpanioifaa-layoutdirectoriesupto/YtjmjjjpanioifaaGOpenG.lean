import Derived.Test.YtjmjjjpanioifaaGOpenR
namespace Go.Proofs.Ytjmjjjpanioifaa
open Go.ChangeShapes Go.WideShapes Go.ChangeAt Go.RowKit Go.Joins Go.Deep
set_option maxRecDepth 20000
set_option linter.unusedVariables false

theorem open_str13 {H : Type} {enc : TypeId × Value → H} {W : World} {r : Reach} {b0 : Nat} {v : Value} {d : DataW H} {ps : List MemPlace}
    (hv : Value.okWide Try.prog W r b0 9 v) (h : DataW.Trod enc Try.prog W 0 (fun _ => true) true 9 v d ps) : ∃ s, v = .string s ∧ d = .lit (.string s.data.toList) := by
  obtain ⟨s, rfl⟩ := okWide_string Try.underlying9 hv
  obtain ⟨fuel, hf⟩ := h
  obtain ⟨s', hs, hx, _⟩ := DataW.trod_string Try.underlying9 hf
  simp [Value.cells] at hs
  subst hs
  simp only [Prod.mk.injEq] at hx
  exact ⟨s, rfl, hx.1⟩

theorem bulk_str13 {H : Type} {ds : List (DataW H)} {d : DataW H} {s : ByteArray} (hk : Rows.uptoSmall H ds = true) (hd : d ∈ ds) (hl : d = .lit (.string s.data.toList)) : s.size ≤ 1048576 := by
  have h0 : Rows.uptoBulkAll ds ≤ 1048576 := of_decide_eq_true hk
  have h3 := bulk_mem hd
  rw [hl] at h3
  have h1 := bulk_str (H := H) s
  omega
end Go.Proofs.Ytjmjjjpanioifaa

