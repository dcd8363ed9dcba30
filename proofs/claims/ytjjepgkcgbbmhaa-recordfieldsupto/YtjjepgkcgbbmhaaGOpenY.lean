import Derived.Test.YtjjepgkcgbbmhaaGOpenX
import Derived.Test.YtjjepgkcgbbmhaaGOpenU
namespace Go.Proofs.Ytjjepgkcgbbmhaa
open Go.ChangeShapes Go.WideShapes Go.ChangeAt Go.RowKit Go.Joins Go.Deep
set_option maxRecDepth 20000

theorem bulk_extras {H : Type} {ds : List (DataW H)} {d : DataW H} {R : List Xf} (hk : Rows.uptoSmall H ds = true) (hd : d ∈ ds)
    (hl : (∀ l ∈ R, Ok64 l.1 ∧ l.2.size ≤ 9223372036854775807) ∧ (R = [] ∨ ∃ elems spare, d = .slice elems spare ∧ elems.length = R.length)) : R.length ≤ 1048576 ∧ ∀ l ∈ R, Ok64 l.1 ∧ l.2.size ≤ 9223372036854775807 := by
  refine ⟨?_, hl.1⟩
  rcases hl.2 with rfl | ⟨e, s, rfl, h⟩
  · exact Nat.zero_le _
  · have h0 : Rows.uptoBulkAll ds ≤ 1048576 := of_decide_eq_true hk
    have h3 := bulk_mem hd
    have h1 := bulk_count e
    simp only [Rows.uptoBulk] at h3
    omega
end Go.Proofs.Ytjjepgkcgbbmhaa

