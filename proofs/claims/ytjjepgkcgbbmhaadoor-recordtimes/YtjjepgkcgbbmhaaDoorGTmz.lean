import Derived.Test.YtjjepgkcgbbmhaaDoorGTmw
namespace Go.Proofs.YtjjepgkcgbbmhaaDoor
open Go.RowKit

theorem times_walk (a b : Stp) (w : World) (T : Mtab w) : Calls Tryd.prog 3 #[a.v, b.v] w fun e w' => e = .returned (.bool true) ∧ Below w.heap.size w w' := by
  by_cases h : May a
  · exact times_yes a b w T ⟨h, rfl⟩
  · exact times_no a b w T ⟨h, rfl⟩
end Go.Proofs.YtjjepgkcgbbmhaaDoor

