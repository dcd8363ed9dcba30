import Derived.Test.YtknjblgnjoocbaaDoorGNd
namespace Go.Proofs.YtknjblgnjoocbaaDoor
open Go.RowKit Go.Maps
set_option maxRecDepth 20000
set_option linter.unusedVariables false
set_option linter.unusedSimpArgs false

theorem OI.shp {w : World} {base : Nat} {v : Value} {l : List Int} (h : OI w base v l) : ∃ a n c, v = .slice a n c := by
  obtain ⟨a, c, rfl⟩ := h.shape
  exact ⟨_, _, _, rfl⟩

theorem one_oi (W : World) (x : Int) : OI (W.alloc (.cells #[.int .i64 x] 3)) 0 (.slice (some ⟨W.heap.size, 0, none⟩) 1 1) [x] := by
  have := OI.of_full (w := W.alloc (.cells #[.int .i64 x] 3)) (base := 0) (g := W.heap.size) (l := [x]) (heap_alloc_new W _) (Nat.zero_le _) (by unfold maxLen; simp)
  exact this

theorem bmp_none (len : Nat → Nat) (S : List Nat) : bmp len (S.take 0) = len := by
  funext s
  simp [bmp]

end Go.Proofs.YtknjblgnjoocbaaDoor

