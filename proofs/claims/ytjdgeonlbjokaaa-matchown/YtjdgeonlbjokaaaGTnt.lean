import Derived.Test.YtjdgeonlbjokaaaGTly
import Derived.Carry
namespace Go.Proofs.Ytjdgeonlbjokaaa
open Go.RowKit Go.Maps
set_option maxRecDepth 20000
set_option linter.unusedVariables false

theorem newteller_any (v : Value) (D : List Int) (W C : Nat) (z : Bool) (w : World) (h : SB w v D) (hlow : ∀ k, v.ownBlock = some k → k < w.heap.size) :
    Calls Try.prog 27 #[v, .agg #[.int .i64 (W : Int), .int .i64 (C : Int), .bool z]] w fun e w' => ∃ g m, e = .returned (.pointer (some ⟨g, 0, none⟩)) ∧ Tlx w' w.heap.size g m v D W C z (fun _ => .slice none 0 0) 0 ∧ Below w.heap.size w w' := by
  have HF : Hid (Tlx (((w.alloc (.cells #[.int .i64 (W : Int), .int .i64 (C : Int), .bool z] 24)).alloc (.map #[] 0)).alloc (.cells #[v, .int .i64 (W : Int), .int .i64 (C : Int), .bool z, .map (some (w.heap.size + 1)), .int .i64 0] 61)) w.heap.size (w.heap.size + 2) (w.heap.size + 1) v D W C z (fun _ => .slice none 0 0) 0 ∧
      Below w.heap.size w (((w.alloc (.cells #[.int .i64 (W : Int), .int .i64 (C : Int), .bool z] 24)).alloc (.map #[] 0)).alloc (.cells #[v, .int .i64 (W : Int), .int .i64 (C : Int), .bool z, .map (some (w.heap.size + 1)), .int .i64 0] 61))) := by
    have b1 : Below w.heap.size w (w.alloc (.cells #[.int .i64 (W : Int), .int .i64 (C : Int), .bool z] 24)) := (Below.refl _ _).alloc (Nat.le_refl _) _
    have b2 := b1.alloc (by have := b1.size; omega) (.map #[] 0)
    have b3 := b2.alloc (by have := b2.size; omega) (.cells #[v, .int .i64 (W : Int), .int .i64 (C : Int), .bool z, .map (some (w.heap.size + 1)), .int .i64 0] 61)
    have e2 := heap_alloc_new (w.alloc (.cells #[.int .i64 (W : Int), .int .i64 (C : Int), .bool z] 24)) (.map #[] 0)
    have e3 := heap_alloc_new ((w.alloc (.cells #[.int .i64 (W : Int), .int .i64 (C : Int), .bool z] 24)).alloc (.map #[] 0)) (.cells #[v, .int .i64 (W : Int), .int .i64 (C : Int), .bool z, .map (some (w.heap.size + 1)), .int .i64 0] 61)
    refine ⟨Tlr.start ?_ (by omega) (by omega) (by omega) (h.below b3) hlow ?_, b3⟩
    · have s3 : ((w.alloc (.cells #[.int .i64 (W : Int), .int .i64 (C : Int), .bool z] 24)).alloc (.map #[] 0)).heap.size = w.heap.size + 2 := by simp
      rw [s3] at e3
      exact e3
    · have s2 : (w.alloc (.cells #[.int .i64 (W : Int), .int .i64 (C : Int), .bool z] 24)).heap.size = w.heap.size + 1 := by simp
      rw [s2] at e2
      exact (Below.heap_alloc _ _ _ (by simp)).trans e2
  obtain ⟨ao, cap, rfl, _, _⟩ := h.open
  clear h hlow
  have hmm := @run_makeMap Try.prog
  go_enter Try.func27, Try.ntmps27
  go_wp2
  go_ret
  exact ⟨_, _, rfl, HF.out.1, HF.out.2⟩
end Go.Proofs.Ytjdgeonlbjokaaa

