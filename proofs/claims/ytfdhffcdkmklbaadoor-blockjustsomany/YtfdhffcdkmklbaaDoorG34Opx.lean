import Derived.Test.YtfdhffcdkmklbaaDoorG21Mk4
import Derived.Test.YtfdhffcdkmklbaaDoorG33Xck
import Derived.Test.YtfdhffcdkmklbaaDoorG28Ms5
namespace Go.Proofs.YtfdhffcdkmklbaaDoor
open Go.RowKit Go.Maps
set_option maxRecDepth 20000
set_option linter.unusedVariables false

def slnv : Value → Nat | .slice _ n _ => n | _ => 0

theorem OI.cut {w : World} {B g n c k : Nat} {l : List Int} (h : OI w B (.slice (some ⟨g, 0, none⟩) n c) l) (hk : k ≤ l.length) : OI w B (.slice (some ⟨g, 0, none⟩) k c) (l.take k) := by
  have hl : (l.take k).length = k := by rw [List.length_take]; omega
  rcases h.2 with ⟨hv, _⟩ | ⟨g', cap, cur, hv, h1, h2, h3, h4, h5, h6⟩
  · cases hv
  · simp only [Value.slice.injEq, Option.some.injEq, Addr.mk.injEq, and_true] at hv
    obtain ⟨rfl, rfl, rfl⟩ := hv
    refine ⟨by simp, .inr ⟨g, c, cur, by rw [hl], h1, h2, by omega, h4, h5, ?_⟩⟩
    rw [hl]
    have := congrArg (List.take (k * 1)) h6
    rw [List.take_take, show min (k * 1) (l.length * 1) = k * 1 by omega] at this
    rw [this, List.map_take, Nat.mul_one]

theorem cut_trm {l : List Int} {f : Nat} : (l ++ List.replicate (f - l.length) 0).take (tlk (l ++ List.replicate (f - l.length) 0) f (l ++ List.replicate (f - l.length) 0).length) = trm l f := by
  by_cases h : l.length ≤ f
  · have hl : (l ++ List.replicate (f - l.length) (0 : Int)).length = f := by rw [List.length_append, List.length_replicate]; omega
    rw [hl, tl_low _ f f (Nat.le_refl _), List.take_of_length_le (by omega)]
    unfold trm tln
    rw [tl_low l f l.length h, List.take_of_length_le (Nat.le_refl _)]
  · rw [show f - l.length = 0 by omega, List.replicate_zero, List.append_nil]
    unfold trm
    have := tl_ge l f l.length (by omega)
    unfold tln
    rw [show f - tlk l f l.length = 0 by omega, List.replicate_zero, List.append_nil]

end Go.Proofs.YtfdhffcdkmklbaaDoor

namespace Go.Proofs.YtfdhffcdkmklbaaDoor
open Go.RowKit Go.Maps
set_option maxRecDepth 20000
set_option linter.unusedVariables false

end Go.Proofs.YtfdhffcdkmklbaaDoor

namespace Go.Proofs.YtfdhffcdkmklbaaDoor
open Go.ChangeShapes Go.WideShapes Go.ChangeAt Go.RowKit Go.Joins Go.Deep
set_option maxRecDepth 20000

end Go.Proofs.YtfdhffcdkmklbaaDoor

