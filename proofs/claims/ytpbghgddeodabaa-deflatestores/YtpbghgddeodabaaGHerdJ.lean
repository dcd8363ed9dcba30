import Derived.Test.YtpbghgddeodabaaGHerd
import Derived.Test.YtpbghgddeodabaaGWr5
namespace Go.Proofs.Ytpbghgddeodabaa
open Go.RowKit Go.Maps
set_option maxRecDepth 20000

theorem hraw {W w : World} {xs : List ((Nat → Nat) × Thing)} (H : Herd W w xs) (i : Nat) {K : Nat → Nat} {g : Nat} {row : List Int} (hi : xs[i]? = some (K, tw g row)) (u : Value) (l : List Int) (hB : Byt l) (hS : SB w u l) (hap : ∀ k, u.ownBlock = some k → k < w.heap.size → K k = 0) :
    Calls Try.prog 21 #[.pointer (some ⟨g, 0, none⟩), u] w fun e w' => e = .returned (.int .i64 (rawE row l)) ∧ ∃ K', Herd W w' (xs.set i (K', tw g (rawRow row l))) := by
  have hw : Wp w K g row := H.rep i _ hi
  refine (wraw_any hw u l hB (hS.safe hap)).mono ?_
  rintro e w1 ⟨rfl, K', h1, h2⟩
  exact ⟨rfl, K', H.op i hi (x' := tw g (rawRow row l)) h1 h2⟩

end Go.Proofs.Ytpbghgddeodabaa

