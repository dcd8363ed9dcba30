import Derived.Test.YtfdhffcdkmklbaaDoorG26Dcd
import Derived.Test.YtfdhffcdkmklbaaDoorG29Wr5
namespace Go.Proofs.YtfdhffcdkmklbaaDoor
open Go.RowKit Go.Maps
set_option maxRecDepth 20000

theorem hraw {W w : World} {xs : List ((Nat → Nat) × Thing)} (H : Herd W w xs) (i : Nat) {K : Nat → Nat} {g : Nat} {row : List Int} (hi : xs[i]? = some (K, tw g row)) (u : Value) (l : List Int) (hB : Byt l) (hS : SB w u l) (hap : ∀ k, u.ownBlock = some k → k < w.heap.size → K k = 0) :
    Calls Tryd.prog 38 #[.pointer (some ⟨g, 0, none⟩), u] w fun e w' => e = .returned (.int .i64 (rawE row l)) ∧ ∃ K', Herd W w' (xs.set i (K', tw g (rawRow row l))) := by
  have hw : Wp w K g row := H.rep i _ hi
  refine (wraw_any hw u l hB (hS.safe hap)).mono ?_
  rintro e w1 ⟨rfl, K', h1, h2⟩
  exact ⟨rfl, K', H.op i hi (x' := tw g (rawRow row l)) h1 h2⟩

theorem hjoin {W w : World} {xs : List ((Nat → Nat) × Thing)} (H : Herd W w xs) (i j : Nat) {K Kx : Nat → Nat} {g gx : Nat} {row x : List Int} (hi : xs[i]? = some (K, tw g row)) (hj : xs[j]? = some (Kx, tw gx x)) (hij : i ≠ j) :
    Calls Tryd.prog 25 #[.pointer (some ⟨g, 0, none⟩), .pointer (some ⟨gx, 0, none⟩)] w fun e w' => e = .returned (.int .i64 (joinE row x)) ∧ ∃ K', Herd W w' (xs.set i (K', tw g (joinRow row x))) := by
  have hw : Wp w K g row := H.rep i _ hi
  have hx : Wp w Kx gx x := H.rep j _ hj
  refine (wjoin_any hw hx (H.sep j i _ _ hj hi (fun e => hij e.symm))).mono ?_
  rintro e w1 ⟨rfl, K', h1, h2⟩
  exact ⟨rfl, K', H.op i hi (x' := tw g (joinRow row x)) h1 h2⟩

theorem hjoinself {W w : World} {xs : List ((Nat → Nat) × Thing)} (H : Herd W w xs) (i : Nat) {K : Nat → Nat} {g : Nat} {row : List Int} (hi : xs[i]? = some (K, tw g row)) :
    Calls Tryd.prog 25 #[.pointer (some ⟨g, 0, none⟩), .pointer (some ⟨g, 0, none⟩)] w fun e w' => e = .returned (.int .i64 (joinE row row)) ∧ ∃ K', Herd W w' (xs.set i (K', tw g (joinRow row row))) := by
  have hw : Wp w K g row := H.rep i _ hi
  refine (wjoin_self hw).mono ?_
  rintro e w1 ⟨rfl, K', h1, h2⟩
  exact ⟨rfl, K', H.op i hi (x' := tw g (joinRow row row)) h1 h2⟩
end Go.Proofs.YtfdhffcdkmklbaaDoor

