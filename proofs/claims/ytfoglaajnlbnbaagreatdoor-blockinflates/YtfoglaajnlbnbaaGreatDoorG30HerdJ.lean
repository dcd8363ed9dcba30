import Derived.Test.YtfoglaajnlbnbaaGreatDoorG26Dcd
import Derived.Test.YtfoglaajnlbnbaaGreatDoorG29Wr5
namespace Go.Proofs.YtfoglaajnlbnbaaGreatDoor
open Go.RowKit Go.Maps
set_option maxRecDepth 20000

theorem hjoin {W w : World} {xs : List ((Nat → Nat) × Thing)} (H : Herd W w xs) (i j : Nat) {K Kx : Nat → Nat} {g gx : Nat} {row x : List Int} (hi : xs[i]? = some (K, tw g row)) (hj : xs[j]? = some (Kx, tw gx x)) (hij : i ≠ j) :
    Calls Tryz.prog 33 #[.pointer (some ⟨g, 0, none⟩), .pointer (some ⟨gx, 0, none⟩)] w fun e w' => e = .returned (.int .i64 (joinE row x)) ∧ ∃ K', Herd W w' (xs.set i (K', tw g (joinRow row x))) := by
  have hw : Wp w K g row := H.rep i _ hi
  have hx : Wp w Kx gx x := H.rep j _ hj
  refine (wjoin_any hw hx (H.sep j i _ _ hj hi (fun e => hij e.symm))).mono ?_
  rintro e w1 ⟨rfl, K', h1, h2⟩
  exact ⟨rfl, K', H.op i hi (x' := tw g (joinRow row x)) h1 h2⟩

end Go.Proofs.YtfoglaajnlbnbaaGreatDoor

