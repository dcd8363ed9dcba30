import Derived.Test.YthlbmpmbbdaboabXw3
import Derived.Test.YthlbmpmbbdaboabHerd
namespace Go.Proofs.Ythlbmpmbbdaboab
open Go.RowKit Go.Maps
set_option maxRecDepth 20000

/-- A writer of the document's. -/
def tx (g : Nat) (row : List Int) : Thing := ⟨fun w K => Wx w K g row, fun h a b => h.far a b, fun h => h.sup⟩

theorem hxnew {W w : World} {xs : List ((Nat → Nat) × Thing)} (H : Herd W w xs) : Calls Try.prog 31 #[] w fun e w' => ∃ g K, e = .returned (.pointer (some ⟨g, 0, none⟩)) ∧ Herd W w' (xs ++ [(K, tx g [])]) := by
  refine (xnew_any w).mono ?_
  rintro e w1 ⟨g, K, rfl, hW, hn, hb⟩
  exact ⟨g, K, rfl, H.push hb hW hn⟩

theorem hxput {W w : World} {xs : List ((Nat → Nat) × Thing)} (H : Herd W w xs) (i : Nat) {K : Nat → Nat} {g : Nat} {row : List Int} (hi : xs[i]? = some (K, tx g row)) (v n : Int) (hv : 0 ≤ v) (hv1 : v < 4294967296) :
    Calls Try.prog 32 #[.pointer (some ⟨g, 0, none⟩), .int .u32 v, .int .i64 n] w fun e w' => e = .returned (.int .i64 (putE row v n)) ∧ ∃ K', Herd W w' (xs.set i (K', tx g (putRow row v n))) := by
  have hw : Wx w K g row := H.rep i _ hi
  refine (xput_any hw v n hv hv1).mono ?_
  rintro e w1 ⟨rfl, K', h1, h2⟩
  exact ⟨rfl, K', H.op i hi (x' := tx g (putRow row v n)) h1 h2⟩

theorem hxlen {W w : World} {xs : List ((Nat → Nat) × Thing)} (H : Herd W w xs) (i : Nat) {K : Nat → Nat} {g : Nat} {row : List Int} (hi : xs[i]? = some (K, tx g row)) :
    Calls Try.prog 36 #[.pointer (some ⟨g, 0, none⟩)] w fun e w' => e = .returned (.int .i64 row.length) ∧ Herd W w' xs := by
  have hw : Wx w K g row := H.rep i _ hi
  refine (xlen_any hw).mono ?_
  rintro e w1 ⟨rfl, rfl⟩
  exact ⟨rfl, H⟩

theorem hxbytes {W w : World} {xs : List ((Nat → Nat) × Thing)} (H : Herd W w xs) (i : Nat) {K : Nat → Nat} {g : Nat} {row : List Int} (hi : xs[i]? = some (K, tx g row)) :
    Calls Try.prog 38 #[.pointer (some ⟨g, 0, none⟩)] w fun e w' => ∃ a c K', e = .returned (.slice a (pack row).length c) ∧ Herd W w' (xs ++ [(K', tl (.slice a (pack row).length c) (pack row))]) := by
  have hw : Wx w K g row := H.rep i _ hi
  refine (xbytes_any hw).mono ?_
  rintro e w1 ⟨a, c, rfl, h1, h2⟩
  obtain ⟨K', h3⟩ := H.list h2 h1
  exact ⟨a, c, K', rfl, h3⟩

end Go.Proofs.Ythlbmpmbbdaboab
