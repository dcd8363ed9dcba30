import Derived.Test.YtpmgnpfpnkmmbaaGreatDoorG27QHops
import Derived.Test.YtpmgnpfpnkmmbaaGreatDoorG02Rnw
import Derived.Test.YtpmgnpfpnkmmbaaGreatDoorG01Arr
import Derived.WalkKit
import Derived.ProofKit
import Derived.OpenShut
import Derived.ShutString
import Derived.ChangeOld
import Derived.Below
import Derived.WalkLawsBesides
import Derived.WalkSpells
import Derived.Deep.QuietTactic
import Derived.BigQuiet
import Derived.Laws.CopyOwn
import Derived.SizedLaws
import Derived.Maps.Own
import Derived.Laws.BytesArg
import Derived.Laws.BitsLemmas
import Derived.Maps.AppendAt
import Derived.Deep.AppendSrc
import Derived.Deep.AppendLies
import Derived.Deep.RegionLaw
import Derived.Handy
import Derived.Laws.Rows
import Derived.Laws.Tables
import Derived.BigRegion
namespace Go.Proofs.YtpmgnpfpnkmmbaaGreatDoor.H4
open Go.RowKit Go.Maps
set_option maxRecDepth 20000

theorem row_move {w w' : World} {base : Nat} {e : TypeId} {size : Nat} {v : Value} {n : Nat} {xs : List Value} (h : w.ownsRow base e size v n xs) (hb : ∀ k, v.ownBlock = some k → w'.heap[k]? = w.heap[k]?) : w'.ownsRow base e size v n xs := by
  refine ⟨h.1, ?_⟩
  rcases h.2 with h2 | ⟨g, cap, cur, rfl, h1, h2, r⟩
  · exact .inl h2
  · exact .inr ⟨g, cap, cur, rfl, h1, (hb g rfl).trans h2, r⟩

theorem row_shape {w : World} {base : Nat} {e : TypeId} {size : Nat} {v : Value} {n : Nat} {xs : List Value} (h : w.ownsRow base e size v n xs) : ∃ a c, v = .slice a n c := by
  rcases h.2 with ⟨rfl, rfl⟩ | ⟨g, cap, cur, rfl, _⟩
  · exact ⟨none, 0, rfl⟩
  · exact ⟨_, _, rfl⟩

theorem row_lt {w : World} {base : Nat} {e : TypeId} {size : Nat} {v : Value} {n : Nat} {xs : List Value} (h : w.ownsRow base e size v n xs) : ∀ k, v.ownBlock = some k → k < w.heap.size := fun k hk => (World.ownsRow.lt h k hk).2

theorem heap_lt {w : World} {g : Nat} {o : Obj} (h : w.heap[g]? = some o) : g < w.heap.size := (Array.getElem?_eq_some_iff.1 h).1

end Go.Proofs.YtpmgnpfpnkmmbaaGreatDoor.H4

namespace Go.Proofs.YtpmgnpfpnkmmbaaGreatDoor.H4
open Go.RowKit Go.Maps
set_option maxRecDepth 20000

theorem rest_len {R : List (It Int)} (h : R ≠ []) : (rest R).length + 1 = R.length := by
  have hp : 0 < R.length := List.length_pos_iff.2 h
  have := fstTo_lt R R.length hp
  unfold rest
  rw [List.length_eraseIdx, if_pos this]
  omega

theorem rest_nil : rest [] = [] := rfl

end Go.Proofs.YtpmgnpfpnkmmbaaGreatDoor.H4

namespace Go.Proofs.YtpmgnpfpnkmmbaaGreatDoor
open Go.RowKit Go.Maps
set_option maxRecDepth 20000
end Go.Proofs.YtpmgnpfpnkmmbaaGreatDoor

namespace Go.Proofs.YtpmgnpfpnkmmbaaGreatDoor
open Go.RowKit Go.Maps
set_option maxRecDepth 20000

theorem take_snoc6 {l : List Int} {k : Nat} (h : k < l.length) : l.take (k + 1) = l.take k ++ [l.getD k 0] := by
  rw [List.take_succ_eq_append_getElem h]
  simp [h]

/-- One more behind an owned row. -/
theorem grow_one {w wr w3 : World} {u v3 : Value} {D : List Int} {o : Obj} (hB : Below w.heap.size w wr) (hO : OI wr w.heap.size u D) (hg : Grew (wr.alloc o) w3 u v3) : Below w.heap.size w w3 :=
  (hB.alloc hB.size _).grown hg.by (by have := hB.size; simp; omega) (fun j hj => by have := hO.lt j hj; omega)

def mk8 : List Int := List.replicate 8 (-77)

/-- A list with eight marks behind it. -/
def Lent6 (w : World) (base g c : Nat) (l : List Int) : Prop := OI w base (.slice (some ⟨g, 0, none⟩) (l.length + 8) c) (l ++ mk8)

theorem length_l8 (l : List Int) : (l ++ mk8).length = l.length + 8 := by rw [List.length_append]; rfl

theorem Lent6.cap {w : World} {base g c : Nat} {l : List Int} (h : Lent6 w base g c l) : l.length + 8 ≤ c ∧ c ≤ 9223372036854775807 := by
  obtain ⟨g', c', hv, h1, h2, h3, h4⟩ := OI.form h (by rw [length_l8]; omega)
  simp only [Value.slice.injEq] at hv
  obtain ⟨-, -, rfl⟩ := hv
  rw [length_l8] at h3
  exact ⟨h3, h4⟩

theorem Lent6.si {w : World} {base g c : Nat} {l : List Int} (h : Lent6 w base g c l) : SI w (.slice (some ⟨g, 0, none⟩) l.length c) l := OI.front (r := mk8) (by rw [length_l8]; exact h)

theorem Lent6.below {w w' : World} {base g c B : Nat} {l : List Int} (h : Lent6 w base g c l) (hb : Below B w w') (hB : w.heap.size ≤ B) : Lent6 w' base g c l := OI.below h hb hB

theorem rep_snoc (l : List Int) (k : Nat) : l ++ List.replicate (k + 1) (-77 : Int) = (l ++ List.replicate k (-77)) ++ [-77] := by
  rw [List.replicate_succ', List.append_assoc]

end Go.Proofs.YtpmgnpfpnkmmbaaGreatDoor

