import Derived.Test.YtmjdpfigkojolaaGreatDoorG17QHmt
import Derived.BigRegion
import Derived.Test.YtmjdpfigkojolaaGreatDoorG14QRng
import Derived.Test.YtmjdpfigkojolaaGreatDoorG00Oix
import Derived.WalkKit
import Derived.ProofKit
import Derived.OpenShut
import Derived.ShutString
import Derived.ChangeOld
import Derived.Below
import Derived.WalkLawsBesides
import Derived.WalkSpells
import Derived.Deep.QuietTactic
import Derived.BigQuiet
import Derived.Laws.CopyOwn
import Derived.SizedLaws
import Derived.Maps.Own
import Derived.Laws.BytesArg
import Derived.Laws.BitsLemmas
import Derived.Maps.AppendAt
import Derived.Deep.AppendSrc
import Derived.Deep.AppendLies
import Derived.Deep.RegionLaw
import Derived.Handy
import Derived.Laws.Rows
import Derived.Laws.Tables
namespace Go.Proofs.YtmjdpfigkojolaaGreatDoor.H4
open Go.RowKit Go.Maps
set_option maxRecDepth 20000

end Go.Proofs.YtmjdpfigkojolaaGreatDoor.H4

namespace Go.Proofs.YtmjdpfigkojolaaGreatDoor.H4
open Go.RowKit Go.Maps
set_option maxRecDepth 20000

structure Only (w w' : World) (b : Nat) : Prop where
  os : w'.os = w.os
  tape : w'.tape = w.tape
  output : w'.output = w.output
  size : w'.heap.size = w.heap.size
  block : ∀ k, k ≠ b → w'.heap[k]? = w.heap[k]?

theorem Only.refl (w : World) (b : Nat) : Only w w b := ⟨rfl, rfl, rfl, rfl, fun _ _ => rfl⟩
theorem Only.trans {a b c : World} {k : Nat} (h : Only a b k) (h' : Only b c k) : Only a c k := ⟨h'.os.trans h.os, h'.tape.trans h.tape, h'.output.trans h.output, h'.size.trans h.size, fun i hi => (h'.block i hi).trans (h.block i hi)⟩
theorem Only.drewN {a b : World} {k : Nat} (h : Only a b k) (n : Nat) : Only a (b.drewN n) k := ⟨h.os, h.tape, h.output, h.size, h.block⟩
theorem Only.drew {a b : World} {k : Nat} (h : Only a b k) : Only a b.drew k := ⟨h.os, h.tape, h.output, h.size, h.block⟩
theorem Only.set {a b : World} {k : Nat} (h : Only a b k) (o : Nat) (u : Value) : Only a (b.setCell ⟨k, o, none⟩ u) k :=
  ⟨h.os, h.tape, h.output, (size_setCell _ _ _).trans h.size, fun i hi => (setCell_others _ _ _ _ i hi).trans (h.block i hi)⟩

theorem heap_setCell_at {w : World} {g k : Nat} {cur : Array Value} {t : TypeId} (u : Value) (h : w.heap[g]? = some (.cells cur t (0, 0))) : (w.setCell ⟨g, k, none⟩ u).heap[g]? = some (.cells (cur.setIfInBounds k u) t (0, 0)) := by
  simp [World.setCell, Array.getElem?_modify, h]

end Go.Proofs.YtmjdpfigkojolaaGreatDoor.H4

namespace Go.Proofs.YtmjdpfigkojolaaGreatDoor.H4
open Go.RowKit Go.Maps
set_option maxRecDepth 20000

end Go.Proofs.YtmjdpfigkojolaaGreatDoor.H4

namespace Go.Proofs.YtmjdpfigkojolaaGreatDoor.H4
open Go.RowKit Go.Maps
set_option maxRecDepth 20000

structure Kid (ys : List (It Int)) (a c f : Nat) : Prop where
  lo : 2 * a + 1 ≤ c
  hi : c ≤ 2 * a + 3
  lt : f < ys.length
  is : f = a ∨ 0 < f ∧ (f - 1) / 2 = a ∧ Lt (pt ys f) (pt ys a)
  least : ∀ i, 0 < i → i < ys.length → (i - 1) / 2 = a → i < c → ¬ Lt (pt ys i) (pt ys f)

theorem Kid.take {ys : List (It Int)} {a c f : Nat} (h : Kid ys a c f) (hc : c < ys.length) (hh : c ≤ 2 * a + 2) (hl : Lt (pt ys c) (pt ys f)) : Kid ys a (c + 1) c := by
  have hlo := h.lo
  refine ⟨by omega, by omega, hc, .inr ⟨by omega, by omega, ?_⟩, fun i h0 h1 h2 h3 => ?_⟩
  · rcases h.is with rfl | ⟨_, _, h4⟩
    · exact hl
    · unfold Lt at *; omega
  · by_cases e : i = c
    · subst e; exact fun q => q.asymm q
    · exact Lt.ntrans (h.least i h0 h1 h2 (by omega)) hl.asymm

end Go.Proofs.YtmjdpfigkojolaaGreatDoor.H4

namespace Go.Proofs.YtmjdpfigkojolaaGreatDoor.H4
open Go.RowKit Go.Maps
set_option maxRecDepth 20000

structure Only2 (w w' : World) (g b : Nat) : Prop where
  os : w'.os = w.os
  tape : w'.tape = w.tape
  output : w'.output = w.output
  size : w'.heap.size = w.heap.size
  block : ∀ k, k ≠ b → k ≠ g → w'.heap[k]? = w.heap[k]?

theorem Only2.of {w w' : World} {g b : Nat} (h : Only w w' b) : Only2 w w' g b := ⟨h.os, h.tape, h.output, h.size, fun k hk _ => h.block k hk⟩
theorem Only2.then {w w' w'' : World} {g b : Nat} (h : Only2 w w' g b) (k : Only w' w'' b) : Only2 w w'' g b := ⟨k.os.trans h.os, k.tape.trans h.tape, k.output.trans h.output, k.size.trans h.size, fun i hi hg => (k.block i hi).trans (h.block i hi hg)⟩
theorem Only2.set {a w : World} {g b : Nat} (h : Only2 a w g b) (o : Nat) (u : Value) : Only2 a (w.setCell ⟨g, o, none⟩ u) g b :=
  ⟨h.os, h.tape, h.output, (size_setCell _ _ _).trans h.size, fun i hi hg => (setCell_others _ _ _ _ i hg).trans (h.block i hi hg)⟩

end Go.Proofs.YtmjdpfigkojolaaGreatDoor.H4

namespace Go.Proofs.YtmjdpfigkojolaaGreatDoor.H4
open Go.RowKit Go.Maps
set_option maxRecDepth 20000

structure Fr (K K' : Nat → Nat) (w w' : World) : Prop where
  os : w'.os = w.os
  tape : w'.tape = w.tape
  output : w'.output = w.output
  size : w.heap.size ≤ w'.heap.size
  block : ∀ k, k < w.heap.size → K k = 0 → w'.heap[k]? = w.heap[k]?
  role : ∀ k, k < w.heap.size → K' k = K k

theorem Fr.refl (K : Nat → Nat) (w : World) : Fr K K w w := ⟨rfl, rfl, rfl, Nat.le_refl _, fun _ _ _ => rfl, fun _ _ => rfl⟩

theorem Fr.trans {K K' K'' : Nat → Nat} {a b c : World} (h : Fr K K' a b) (k : Fr K' K'' b c) : Fr K K'' a c :=
  ⟨k.os.trans h.os, k.tape.trans h.tape, k.output.trans h.output, Nat.le_trans h.size k.size,
   fun i hi h0 => (k.block i (Nat.lt_of_lt_of_le hi h.size) (by rw [h.role i hi]; exact h0)).trans (h.block i hi h0),
   fun i hi => (k.role i (Nat.lt_of_lt_of_le hi h.size)).trans (h.role i hi)⟩

theorem Fr.below {K K' : Nat → Nat} {w w' : World} {B : Nat} (h : Fr K K' w w') (hu : ∀ k, K k ≠ 0 → B ≤ k) (hB : B ≤ w.heap.size) : Below B w w' :=
  ⟨h.os, h.tape, h.output, h.size, fun k hk => h.block k (by omega) (by
    by_cases hz : K k = 0
    · exact hz
    · have := hu k hz; omega)⟩

theorem Fr.up {K K' : Nat → Nat} {w w' : World} {B : Nat} (h : Fr K K' w w') (hu : ∀ k, K k ≠ 0 → B ≤ k) (hB : B ≤ w.heap.size) : ∀ k, K' k ≠ 0 → B ≤ k := by
  intro k hk
  by_cases hl : k < w.heap.size
  · exact hu k (by rw [← h.role k hl]; exact hk)
  · omega

theorem Fr.drewN {K K' : Nat → Nat} {w w' : World} (h : Fr K K' w w') (n : Nat) : Fr K K' w (w'.drewN n) := ⟨h.os, h.tape, h.output, h.size, h.block, h.role⟩

def pkK (R : List (It Int)) : Int := if R = [] then 0 else (pt R (fstTo R R.length)).key
def pkV (R : List (It Int)) : Int := if R = [] then 0 else (pt R (fstTo R R.length)).val
def pkB (R : List (It Int)) : Bool := decide (R ≠ [])
def rest (R : List (It Int)) : List (It Int) := R.eraseIdx (fstTo R R.length)

end Go.Proofs.YtmjdpfigkojolaaGreatDoor.H4

namespace Go.Proofs.YtmjdpfigkojolaaGreatDoor.H4
open Go.RowKit Go.Maps
set_option maxRecDepth 20000

theorem row_lt {w : World} {base : Nat} {e : TypeId} {size : Nat} {v : Value} {n : Nat} {xs : List Value} (h : w.ownsRow base e size v n xs) : ∀ k, v.ownBlock = some k → k < w.heap.size := fun k hk => (World.ownsRow.lt h k hk).2

end Go.Proofs.YtmjdpfigkojolaaGreatDoor.H4

namespace Go.Proofs.YtmjdpfigkojolaaGreatDoor.H4
open Go.RowKit Go.Maps
set_option maxRecDepth 20000

end Go.Proofs.YtmjdpfigkojolaaGreatDoor.H4

namespace Go.Proofs.YtmjdpfigkojolaaGreatDoor
open Go.RowKit Go.Maps
set_option maxRecDepth 20000
end Go.Proofs.YtmjdpfigkojolaaGreatDoor

