import Derived.Test.YtdpoggapenjjfaaGreatDoorG17QRng
import Derived.Test.YtdpoggapenjjfaaGreatDoorG01Rw1
import Derived.WalkKit
import Derived.ProofKit
import Derived.OpenShut
import Derived.ShutString
import Derived.ChangeOld
import Derived.Below
import Derived.WalkLawsBesides
import Derived.WalkSpells
import Derived.Deep.QuietTactic
import Derived.BigQuiet
import Derived.Laws.CopyOwn
import Derived.SizedLaws
import Derived.Maps.Own
import Derived.Laws.BytesArg
import Derived.Laws.BitsLemmas
import Derived.Maps.AppendAt
import Derived.Deep.AppendSrc
import Derived.Deep.AppendLies
import Derived.Deep.RegionLaw
import Derived.Handy
import Derived.Laws.Rows
import Derived.Laws.Tables
import Derived.BigRegion
namespace Go.Proofs.YtdpoggapenjjfaaGreatDoor.H4
open Go.RowKit Go.Maps
set_option maxRecDepth 20000

structure Fr (K K' : Nat → Nat) (w w' : World) : Prop where
  os : w'.os = w.os
  tape : w'.tape = w.tape
  output : w'.output = w.output
  size : w.heap.size ≤ w'.heap.size
  block : ∀ k, k < w.heap.size → K k = 0 → w'.heap[k]? = w.heap[k]?
  role : ∀ k, k < w.heap.size → K' k = K k

theorem Fr.refl (K : Nat → Nat) (w : World) : Fr K K w w := ⟨rfl, rfl, rfl, Nat.le_refl _, fun _ _ _ => rfl, fun _ _ => rfl⟩

theorem Fr.trans {K K' K'' : Nat → Nat} {a b c : World} (h : Fr K K' a b) (k : Fr K' K'' b c) : Fr K K'' a c :=
  ⟨k.os.trans h.os, k.tape.trans h.tape, k.output.trans h.output, Nat.le_trans h.size k.size,
   fun i hi h0 => (k.block i (Nat.lt_of_lt_of_le hi h.size) (by rw [h.role i hi]; exact h0)).trans (h.block i hi h0),
   fun i hi => (k.role i (Nat.lt_of_lt_of_le hi h.size)).trans (h.role i hi)⟩

theorem Fr.below {K K' : Nat → Nat} {w w' : World} {B : Nat} (h : Fr K K' w w') (hu : ∀ k, K k ≠ 0 → B ≤ k) (hB : B ≤ w.heap.size) : Below B w w' :=
  ⟨h.os, h.tape, h.output, h.size, fun k hk => h.block k (by omega) (by
    by_cases hz : K k = 0
    · exact hz
    · have := hu k hz; omega)⟩

theorem Fr.up {K K' : Nat → Nat} {w w' : World} {B : Nat} (h : Fr K K' w w') (hu : ∀ k, K k ≠ 0 → B ≤ k) (hB : B ≤ w.heap.size) : ∀ k, K' k ≠ 0 → B ≤ k := by
  intro k hk
  by_cases hl : k < w.heap.size
  · exact hu k (by rw [← h.role k hl]; exact hk)
  · omega

theorem Fr.drewN {K K' : Nat → Nat} {w w' : World} (h : Fr K K' w w') (n : Nat) : Fr K K' w (w'.drewN n) := ⟨h.os, h.tape, h.output, h.size, h.block, h.role⟩

def pkK (R : List (It Int)) : Int := if R = [] then 0 else (pt R (fstTo R R.length)).key
def pkV (R : List (It Int)) : Int := if R = [] then 0 else (pt R (fstTo R R.length)).val
def pkB (R : List (It Int)) : Bool := decide (R ≠ [])
def rest (R : List (It Int)) : List (It Int) := R.eraseIdx (fstTo R R.length)

end Go.Proofs.YtdpoggapenjjfaaGreatDoor.H4

namespace Go.Proofs.YtdpoggapenjjfaaGreatDoor.H4
open Go.RowKit Go.Maps
set_option maxRecDepth 20000

theorem row_lt {w : World} {base : Nat} {e : TypeId} {size : Nat} {v : Value} {n : Nat} {xs : List Value} (h : w.ownsRow base e size v n xs) : ∀ k, v.ownBlock = some k → k < w.heap.size := fun k hk => (World.ownsRow.lt h k hk).2

end Go.Proofs.YtdpoggapenjjfaaGreatDoor.H4

namespace Go.Proofs.YtdpoggapenjjfaaGreatDoor.H4
open Go.RowKit Go.Maps
set_option maxRecDepth 20000

end Go.Proofs.YtdpoggapenjjfaaGreatDoor.H4

namespace Go.Proofs.YtdpoggapenjjfaaGreatDoor
open Go.RowKit Go.Maps
set_option maxRecDepth 20000
end Go.Proofs.YtdpoggapenjjfaaGreatDoor

namespace Go.Proofs.YtdpoggapenjjfaaGreatDoor
open Go.RowKit Go.Maps
set_option maxRecDepth 20000

def mk8 : List Int := List.replicate 8 (-77)

def Lent6 (w : World) (base g c : Nat) (l : List Int) : Prop := OI w base (.slice (some ⟨g, 0, none⟩) (l.length + 8) c) (l ++ mk8)

theorem Lent6.below {w w' : World} {base g c B : Nat} {l : List Int} (h : Lent6 w base g c l) (hb : Below B w w') (hB : w.heap.size ≤ B) : Lent6 w' base g c l := OI.below h hb hB

end Go.Proofs.YtdpoggapenjjfaaGreatDoor

namespace Go.Proofs.YtdpoggapenjjfaaGreatDoor
open Go.RowKit Go.Maps
set_option maxRecDepth 20000

def bnd (l : List Int) (hi : Int) (k : Nat) : Prop := ∀ i, i < k → 0 ≤ l.getD i 0 ∧ l.getD i 0 ≤ hi

def cs (f n : List Int) : Nat → Int
  | 0 => 0
  | k + 1 => cs f n k + f.getD k 0 * n.getD k 0

end Go.Proofs.YtdpoggapenjjfaaGreatDoor

namespace Go.Proofs.YtdpoggapenjjfaaGreatDoor
open Go.RowKit Go.Maps
set_option maxRecDepth 20000
set_option linter.unusedVariables false

def usk (l : List Int) (k : Nat) : List Nat := (List.range k).filter fun s => decide (0 < l.getD s 0)
def us6 (l : List Int) : List Nat := usk l l.length

theorem mem_us {l : List Int} {s : Nat} : s ∈ us6 l ↔ s < l.length ∧ 0 < l.getD s 0 := by
  unfold us6 usk
  simp [List.mem_filter]

end Go.Proofs.YtdpoggapenjjfaaGreatDoor

