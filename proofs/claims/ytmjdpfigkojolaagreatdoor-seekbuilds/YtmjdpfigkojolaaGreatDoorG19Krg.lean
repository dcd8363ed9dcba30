import Derived.Test.YtmjdpfigkojolaaGreatDoorG18Ibs
import Derived.Test.YtmjdpfigkojolaaGreatDoorG17QHmt
namespace Go.Proofs.YtmjdpfigkojolaaGreatDoor
open Go.RowKit Go.Maps
set_option maxRecDepth 20000

def mk8 : List Int := List.replicate 8 (-77)

def Lent6 (w : World) (base g c : Nat) (l : List Int) : Prop := OI w base (.slice (some ⟨g, 0, none⟩) (l.length + 8) c) (l ++ mk8)

theorem Lent6.below {w w' : World} {base g c B : Nat} {l : List Int} (h : Lent6 w base g c l) (hb : Below B w w') (hB : w.heap.size ≤ B) : Lent6 w' base g c l := OI.below h hb hB

end Go.Proofs.YtmjdpfigkojolaaGreatDoor

namespace Go.Proofs.YtmjdpfigkojolaaGreatDoor
open Go.RowKit Go.Maps
set_option maxRecDepth 20000

def bnd (l : List Int) (hi : Int) (k : Nat) : Prop := ∀ i, i < k → 0 ≤ l.getD i 0 ∧ l.getD i 0 ≤ hi

def cs (f n : List Int) : Nat → Int
  | 0 => 0
  | k + 1 => cs f n k + f.getD k 0 * n.getD k 0

end Go.Proofs.YtmjdpfigkojolaaGreatDoor

namespace Go.Proofs.YtmjdpfigkojolaaGreatDoor
open Go.RowKit Go.Maps
set_option maxRecDepth 20000
set_option linter.unusedVariables false

def usk (l : List Int) (k : Nat) : List Nat := (List.range k).filter fun s => decide (0 < l.getD s 0)
def us6 (l : List Int) : List Nat := usk l l.length

theorem mem_us {l : List Int} {s : Nat} : s ∈ us6 l ↔ s < l.length ∧ 0 < l.getD s 0 := by
  unfold us6 usk
  simp [List.mem_filter]

end Go.Proofs.YtmjdpfigkojolaaGreatDoor

namespace Go.Proofs.YtmjdpfigkojolaaGreatDoor
open Go.RowKit Go.Maps
set_option maxRecDepth 20000
set_option linter.unusedVariables false

def Hz (R : List (H4.It Int)) (Z : List Znd) : Prop := R.map (fun x => (x.key, x.val)) = Z.map fun z => ((z.1.1 : Int), (z.2 : Int))

theorem Hz.len {R : List (H4.It Int)} {Z : List Znd} (h : Hz R Z) : R.length = Z.length := by
  have := congrArg List.length h
  simpa using this

theorem Hz.at {R : List (H4.It Int)} {Z : List Znd} (h : Hz R Z) {i : Nat} (hi : i < Z.length) : (H4.pt R i).key = ((Z.getD i (nod0, 0)).1.1 : Int) ∧ (H4.pt R i).val = ((Z.getD i (nod0, 0)).2 : Int) := by
  have hr : i < R.length := by rw [h.len]; exact hi
  have e := congrArg (fun l => l[i]?) h
  simp only [List.getElem?_map, List.getElem?_eq_getElem hr, List.getElem?_eq_getElem hi, Option.map_some, Option.some.injEq, Prod.mk.injEq] at e
  rw [H4.pt_eq hr, show Z.getD i (nod0, 0) = Z[i] by simp [hi]]
  exact e

theorem Hz.push {R : List (H4.It Int)} {Z : List Znd} (h : Hz R Z) (n : Int) (x : Nod) (j : Nat) : Hz (R ++ [⟨x.1, n, j⟩]) (Z ++ [(x, j)]) := by
  unfold Hz at h ⊢
  rw [List.map_append, List.map_append, h]
  rfl

def hls (N : Nat) (H : Nat → Nat) : List Int := (List.range N).map fun v => (H v : Int)

end Go.Proofs.YtmjdpfigkojolaaGreatDoor

namespace Go.Proofs.YtmjdpfigkojolaaGreatDoor
open Go.RowKit Go.Maps
set_option maxRecDepth 20000
set_option linter.unusedVariables false

end Go.Proofs.YtmjdpfigkojolaaGreatDoor

namespace Go.Proofs.YtmjdpfigkojolaaGreatDoor
open Go.RowKit Go.Maps
set_option maxRecDepth 20000
set_option linter.unusedVariables false

def dn (H : Nat → Nat) (r : Nat) : Nat → List Int
  | 0 => List.replicate (r + 1) 0
  | j + 1 => (dn H r j).set (r - 1 - j) ((dn H r j).getD (H (r - 1 - j)) 0 + 1)

end Go.Proofs.YtmjdpfigkojolaaGreatDoor

namespace Go.Proofs.YtmjdpfigkojolaaGreatDoor
open Go.RowKit Go.Maps
set_option maxRecDepth 20000
set_option linter.unusedVariables false

def fq (l : List Int) (s : Nat) : Nat := (l.getD s 0).toNat

def dp (l : List Int) (s : Nat) : Nat := if (us6 l).length = 1 then (if s ∈ us6 l then 1 else 0) else hrun ((us6 l).length - 1) (leafs (fq l) (us6 l)) (fun _ => 0) s

end Go.Proofs.YtmjdpfigkojolaaGreatDoor

namespace Go.Proofs.YtmjdpfigkojolaaGreatDoor
open Go.RowKit Go.Maps
set_option maxRecDepth 20000
set_option linter.unusedVariables false

def nn (n : List Int) (s : Nat) : Nat := (n.getD s 0).toNat

def kS (f n : List Int) (k : Nat) : Nat := kr (nn n) (usk f k)

def LenOk (f n : List Int) (lim : Int) (k : Nat) : Prop := ∀ s ∈ usk f k, 1 ≤ n.getD s 0 ∧ n.getD s 0 ≤ lim ∧ n.getD s 0 ≤ 60

end Go.Proofs.YtmjdpfigkojolaaGreatDoor

namespace Go.Proofs.YtmjdpfigkojolaaGreatDoor
open Go.RowKit Go.Maps
set_option maxRecDepth 20000
set_option linter.unusedVariables false

end Go.Proofs.YtmjdpfigkojolaaGreatDoor

