import Derived.Test.YtfoglaajnlbnbaaGreatDoorG06QHx
import Derived.Test.YtfoglaajnlbnbaaGreatDoorG08Usd
namespace Go.Proofs.YtfoglaajnlbnbaaGreatDoor
open Go.RowKit Go.Maps
set_option maxRecDepth 20000
set_option linter.unusedVariables false

def Hz (R : List (H4.It Int)) (Z : List Znd) : Prop := R.map (fun x => (x.key, x.val)) = Z.map fun z => ((z.1.1 : Int), (z.2 : Int))

theorem Hz.len {R : List (H4.It Int)} {Z : List Znd} (h : Hz R Z) : R.length = Z.length := by
  have := congrArg List.length h
  simpa using this

def hls (N : Nat) (H : Nat → Nat) : List Int := (List.range N).map fun v => (H v : Int)

theorem hls_len (N : Nat) (H : Nat → Nat) : (hls N H).length = N := by simp [hls]

theorem hls_zero (N : Nat) : hls N (fun _ => 0) = List.replicate N 0 := by simp [hls, List.map_const']

end Go.Proofs.YtfoglaajnlbnbaaGreatDoor

namespace Go.Proofs.YtfoglaajnlbnbaaGreatDoor
open Go.RowKit Go.Maps
set_option maxRecDepth 20000
set_option linter.unusedVariables false

end Go.Proofs.YtfoglaajnlbnbaaGreatDoor

namespace Go.Proofs.YtfoglaajnlbnbaaGreatDoor
open Go.RowKit Go.Maps
set_option maxRecDepth 20000
set_option linter.unusedVariables false

def dn (H : Nat → Nat) (r : Nat) : Nat → List Int
  | 0 => List.replicate (r + 1) 0
  | j + 1 => (dn H r j).set (r - 1 - j) ((dn H r j).getD (H (r - 1 - j)) 0 + 1)

end Go.Proofs.YtfoglaajnlbnbaaGreatDoor

namespace Go.Proofs.YtfoglaajnlbnbaaGreatDoor
open Go.RowKit Go.Maps
set_option maxRecDepth 20000
set_option linter.unusedVariables false

def fq (l : List Int) (s : Nat) : Nat := (l.getD s 0).toNat

def dp (l : List Int) (s : Nat) : Nat := if (us6 l).length = 1 then (if s ∈ us6 l then 1 else 0) else hrun ((us6 l).length - 1) (leafs (fq l) (us6 l)) (fun _ => 0) s

theorem fq_le {l : List Int} (h : bnd l 4294967296 l.length) {s : Nat} (hs : s ∈ us6 l) : 1 ≤ fq l s ∧ fq l s ≤ 4294967296 := by
  obtain ⟨h1, h2⟩ := mem_us.1 hs
  have := h s h1
  unfold fq
  omega

theorem us_le6 {l : List Int} : (us6 l).length ≤ l.length := usk_len l l.length

end Go.Proofs.YtfoglaajnlbnbaaGreatDoor

namespace Go.Proofs.YtfoglaajnlbnbaaGreatDoor
open Go.RowKit Go.Maps
set_option maxRecDepth 20000
set_option linter.unusedVariables false

def nn (n : List Int) (s : Nat) : Nat := (n.getD s 0).toNat

def LenOk (f n : List Int) (lim : Int) (k : Nat) : Prop := ∀ s ∈ usk f k, 1 ≤ n.getD s 0 ∧ n.getD s 0 ≤ lim ∧ n.getD s 0 ≤ 60

end Go.Proofs.YtfoglaajnlbnbaaGreatDoor

namespace Go.Proofs.YtfoglaajnlbnbaaGreatDoor
open Go.RowKit Go.Maps
set_option maxRecDepth 20000
set_option linter.unusedVariables false

end Go.Proofs.YtfoglaajnlbnbaaGreatDoor

