import Derived.Test.YtpbghgddeodabaaGRd
namespace Go.Proofs.Ytpbghgddeodabaa
open Go.RowKit Go.Maps
set_option maxRecDepth 20000

def takeOk (row : List Int) (p : Nat) (n : Int) : Prop := Cnt n ∧ n ≤ (row.length : Int) - p
instance (row : List Int) (p : Nat) (n : Int) : Decidable (takeOk row p n) := by unfold takeOk; exact inferInstance
def takeE (row : List Int) (p : Nat) (n : Int) : Int := if Cnt n then (if n ≤ (row.length : Int) - p then 0 else 30) else 1
def takeV (row : List Int) (p : Nat) (n : Int) : Int := if takeOk row p n then ahead row p n.toNat else 0
def takeP (row : List Int) (p : Nat) (n : Int) : Nat := if takeOk row p n then p + n.toNat else p

def peekV (row : List Int) (p : Nat) (n : Int) : Int := if Cnt n then ahead row p n.toNat else 0
def peekK (row : List Int) (p : Nat) (n : Int) : Int := if Cnt n then min n ((row.length : Int) - p) else 0

def skipE (row : List Int) (p : Nat) (n : Int) : Int := if n < 0 then 1 else if n ≤ (row.length : Int) - p then 0 else 30
def skipP (row : List Int) (p : Nat) (n : Int) : Nat := if n < 0 then p else if n ≤ (row.length : Int) - p then p + n.toNat else p

def algn (p : Nat) : Nat := (p + 7) / 8 * 8

def rrawE (row : List Int) (p : Nat) (n : Int) : Int := if n < 0 then 1 else if p % 8 ≠ 0 then 31 else if n ≤ ((row.length : Int) - p) / 8 then 0 else 30
noncomputable def rrawL (row : List Int) (p : Nat) (n : Int) : List Int := if rrawE row p n = 0 then pack ((row.drop p).take (8 * n.toNat)) else []
def rrawP (row : List Int) (p : Nat) (n : Int) : Nat := if rrawE row p n = 0 then p + 8 * n.toNat else p

end Go.Proofs.Ytpbghgddeodabaa

