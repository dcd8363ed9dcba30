import Derived.Test.YtdpoggapenjjfaaGreatDoorG18Usd
import Derived.Test.YtdpoggapenjjfaaGreatDoorG17QRng
namespace Go.Proofs.YtdpoggapenjjfaaGreatDoor
open Go.RowKit Go.Maps
set_option maxRecDepth 20000
set_option linter.unusedVariables false

abbrev Only := H4.Only

structure Srow (w0 w : World) (B c : Nat) (X : List Int) : Prop where
  own : OI w 0 (.slice (some ⟨B, 0, none⟩) X.length c) X
  only : Only w0 w B

theorem Srow.refl {w : World} {B c : Nat} {X : List Int} (h : OI w 0 (.slice (some ⟨B, 0, none⟩) X.length c) X) : Srow w w B c X := ⟨h, H4.Only.refl _ _⟩

theorem Srow.drewN {w0 w : World} {B c : Nat} {X : List Int} (h : Srow w0 w B c X) (n : Nat) : Srow w0 (w.drewN n) B c X := ⟨h.own.move fun _ _ => rfl, h.only.drewN n⟩
theorem Srow.drew {w0 w : World} {B c : Nat} {X : List Int} (h : Srow w0 w B c X) : Srow w0 w.drew B c X := ⟨h.own.move fun _ _ => rfl, h.only.drew⟩

theorem Srow.trans {w0 w1 w2 : World} {B c : Nat} {X Y : List Int} (h : Srow w0 w1 B c X) (k : Srow w1 w2 B c Y) : Srow w0 w2 B c Y := ⟨k.own, h.only.trans k.only⟩

def swp (X : List Int) (i j : Nat) : List Int := (X.set i (X.getD j 0)).set j (X.getD i 0)

def Lx (f : Int → Int) (x y : Int) : Prop := f x < f y ∨ f x = f y ∧ x < y

theorem Lx.trans {f : Int → Int} {x y z : Int} (h : Lx f x y) (k : Lx f y z) : Lx f x z := by unfold Lx at *; omega
theorem Lx.asymm {f : Int → Int} {x y : Int} (h : Lx f x y) : ¬ Lx f y x := by unfold Lx at *; omega
end Go.Proofs.YtdpoggapenjjfaaGreatDoor

namespace Go.Proofs.YtdpoggapenjjfaaGreatDoor
open Go.RowKit Go.Maps
set_option maxRecDepth 20000
set_option linter.unusedVariables false

end Go.Proofs.YtdpoggapenjjfaaGreatDoor

namespace Go.Proofs.YtdpoggapenjjfaaGreatDoor
open Go.RowKit Go.Maps
set_option maxRecDepth 20000
set_option linter.unusedVariables false

end Go.Proofs.YtdpoggapenjjfaaGreatDoor

namespace Go.Proofs.YtdpoggapenjjfaaGreatDoor
open Go.RowKit Go.Maps
set_option maxRecDepth 20000
set_option linter.unusedVariables false

end Go.Proofs.YtdpoggapenjjfaaGreatDoor

namespace Go.Proofs.YtdpoggapenjjfaaGreatDoor
open Go.RowKit Go.Maps
set_option maxRecDepth 20000
set_option linter.unusedVariables false

end Go.Proofs.YtdpoggapenjjfaaGreatDoor

namespace Go.Proofs.YtdpoggapenjjfaaGreatDoor
open Go.RowKit Go.Maps
set_option maxRecDepth 20000
set_option linter.unusedVariables false

end Go.Proofs.YtdpoggapenjjfaaGreatDoor

namespace Go.Proofs.YtdpoggapenjjfaaGreatDoor
open Go.RowKit Go.Maps
set_option maxRecDepth 20000
set_option linter.unusedVariables false

end Go.Proofs.YtdpoggapenjjfaaGreatDoor

