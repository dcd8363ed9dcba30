import Derived.Test.YtmjdpfigkojolaaGreatDoorG19Krg
import Derived.Test.YtmjdpfigkojolaaGreatDoorG18Ibs
namespace Go.Proofs.YtmjdpfigkojolaaGreatDoor
open Go.RowKit Go.Maps
set_option maxRecDepth 20000
set_option linter.unusedVariables false

structure Gd (f n : List Int) (lim : Int) : Prop where
  len : n.length = f.length
  zero : ∀ s, s < f.length → f.getD s 0 = 0 → n.getD s 0 = 0
  ok : LenOk f n lim f.length
  one : (us6 f).length = 1 → ∀ s ∈ us6 f, n.getD s 0 = 1
  all : 2 ≤ (us6 f).length → kr (nn n) (us6 f) = 2 ^ 60

structure Sound (f : List Int) : Prop where
  len : f.length ≤ 288
  ok : bnd f 4294967296 f.length

theorem Sound.nn {f : List Int} (h : Sound f) (i : Nat) : 0 ≤ f.getD i 0 := by
  by_cases c : i < f.length
  · exact (h.ok i c).1
  · rw [List.getD_eq_getElem?_getD, List.getElem?_eq_none (by omega)]; exact Int.le_refl _

theorem Gd.at {f n : List Int} {lim : Int} (h : Gd f n lim) (hs : Sound f) (i : Nat) : 0 ≤ n.getD i 0 ∧ n.getD i 0 ≤ 60 := by
  by_cases c : i < f.length
  · by_cases z : f.getD i 0 = 0
    · rw [h.zero i c z]; omega
    · have := h.ok i (mem_us.2 ⟨c, by have := hs.nn i; omega⟩)
      omega
  · rw [List.getD_eq_getElem?_getD, List.getElem?_eq_none (by rw [h.len]; omega)]
    exact ⟨Int.le_refl _, by decide⟩

end Go.Proofs.YtmjdpfigkojolaaGreatDoor

namespace Go.Proofs.YtmjdpfigkojolaaGreatDoor
open Go.RowKit Go.Maps
set_option maxRecDepth 20000
set_option linter.unusedVariables false

abbrev Only := H4.Only

structure Srow (w0 w : World) (B c : Nat) (X : List Int) : Prop where
  own : OI w 0 (.slice (some ⟨B, 0, none⟩) X.length c) X
  only : Only w0 w B

theorem Srow.refl {w : World} {B c : Nat} {X : List Int} (h : OI w 0 (.slice (some ⟨B, 0, none⟩) X.length c) X) : Srow w w B c X := ⟨h, H4.Only.refl _ _⟩

theorem Srow.drewN {w0 w : World} {B c : Nat} {X : List Int} (h : Srow w0 w B c X) (n : Nat) : Srow w0 (w.drewN n) B c X := ⟨h.own.move fun _ _ => rfl, h.only.drewN n⟩
theorem Srow.drew {w0 w : World} {B c : Nat} {X : List Int} (h : Srow w0 w B c X) : Srow w0 w.drew B c X := ⟨h.own.move fun _ _ => rfl, h.only.drew⟩

theorem Srow.trans {w0 w1 w2 : World} {B c : Nat} {X Y : List Int} (h : Srow w0 w1 B c X) (k : Srow w1 w2 B c Y) : Srow w0 w2 B c Y := ⟨k.own, h.only.trans k.only⟩

def swp (X : List Int) (i j : Nat) : List Int := (X.set i (X.getD j 0)).set j (X.getD i 0)

def Lx (f : Int → Int) (x y : Int) : Prop := f x < f y ∨ f x = f y ∧ x < y

theorem Lx.trans {f : Int → Int} {x y z : Int} (h : Lx f x y) (k : Lx f y z) : Lx f x z := by unfold Lx at *; omega
theorem Lx.asymm {f : Int → Int} {x y : Int} (h : Lx f x y) : ¬ Lx f y x := by unfold Lx at *; omega
end Go.Proofs.YtmjdpfigkojolaaGreatDoor

namespace Go.Proofs.YtmjdpfigkojolaaGreatDoor
open Go.RowKit Go.Maps
set_option maxRecDepth 20000
set_option linter.unusedVariables false

end Go.Proofs.YtmjdpfigkojolaaGreatDoor

namespace Go.Proofs.YtmjdpfigkojolaaGreatDoor
open Go.RowKit Go.Maps
set_option maxRecDepth 20000
set_option linter.unusedVariables false

end Go.Proofs.YtmjdpfigkojolaaGreatDoor

namespace Go.Proofs.YtmjdpfigkojolaaGreatDoor
open Go.RowKit Go.Maps
set_option maxRecDepth 20000
set_option linter.unusedVariables false

end Go.Proofs.YtmjdpfigkojolaaGreatDoor

namespace Go.Proofs.YtmjdpfigkojolaaGreatDoor
open Go.RowKit Go.Maps
set_option maxRecDepth 20000
set_option linter.unusedVariables false

end Go.Proofs.YtmjdpfigkojolaaGreatDoor

namespace Go.Proofs.YtmjdpfigkojolaaGreatDoor
open Go.RowKit Go.Maps
set_option maxRecDepth 20000
set_option linter.unusedVariables false

end Go.Proofs.YtmjdpfigkojolaaGreatDoor

namespace Go.Proofs.YtmjdpfigkojolaaGreatDoor
open Go.RowKit Go.Maps
set_option maxRecDepth 20000
set_option linter.unusedVariables false

end Go.Proofs.YtmjdpfigkojolaaGreatDoor

