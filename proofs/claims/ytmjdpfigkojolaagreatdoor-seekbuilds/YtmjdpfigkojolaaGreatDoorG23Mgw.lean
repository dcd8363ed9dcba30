import Derived.Test.YtmjdpfigkojolaaGreatDoorG20Sm3
import Derived.Test.YtmjdpfigkojolaaGreatDoorG21Sm4
import Derived.Test.YtmjdpfigkojolaaGreatDoorG22Sm5
import Derived.Test.YtmjdpfigkojolaaGreatDoorG14QRng
import Derived.Test.YtmjdpfigkojolaaGreatDoorG19Krg
import Derived.Test.YtmjdpfigkojolaaGreatDoorG17QHmt
namespace Go.Proofs.YtmjdpfigkojolaaGreatDoor
open Go.RowKit Go.Maps
set_option maxRecDepth 20000
set_option linter.unusedVariables false

end Go.Proofs.YtmjdpfigkojolaaGreatDoor

namespace Go.Proofs.YtmjdpfigkojolaaGreatDoor
open Go.RowKit Go.Maps
set_option maxRecDepth 20000
set_option linter.unusedVariables false

end Go.Proofs.YtmjdpfigkojolaaGreatDoor

namespace Go.Proofs.YtmjdpfigkojolaaGreatDoor
open Go.RowKit Go.Maps
set_option maxRecDepth 20000
set_option linter.unusedVariables false

def sg (X : List Int) (c d : Nat) : List Int := (X.drop c).take d

theorem sg_len (X : List Int) (c d : Nat) : (sg X c d).length = min d (X.length - c) := by simp [sg]

theorem sg_cut (X : List Int) (a d : Nat) : X = X.take a ++ (sg X a d ++ X.drop (a + d)) := by
  unfold sg
  rw [← List.drop_drop, List.take_append_drop, List.take_append_drop]

theorem sg_left {X A Y Z : List Int} {c d : Nat} (h : c + d ≤ A.length) : sg (A ++ (Y ++ Z)) c d = sg A c d := by
  unfold sg
  rw [List.drop_append_of_le_length (by omega), List.take_append_of_le_length (by rw [List.length_drop]; omega)]

theorem sg_right {A Y Z : List Int} {c d : Nat} (h : A.length + Y.length ≤ c) : sg (A ++ (Y ++ Z)) c d = sg Z (c - (A.length + Y.length)) d := by
  unfold sg
  have e : A ++ (Y ++ Z) = (A ++ Y) ++ Z := by simp
  rw [e, List.drop_append, List.drop_of_length_le (by simp; omega), List.nil_append, List.length_append]

end Go.Proofs.YtmjdpfigkojolaaGreatDoor

namespace Go.Proofs.YtmjdpfigkojolaaGreatDoor
open Go.RowKit Go.Maps
set_option maxRecDepth 20000
set_option linter.unusedVariables false

theorem sg_end {X : List Int} {c d : Nat} (h : X.length ≤ c) : sg X c d = [] := by
  unfold sg
  rw [List.drop_of_length_le h]
  simp

structure Pce (X T Y : List Int) (a d : Nat) : Prop where
  eq : T = X.take a ++ (Y ++ X.drop (a + d))
  len : Y.length = (sg X a d).length
  al : a ≤ X.length

theorem Pce.tl {X T Y : List Int} {a d : Nat} (h : Pce X T Y a d) : T.length = X.length := by
  rw [h.eq]
  have e := congrArg List.length (sg_cut X a d)
  simp only [List.length_append] at e ⊢
  rw [h.len]
  omega

theorem Pce.far {X T Y : List Int} {a d c e : Nat} (h : Pce X T Y a d) (hf : c + e ≤ a ∨ a + d ≤ c) : sg T c e = sg X c e := by
  have ha : (X.take a).length = a := by rw [List.length_take]; have := h.al; omega
  have hX := sg_cut X a d
  rcases hf with q | q
  · rw [h.eq]
    conv => rhs; rw [hX]
    rw [sg_left (X := X) (by omega), sg_left (X := X) (by omega)]
  · rw [h.eq]
    conv => rhs; rw [hX]
    by_cases z : X.length ≤ c
    · rw [sg_end (by rw [← h.eq, h.tl]; exact z), sg_end (by rw [← hX]; exact z)]
    · have hl : Y.length = d := by rw [h.len, sg_len]; omega
      have hl2 : (sg X a d).length = d := by rw [sg_len]; omega
      rw [sg_right (by omega), sg_right (by omega), hl, hl2]

end Go.Proofs.YtmjdpfigkojolaaGreatDoor

namespace Go.Proofs.YtmjdpfigkojolaaGreatDoor
open Go.RowKit Go.Maps
set_option maxRecDepth 20000
set_option linter.unusedVariables false

end Go.Proofs.YtmjdpfigkojolaaGreatDoor

namespace Go.Proofs.YtmjdpfigkojolaaGreatDoor
open Go.RowKit Go.Maps
set_option maxRecDepth 20000
set_option linter.unusedVariables false

end Go.Proofs.YtmjdpfigkojolaaGreatDoor

namespace Go.Proofs.YtmjdpfigkojolaaGreatDoor
open Go.RowKit Go.Maps
set_option maxRecDepth 20000
set_option linter.unusedVariables false

def srl (l : List Int) : List Nat := (us6 l).mergeSort fun s t => decide (l.getD s 0 < l.getD t 0 ∨ l.getD s 0 = l.getD t 0 ∧ s ≤ t)

def lws (l : List Int) : List Nat := (srl l).map (fq l)

def lm (l : List Int) (L s : Nat) : Nat := if (us6 l).length = 1 then (if s ∈ us6 l then 1 else 0) else if s ∈ us6 l then ct (sel (lws l) L (2 * (us6 l).length - 2)) ((srl l).idxOf s) else 0

end Go.Proofs.YtmjdpfigkojolaaGreatDoor

namespace Go.Proofs.YtmjdpfigkojolaaGreatDoor
open Go.RowKit Go.Maps
set_option maxRecDepth 20000
set_option linter.unusedVariables false

end Go.Proofs.YtmjdpfigkojolaaGreatDoor

namespace Go.Proofs.YtmjdpfigkojolaaGreatDoor
open Go.RowKit Go.Maps
set_option maxRecDepth 20000
set_option linter.unusedVariables false

end Go.Proofs.YtmjdpfigkojolaaGreatDoor

