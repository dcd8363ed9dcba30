import Derived.Test.YtfoglaajnlbnbaaGreatDoorG39Ifr
import Derived.Test.YtfoglaajnlbnbaaGreatDoorG04OpenA
import Derived.Test.YtfoglaajnlbnbaaGreatDoorG02Arr
import Derived.Test.YtfoglaajnlbnbaaGreatDoorG20Chk
import Derived.Lib.LaidTab
import Derived.Stop.LaidErr
import Derived.Test.YtfoglaajnlbnbaaGreatDoorG27Vd2
namespace Go.Proofs.YtfoglaajnlbnbaaGreatDoor
open Go.RowKit Go.Maps
set_option maxRecDepth 20000
set_option linter.unusedVariables false

def Exa (l : List Int) (size E : Int) (o : List Int) : Prop :=
  ∃ E0 n o0, Ifl l size E0 n o0 ∧ ((E0 ≠ 0 ∧ E = E0 ∧ o = []) ∨ (E0 = 0 ∧ (o0.length : Int) < size ∧ E = 87 ∧ o = []) ∨ (E0 = 0 ∧ ¬ (o0.length : Int) < size ∧ (n + 7) / 8 ≠ l.length ∧ E = 86 ∧ o = []) ∨ (E0 = 0 ∧ ¬ (o0.length : Int) < size ∧ (n + 7) / 8 = l.length ∧ E = 0 ∧ o = o0))

theorem Exa.det {l : List Int} {size E E' : Int} {o o' : List Int} (h : Exa l size E o) (h' : Exa l size E' o') : E = E' ∧ o = o' := by
  obtain ⟨E0, n, o0, hI, h⟩ := h
  obtain ⟨E1, n1, o1, hI1, h'⟩ := h'
  obtain ⟨rfl, rfl, rfl⟩ := hI.det hI1
  rcases h with ⟨a, rfl, rfl⟩ | ⟨a, b, rfl, rfl⟩ | ⟨a, b, c, rfl, rfl⟩ | ⟨a, b, c, rfl, rfl⟩ <;> rcases h' with ⟨a', rfl, rfl⟩ | ⟨a', b', rfl, rfl⟩ | ⟨a', b', c', rfl, rfl⟩ | ⟨a', b', c', rfl, rfl⟩ <;> first | exact ⟨rfl, rfl⟩ | exact absurd a a' | exact absurd a' a | exact absurd b b' | exact absurd b' b | exact absurd c c' | exact absurd c' c

def Eans (w : World) (l : List Int) (size : Int) (e : Ending) (w' : World) : Prop :=
  ∃ E o a c, Exa l size E o ∧ e = .returned (.tuple #[.slice a o.length c, .int .i64 E]) ∧ OB w' w.heap.size (.slice a o.length c) o ∧ Below w.heap.size w w'

theorem Eans.none {w w' : World} {l : List Int} {size E : Int} (h : Exa l size E []) (hb : Below w.heap.size w w') : Eans w l size (.returned (.tuple #[.slice none 0 0, .int .i64 E])) w' :=
  ⟨E, [], .none, 0, h, rfl, World.ownsRow_nil _ _ _ _, hb⟩

set_option maxHeartbeats 4000000 in
theorem hExact {w : World} {v : Value} {l : List Int} (h : SB w v l) (hB : Byt l) (size : Int) (T : Tab w) (O : Odr w) :
    Calls Tryz.prog 14 #[v, .int .i64 size] w (Eans w l size) := by
  have HI := hide (hInflate h hB size T O)
  have HS := hide h
  obtain ⟨a0, x0, rfl, -⟩ := h
  clear hB T O
  go_enter Tryz.func14, Tryz.ntmps14
  go_wp2_with fail
  refine HI.out.mono ?_
  rintro e w2 ⟨E, n, o, a, c, hI, rfl, ho, hb⟩
  have HB := hide hb
  have HOO := hide ho
  have HII := hide hI
  clear hb ho hI HI
  obtain ⟨M, HM⟩ : ∃ M : Nat, Hid (M = o.length) := ⟨_, rfl⟩
  obtain ⟨N, HN⟩ : ∃ N : Nat, Hid (N = l.length) := ⟨_, rfl⟩
  rw [← HM.out, ← HN.out]
  by_cases he : E = 0
  case neg =>
    have he' : (E != 0) = true := by simpa using he
    have HE := hide he
    clear he
    go_wp2
    go_ret2
    exact Eans.none ⟨E, n, o, HII.out, .inl ⟨HE.out, rfl, rfl⟩⟩ HB.out
  subst he
  by_cases hs : (M : Int) < size
  · go_wp2
    go_ret2
    exact Eans.none ⟨0, n, o, HII.out, .inr (.inl ⟨rfl, by rw [← HM.out]; exact hs, rfl, rfl⟩)⟩ HB.out
  obtain ⟨u1, u2, u3, u4, u5⟩ := HII.out.used
  rw [← HN.out] at u2 u4
  obtain ⟨s, HSZ⟩ : ∃ s : Nat, Hid (s = (n + 7) / 8) := ⟨_, rfl⟩
  have hq : ((n : Int) + 7).tdiv 8 = (s : Int) := by rw [Int.tdiv_eq_ediv_of_nonneg (by omega), HSZ.out]; omega
  have hsN : s ≤ N := by rw [HSZ.out]; omega
  have hn28 : n ≤ 268435456 := by omega
  clear u1 u2 u3 u5
  by_cases hr : (s : Int) < (N : Int)
  · go_wp2
    go_ret2
    exact Eans.none ⟨0, n, o, HII.out, .inr (.inr (.inl ⟨rfl, by rw [← HM.out]; omega, by rw [← HN.out, ← HSZ.out]; omega, rfl, rfl⟩))⟩ HB.out
  · go_wp2
    go_ret2
    exact ⟨0, o, a, c, ⟨0, n, o, HII.out, .inr (.inr (.inr ⟨rfl, by rw [← HM.out]; omega, by rw [← HN.out, ← HSZ.out]; omega, rfl, rfl⟩))⟩, (by rw [← HM.out]; first | done | rfl), HOO.out, HB.out⟩
end Go.Proofs.YtfoglaajnlbnbaaGreatDoor

namespace Go.Proofs.YtfoglaajnlbnbaaGreatDoor
open Go.ChangeShapes Go.WideShapes Go.ChangeAt Go.RowKit Go.Joins Go.Deep

end Go.Proofs.YtfoglaajnlbnbaaGreatDoor

namespace Go.Proofs.YtfoglaajnlbnbaaGreatDoor
open Go.ChangeShapes Go.WideShapes Go.ChangeAt Go.RowKit Go.Joins Go.Deep
set_option maxRecDepth 20000

theorem cArr : Tryz.prog.cellsOf 183 = 19 := by kernel_rfl
theorem cInt : Tryz.prog.cellsOf 3 = 1 := by kernel_rfl
theorem gLeast : Tryz.prog.globalNamed "valise/header.least" = some 4 := by kernel_rfl
theorem tLeast : (Tryz.prog.globals[4]?).map (·.type) = some 183 := by kernel_rfl
theorem gFurther : Tryz.prog.globalNamed "valise/header.further" = some 5 := by kernel_rfl
theorem tFurther : (Tryz.prog.globals[5]?).map (·.type) = some 183 := by kernel_rfl
theorem gOrder : Tryz.prog.globalNamed "valise/header.order" = some 3 := by kernel_rfl
theorem tOrder : (Tryz.prog.globals[3]?).map (·.type) = some 183 := by kernel_rfl

def zlst : List Int := [1, 1, 1, 1, 1, 1, 1, 1, 1, 1, 1, 1, 1, 1, 1, 1, 3, 3, 11]
def zf : List Int := [0, 0, 0, 0, 0, 0, 0, 0, 0, 0, 0, 0, 0, 0, 0, 0, 2, 3, 7]
def zo : List Int := [16, 17, 18, 0, 8, 7, 9, 6, 10, 5, 11, 4, 12, 3, 13, 2, 14, 1, 15]

theorem zl_at : ∀ i : Nat, i < 19 → zlst.getD i 0 = lst i := by decide
theorem zf_at : ∀ i : Nat, i < 19 → zf.getD i 0 = ((frt i : Nat) : Int) := by decide

theorem tab_of {W : World} {rest : List (String × DataW Unit)} (h : laidMet Tryz.prog (("valise/header.least", Lib.tabData .i64 zlst) :: ("valise/header.further", Lib.tabData .i64 zf) :: rest) W) : Tab W := by
  have h1 := Lib.tabIs_of_head gLeast tLeast Tryz.underlying183 Tryz.underlying3 cInt cArr h
  have h2 := Lib.tabIs_of_head gFurther tFurther Tryz.underlying183 Tryz.underlying3 cInt cArr h.tail
  exact ⟨fun i hi => by rw [h1.cell gLeast i (by show i < 19; exact hi), zl_at i hi], fun i hi => by rw [h2.cell gFurther i (by show i < 19; exact hi), zf_at i hi]⟩

theorem ord_of {W : World} {rest : List (String × DataW Unit)} (h : laidMet Tryz.prog (("valise/header.order", Lib.tabData .i64 zo) :: rest) W) : ∀ i : Nat, i < 19 → W.cell? ⟨3, i, none⟩ = some (.int .i64 (zo.getD i 0)) := fun i hi =>
  (Lib.tabIs_of_head gOrder tOrder Tryz.underlying183 Tryz.underlying3 cInt cArr h).cell gOrder i (by show i < 19; exact hi)
end Go.Proofs.YtfoglaajnlbnbaaGreatDoor

namespace Go.Proofs.YtfoglaajnlbnbaaGreatDoor
open Go.RowKit Go.Maps
set_option maxRecDepth 20000
set_option linter.unusedVariables false

end Go.Proofs.YtfoglaajnlbnbaaGreatDoor

namespace Go.Proofs.YtfoglaajnlbnbaaGreatDoor
open Go.RowKit Go.Maps
set_option maxRecDepth 20000
set_option linter.unusedVariables false

end Go.Proofs.YtfoglaajnlbnbaaGreatDoor

namespace Go.Proofs.YtfoglaajnlbnbaaGreatDoor
open Go.RowKit Go.Maps
set_option maxRecDepth 20000

end Go.Proofs.YtfoglaajnlbnbaaGreatDoor

