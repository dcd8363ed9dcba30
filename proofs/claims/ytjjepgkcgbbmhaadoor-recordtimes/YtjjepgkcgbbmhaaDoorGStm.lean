import Derived.Test.YtjjepgkcgbbmhaaDoorRows
import Derived.WalkKit
import Derived.ProofKit
import Derived.OpenShut
import Derived.ShutString
import Derived.ChangeOld
import Derived.Below
import Derived.WalkLawsBesides
import Derived.WalkSpells
import Derived.Deep.QuietTactic
import Derived.BigQuiet
import Derived.Handy
import Derived.Lib.LaidTab
import Derived.Stop.LaidErr
import Derived.Maps.Own
namespace Go.Proofs.YtjjepgkcgbbmhaaDoor
open Go.RowKit
set_option maxRecDepth 20000
set_option linter.unusedVariables false
set_option linter.unusedSimpArgs false

theorem hide {p : Prop} (h : p) : Hid p := h

theorem size_alloc' (w : World) (o : Obj) : (w.alloc o).heap.size = w.heap.size + 1 := by simp

theorem box_cells {w : World} {c : Nat} {cs : Array Value} {t : TypeId} {k : Nat × Nat} (h : w.heap[c]? = some (.cells cs t k)) (i : Nat) : w.cell? ⟨c, i, none⟩ = cs[i]? := by
  unfold World.cell?
  rw [h]
  rfl

theorem box6 {w : World} {c : Nat} {a0 a1 a2 a3 a4 a5 : Value} {t : TypeId} {k : Nat × Nat} (h : w.heap[c]? = some (.cells #[a0, a1, a2, a3, a4, a5] t k)) :
    w.cell? ⟨c, 0, none⟩ = some a0 ∧ w.cell? ⟨c, 1, none⟩ = some a1 ∧ w.cell? ⟨c, 2, none⟩ = some a2 ∧ w.cell? ⟨c, 3, none⟩ = some a3 ∧ w.cell? ⟨c, 4, none⟩ = some a4 ∧ w.cell? ⟨c, 5, none⟩ = some a5 :=
  ⟨box_cells h 0, box_cells h 1, box_cells h 2, box_cells h 3, box_cells h 4, box_cells h 5⟩

/-- The table of the months' days. -/
def mdz : List Int := [31, 28, 31, 30, 31, 30, 31, 31, 30, 31, 30, 31]

structure Mtab (w : World) : Prop where
  c : ∀ i : Nat, i < 12 → w.cell? ⟨0, i, none⟩ = some (.int .i64 (mdz.getD i 0))

theorem Mtab.low {w w' : World} (h : Mtab w) (hb : Below w.heap.size w w') : Mtab w' :=
  ⟨fun i hi => (hb.cell (World.block_lt_of_cell? _ _ (h.c i hi))).trans (h.c i hi)⟩

theorem Mtab.drewN {w : World} (h : Mtab w) (n : Nat) : Mtab (w.drewN n) := ⟨fun i hi => h.c i hi⟩

theorem cArr12 : Tryd.prog.cellsOf 41 = 12 := by kernel_rfl
theorem cInt : Tryd.prog.cellsOf 3 = 1 := by kernel_rfl
theorem gDays : Tryd.prog.globalNamed "valise/record.monthDays" = some 0 := by kernel_rfl
theorem tDays : (Tryd.prog.globals[0]?).map (·.type) = some 41 := by kernel_rfl

theorem mtab_of {W : World} {rest : List (String × DataW Unit)} (h : laidMet Tryd.prog (("valise/record.monthDays", Lib.tabData .i64 mdz) :: rest) W) : Mtab W :=
  ⟨fun i hi => (Lib.tabIs_of_head gDays tDays Tryd.underlying41 Tryd.underlying3 cInt cArr12 h).cell gDays i (by show i < 12; exact hi)⟩

/-- How many days a month has. -/
def dys (y m : Int) : Int := if m = 2 ∧ y % 4 = 0 ∧ y ≠ 2100 then 29 else mdz.getD (m - 1).toNat 0

def wB (v lo hi : Int) : Bool := decide (lo ≤ v ∧ v ≤ hi)

theorem within_any (v lo hi : Int) (w : World) : Calls Tryd.prog 14 #[.int .i64 v, .int .i64 lo, .int .i64 hi] w fun e w' => e = .returned (.bool (wB v lo hi)) ∧ w' = w := by
  by_cases h0 : lo ≤ v
  · by_cases h1 : v ≤ hi
    · have HE : Hid (wB v lo hi = true) := decide_eq_true ⟨h0, h1⟩
      go_enter Tryd.func14, Tryd.ntmps14
      go_wp2
      go_ret
      rw [HE.out]
      exact ⟨by simp [h1], rfl⟩
    · have HE : Hid (wB v lo hi = false) := decide_eq_false (fun h => h1 h.2)
      go_enter Tryd.func14, Tryd.ntmps14
      go_wp2
      go_ret
      rw [HE.out]
      exact ⟨by simp [h1], rfl⟩
  · have HE : Hid (wB v lo hi = false) := decide_eq_false (fun h => h0 h.1)
    go_enter Tryd.func14, Tryd.ntmps14
    go_wp2
    go_ret
    rw [HE.out]
    exact ⟨rfl, rfl⟩

theorem days_any (y m : Int) (w : World) (T : Mtab w) (hy0 : 0 ≤ y) (hy1 : y ≤ 100000) (h1 : 1 ≤ m) (h2 : m ≤ 12) : Calls Tryd.prog 15 #[.int .i64 y, .int .i64 m] w fun e w' => e = .returned (.int .i64 (dys y m)) ∧ w' = w := by
  by_cases hc : m = 2 ∧ y % 4 = 0 ∧ y ≠ 2100
  · obtain ⟨rfl, hb, hn⟩ := hc
    have HE : Hid (dys y 2 = 29) := if_pos ⟨rfl, hb, hn⟩
    have hn' : (y != 2100) = true := by simpa using hn
    have hb' : (y % 4 == 0) = true := by simpa using hb
    have hd1 : decide (y % 4 = 0) = true := decide_eq_true hb
    have hd2 : decide (y = 2100) = false := decide_eq_false hn
    go_enter Tryd.func15, Tryd.ntmps15
    go_wp2
    go_ret
    rw [HE.out]
    exact ⟨rfl, rfl⟩
  · obtain ⟨i, rfl⟩ : ∃ i : Nat, m = (i : Int) + 1 := ⟨(m - 1).toNat, by omega⟩
    have ei : (i : Int) + 1 - 1 = (i : Int) := by omega
    have HE : Hid (dys y ((i : Int) + 1) = mdz.getD i 0) := by show _ = _; unfold dys; rw [if_neg hc, ei]; rfl
    have hcell := T.c i (by omega)
    obtain ⟨V, hV⟩ : ∃ V, V = mdz.getD i 0 := ⟨_, rfl⟩
    rw [← hV] at hcell HE
    have hi : (i : Int) < 12 := by omega
    have hi' : i < 12 := by omega
    clear T hV
    by_cases hm : (i : Int) + 1 = 2
    · have hm' : ((i : Int) + 1 == 2) = true := by simpa using hm
      obtain rfl : i = 1 := by omega
      by_cases hb : y % 4 = 0
      · have hn : y = 2100 := by
          by_cases e : y = 2100
          · exact e
          · exact absurd ⟨hm, hb, e⟩ hc
        subst hn
        clear hc
        go_enter Tryd.func15, Tryd.ntmps15
        go_wp2
        go_ret
        rw [HE.out]
        exact ⟨rfl, rfl⟩
      · have hb' : (y % 4 == 0) = false := by simpa using hb
        clear hc
        go_enter Tryd.func15, Tryd.ntmps15
        go_wp2
        go_ret
        rw [HE.out]
        exact ⟨rfl, rfl⟩
    · have hm' : ((i : Int) + 1 == 2) = false := by simpa using hm
      clear hc
      go_enter Tryd.func15, Tryd.ntmps15
      go_wp2
      go_ret
      rw [HE.out]
      exact ⟨rfl, rfl⟩

theorem vdays_any (y m : Int) (w : World) (hy0 : 0 ≤ y) (hy1 : y ≤ 100000) (h1 : 1 ≤ m) (h2 : m ≤ 12) : Calls Tryd.prog 16 #[.int .i64 y, .int .i64 m] w fun e w' => e = .returned (.int .i64 (dys y m)) ∧ w' = w := by
  have hm : m = 1 ∨ m = 2 ∨ m = 3 ∨ m = 4 ∨ m = 5 ∨ m = 6 ∨ m = 7 ∨ m = 8 ∨ m = 9 ∨ m = 10 ∨ m = 11 ∨ m = 12 := by omega
  rcases hm with rfl | rfl | rfl | rfl | rfl | rfl | rfl | rfl | rfl | rfl | rfl | rfl
  case inr.inl =>
    by_cases hb : y % 4 = 0
    · have hb' : (y % 4 == 0) = true := by simpa using hb
      by_cases hn : y = 2100
      · subst hn
        go_enter Tryd.func16, Tryd.ntmps16
        go_wp2
        go_ret
        exact ⟨rfl, rfl⟩
      · have hn' : (y != 2100) = true := by simpa using hn
        have HE : Hid (dys y 2 = 29) := if_pos ⟨rfl, hb, hn⟩
        go_enter Tryd.func16, Tryd.ntmps16
        go_wp2
        go_ret
        rw [HE.out]
        exact ⟨rfl, rfl⟩
    · have hb' : (y % 4 == 0) = false := by simpa using hb
      have HE : Hid (dys y 2 = 28) := if_neg (fun h => hb h.2.1)
      go_enter Tryd.func16, Tryd.ntmps16
      go_wp2
      go_ret
      rw [HE.out]
      exact ⟨rfl, rfl⟩
  all_goals
    go_enter Tryd.func16, Tryd.ntmps16
    go_wp2
    go_ret
    exact ⟨rfl, rfl⟩
end Go.Proofs.YtjjepgkcgbbmhaaDoor

