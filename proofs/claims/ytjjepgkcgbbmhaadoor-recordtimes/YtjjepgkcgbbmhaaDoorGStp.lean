import Derived.Test.YtjjepgkcgbbmhaaDoorGStm
namespace Go.Proofs.YtjjepgkcgbbmhaaDoor
open Go.RowKit
set_option maxRecDepth 20000
set_option linter.unusedVariables false
set_option linter.unusedSimpArgs false

/-- A time. -/
structure Stp where
  y : Int
  mo : Int
  d : Int
  h : Int
  mi : Int
  s : Int

def Stp.cs (t : Stp) : Array Value := #[.int .i64 t.y, .int .i64 t.mo, .int .i64 t.d, .int .i64 t.h, .int .i64 t.mi, .int .i64 t.s]
def Stp.v (t : Stp) : Value := .agg t.cs

/-- There is such a time. -/
structure May (t : Stp) : Prop where
  y : wB t.y 1980 2107 = true
  mo : wB t.mo 1 12 = true
  d : wB t.d 1 (dys t.y t.mo) = true
  h : wB t.h 0 23 = true
  mi : wB t.mi 0 59 = true
  s : wB t.s 0 59 = true

theorem may_iff (t : Stp) : May t ↔ (wB t.y 1980 2107 = true ∧ wB t.mo 1 12 = true ∧ wB t.d 1 (dys t.y t.mo) = true ∧ wB t.h 0 23 = true ∧ wB t.mi 0 59 = true ∧ wB t.s 0 59 = true) :=
  ⟨fun ⟨a, b, c, d, e, f⟩ => ⟨a, b, c, d, e, f⟩, fun ⟨a, b, c, d, e, f⟩ => ⟨a, b, c, d, e, f⟩⟩

instance (t : Stp) : Decidable (May t) := decidable_of_iff _ (may_iff t).symm

theorem wB_in {v lo hi : Int} (h : wB v lo hi = true) : lo ≤ v ∧ v ≤ hi := of_decide_eq_true h
theorem wB_out {v lo hi : Int} (h : wB v lo hi = false) : ¬ (lo ≤ v ∧ v ≤ hi) := of_decide_eq_false h

set_option maxHeartbeats 4000000 in
theorem mayBe_any (t : Stp) (w : World) (T : Mtab w) : Calls Tryd.prog 12 #[t.v] w fun e w' => e = .returned (.bool (decide (May t))) ∧ Below w.heap.size w w' := by
  obtain ⟨R, hR⟩ : ∃ R, R = decide (May t) := ⟨_, rfl⟩
  rw [← hR]
  have HR : Hid (R = true ↔ May t) := by rw [hR, decide_eq_true_iff]; exact Iff.rfl
  clear hR
  obtain ⟨wb, hwb⟩ : ∃ wb, w.alloc (.cells t.cs 23) = wb := ⟨_, rfl⟩
  have HB : Hid (Below w.heap.size w wb) := by rw [← hwb]; exact (Below.refl _ _).alloc (Nat.le_refl _) _
  have hN : wb.heap[w.heap.size]? = some (.cells t.cs 23 (0, 0)) := by rw [← hwb]; exact heap_alloc_new w _
  have HT : Hid (Mtab wb) := T.low HB.out
  obtain ⟨a0, a1, a2, a3, a4, a5⟩ := t
  simp only [Stp.cs] at hN hwb
  simp only [Stp.v, Stp.cs]
  obtain ⟨c0, c1, c2, c3, c4, c5⟩ := box6 hN
  have HW : Hid (∀ q v lo hi b, wB v lo hi = b → Calls Tryd.prog 14 #[.int .i64 v, .int .i64 lo, .int .i64 hi] (wb.drewN q) fun e w' => e = .returned (.bool b) ∧ ∃ m, w' = wb.drewN m) := fun q v lo hi b hb => by subst hb; exact (within_any v lo hi _).mono fun e w' ⟨he, hw⟩ => ⟨he, q, hw⟩
  clear hN T
  by_cases p0 : wB a0 1980 2107 = true
  case neg =>
    have n0 : wB a0 1980 2107 = false := by simpa using p0
    have HE : Hid (R = false) := by
      show _ = _
      rw [← Bool.not_eq_true, HR.out]
      exact fun h => p0 h.y
    clear HR p0
    go_enter Tryd.func12, Tryd.ntmps12
    go_wp2
    go_quiet (first | (go_at_call 14; exact HW.out _ _ _ _ _ (by assumption)))
    go_wp2
    go_ret
    rw [HE.out]
    exact ⟨by simp, below_drewN HB.out _⟩
  case pos =>
  by_cases p1 : wB a1 1 12 = true
  case neg =>
    have n1 : wB a1 1 12 = false := by simpa using p1
    have HE : Hid (R = false) := by
      show _ = _
      rw [← Bool.not_eq_true, HR.out]
      exact fun h => p1 h.mo
    clear HR p1
    go_enter Tryd.func12, Tryd.ntmps12
    go_wp2
    go_quiet (first | (go_at_call 14; exact HW.out _ _ _ _ _ (by assumption)))
    go_wp2
    go_ret
    rw [HE.out]
    exact ⟨by simp, below_drewN HB.out _⟩
  case pos =>
  obtain ⟨l0, u0⟩ := wB_in p0
  obtain ⟨l1, u1⟩ := wB_in p1
  have HDY : Hid (∀ q, Calls Tryd.prog 15 #[.int .i64 a0, .int .i64 a1] (wb.drewN q) fun e w' => e = .returned (.int .i64 (dys a0 a1)) ∧ ∃ m, w' = wb.drewN m) := fun q => (days_any a0 a1 _ (HT.out.drewN q) (by omega) (by omega) l1 u1).mono fun e w' ⟨he, hw⟩ => ⟨he, q, hw⟩
  clear l0 u0 l1 u1
  by_cases p2 : wB a2 1 (dys a0 a1) = true
  case neg =>
    have n2 : wB a2 1 (dys a0 a1) = false := by simpa using p2
    have HE : Hid (R = false) := by
      show _ = _
      rw [← Bool.not_eq_true, HR.out]
      exact fun h => p2 h.d
    clear HR p2
    go_enter Tryd.func12, Tryd.ntmps12
    go_wp2
    go_quiet (first | (go_at_call 14; exact HW.out _ _ _ _ _ (by assumption)) | (go_at_call 15; exact HDY.out _))
    go_wp2
    go_ret
    rw [HE.out]
    exact ⟨by simp, below_drewN HB.out _⟩
  case pos =>
  by_cases p3 : wB a3 0 23 = true
  case neg =>
    have n3 : wB a3 0 23 = false := by simpa using p3
    have HE : Hid (R = false) := by
      show _ = _
      rw [← Bool.not_eq_true, HR.out]
      exact fun h => p3 h.h
    clear HR p3
    go_enter Tryd.func12, Tryd.ntmps12
    go_wp2
    go_quiet (first | (go_at_call 14; exact HW.out _ _ _ _ _ (by assumption)) | (go_at_call 15; exact HDY.out _))
    go_wp2
    go_ret
    rw [HE.out]
    exact ⟨by simp, below_drewN HB.out _⟩
  case pos =>
  by_cases p4 : wB a4 0 59 = true
  case neg =>
    have n4 : wB a4 0 59 = false := by simpa using p4
    have HE : Hid (R = false) := by
      show _ = _
      rw [← Bool.not_eq_true, HR.out]
      exact fun h => p4 h.mi
    clear HR p4
    go_enter Tryd.func12, Tryd.ntmps12
    go_wp2
    go_quiet (first | (go_at_call 14; exact HW.out _ _ _ _ _ (by assumption)) | (go_at_call 15; exact HDY.out _))
    go_wp2
    go_ret
    rw [HE.out]
    exact ⟨by simp, below_drewN HB.out _⟩
  case pos =>
  by_cases p5 : wB a5 0 59 = true
  case neg =>
    have n5 : wB a5 0 59 = false := by simpa using p5
    have HE : Hid (R = false) := by
      show _ = _
      rw [← Bool.not_eq_true, HR.out]
      exact fun h => p5 h.s
    clear HR p5
    go_enter Tryd.func12, Tryd.ntmps12
    go_wp2
    go_quiet (first | (go_at_call 14; exact HW.out _ _ _ _ _ (by assumption)) | (go_at_call 15; exact HDY.out _))
    go_wp2
    go_ret
    rw [HE.out]
    exact ⟨by simp, below_drewN HB.out _⟩
  case pos =>
  have HE : Hid (R = true) := HR.out.2 ⟨p0, p1, p2, p3, p4, p5⟩
  clear HR
  go_enter Tryd.func12, Tryd.ntmps12
  go_wp2
  go_quiet (first | (go_at_call 14; exact HW.out _ _ _ _ _ (by assumption)) | (go_at_call 15; exact HDY.out _))
  go_wp2
  go_ret
  rw [HE.out]
  exact ⟨by simp, below_drewN HB.out _⟩
end Go.Proofs.YtjjepgkcgbbmhaaDoor

