import Derived.Test.YtjmjjjpanioifaaGRe
import Derived.Test.YtjmjjjpanioifaaGVdx
import Derived.Test.YtjmjjjpanioifaaGLnb
namespace Go.Proofs.Ytjmjjjpanioifaa
open Go.RowKit Go.Maps
set_option maxRecDepth 20000
set_option linter.unusedVariables false
set_option linter.unusedSimpArgs false

/-- All of a local header fits. -/
structure LFit (l : Loc) : Prop where
  need : w16 l.need = true
  flags : w16 l.flags = true
  method : w16 l.method = true
  clock : w16 l.clock = true
  date : w16 l.date = true
  packed : w32 l.packed = true
  size : w32 l.size = true
  name : l.name.size ≤ 65535
  extra : l.extra.size ≤ 65535

theorem w16_iff {v : Int} : w16 v = true ↔ ¬ wide v 2 := by unfold w16; simp
theorem w32_iff {v : Int} : w32 v = true ↔ ¬ wide v 4 := by unfold w32; simp
theorem w16_in {v : Int} (h : w16 v = true) : 0 ≤ v ∧ v ≤ 65535 := by have := w16_iff.1 h; unfold wide at this; omega
theorem w32_in {v : Int} (h : w32 v = true) : 0 ≤ v ∧ v ≤ 4294967295 := by have := w32_iff.1 h; unfold wide at this; omega
theorem wsz_iff {s : ByteArray} : s.size ≤ 65535 ↔ ¬ wide (s.size : Int) 2 := by unfold wide; omega

theorem fit_lc {l : Loc} (ok : l.Ok) : fitI (lcI l) ↔ LFit l := by
  have hs : ¬ wide l.sum 4 := by unfold wide; have := ok.sum0; have := ok.sum1; omega
  refine ⟨fun h => ⟨w16_iff.2 (h (.num l.need 2) (by simp [lcI])), w16_iff.2 (h (.num l.flags 2) (by simp [lcI])), w16_iff.2 (h (.num l.method 2) (by simp [lcI])), w16_iff.2 (h (.num l.clock 2) (by simp [lcI])), w16_iff.2 (h (.num l.date 2) (by simp [lcI])), w32_iff.2 (h (.num l.packed 4) (by simp [lcI])), w32_iff.2 (h (.num l.size 4) (by simp [lcI])), wsz_iff.2 (h (.num l.name.size 2) (by simp [lcI])), wsz_iff.2 (h (.num l.extra.size 2) (by simp [lcI]))⟩, fun h i hi => ?_⟩
  simp only [lcI, List.mem_cons, List.not_mem_nil, or_false] at hi
  rcases hi with rfl | rfl | rfl | rfl | rfl | rfl | rfl | rfl | rfl | rfl
  · exact w16_iff.1 h.need
  · exact w16_iff.1 h.flags
  · exact w16_iff.1 h.method
  · exact w16_iff.1 h.clock
  · exact w16_iff.1 h.date
  · exact hs
  · exact w32_iff.1 h.packed
  · exact w32_iff.1 h.size
  · exact wsz_iff.1 h.name
  · exact wsz_iff.1 h.extra

theorem fit_lo {l : Loc} : fitI (loI l) ↔ fitI (lcI l) := by
  refine ⟨fun h i hi => h i (by simp [loI, hi]), fun h i hi => ?_⟩
  simp only [loI, List.mem_cons, List.mem_append, List.not_mem_nil, or_false] at hi
  rcases hi with rfl | hi | rfl | rfl
  · show ¬ wide _ _; unfold wide; omega
  · exact h i hi
  · exact fun h => h
  · exact fun h => h

set_option maxHeartbeats 4000000 in
theorem vlocalFits_any (l : Loc) (ok : l.Ok) (w : World) : Calls Try.prog 51 #[l.v] w fun e w' => e = .returned (.bool (decide (fitI (loI l)))) ∧ Below w.heap.size w w' := by
  have HF : Hid (fitI (loI l) ↔ LFit l) := fit_lo.trans (fit_lc ok)
  obtain ⟨wb, hwb⟩ : ∃ wb, w.alloc (.cells l.cs 26) = wb := ⟨_, rfl⟩
  have HB : Hid (Below w.heap.size w wb) := by rw [← hwb]; exact (Below.refl _ _).alloc (Nat.le_refl _) _
  have hN : wb.heap[w.heap.size]? = some (.cells l.cs 26 (0, 0)) := by rw [← hwb]; exact heap_alloc_new w _
  obtain ⟨x0, x1, x2, x3, x4, s0, s1, x6, x7, x8, x9⟩ := ok
  obtain ⟨R, hR⟩ : ∃ R, R = decide (fitI (loI l)) := ⟨_, rfl⟩
  rw [← hR]
  have HR : Hid (R = true ↔ LFit l) := by rw [hR, decide_eq_true_iff]; exact HF.out
  clear HF hR
  cases l with
  | mk a0 a1 a2 a3 a4 a5 a6 a7 a8 a9 =>
  simp only [Loc.cs] at hN hwb
  simp only at x8 x9
  simp only [Loc.v, Loc.cs]
  obtain ⟨c0, c1, c2, c3, c4, c5, c6, c7, c8, c9⟩ := box10 hN
  clear hN x0 x1 x2 x3 x4 x6 x7 s0 s1 c5
  by_cases p0 : w16 a0 = true
  case neg =>
    have n0 : w16 a0 = false := by simpa using p0
    have HE : Hid (R = false) := by
      show _ = _
      rw [← Bool.not_eq_true, HR.out]
      exact fun h => p0 h.need
    clear HR p0
    go_enter Try.func51, Try.ntmps51
    go_wp2_with fail
    refine (vis16_any a0 _).mono ?_
    rintro e0 wv0 ⟨rfl, rfl⟩
    rw [n0]
    go_wp2_with fail
    refine (vis16_any a1 _).mono ?_
    rintro e1 wv1 ⟨rfl, rfl⟩
    go_wp2_with fail
    refine (vis16_any a2 _).mono ?_
    rintro e2 wv2 ⟨rfl, rfl⟩
    go_wp2_with fail
    refine (vis16_any a3 _).mono ?_
    rintro e3 wv3 ⟨rfl, rfl⟩
    go_wp2_with fail
    refine (vis16_any a4 _).mono ?_
    rintro e4 wv4 ⟨rfl, rfl⟩
    go_wp2_with fail
    refine (vis32_any a6 _).mono ?_
    rintro e5 wv5 ⟨rfl, rfl⟩
    go_wp2_with fail
    refine (vis32_any a7 _).mono ?_
    rintro e6 wv6 ⟨rfl, rfl⟩
    go_wp2
    go_ret
    rw [HE.out]
    exact ⟨rfl, HB.out⟩
  case pos =>
  by_cases p1 : w16 a1 = true
  case neg =>
    have n1 : w16 a1 = false := by simpa using p1
    have HE : Hid (R = false) := by
      show _ = _
      rw [← Bool.not_eq_true, HR.out]
      exact fun h => p1 h.flags
    clear HR p1
    go_enter Try.func51, Try.ntmps51
    go_wp2_with fail
    refine (vis16_any a0 _).mono ?_
    rintro e0 wv0 ⟨rfl, rfl⟩
    rw [p0]
    go_wp2_with fail
    refine (vis16_any a1 _).mono ?_
    rintro e1 wv1 ⟨rfl, rfl⟩
    rw [n1]
    go_wp2_with fail
    refine (vis16_any a2 _).mono ?_
    rintro e2 wv2 ⟨rfl, rfl⟩
    go_wp2_with fail
    refine (vis16_any a3 _).mono ?_
    rintro e3 wv3 ⟨rfl, rfl⟩
    go_wp2_with fail
    refine (vis16_any a4 _).mono ?_
    rintro e4 wv4 ⟨rfl, rfl⟩
    go_wp2_with fail
    refine (vis32_any a6 _).mono ?_
    rintro e5 wv5 ⟨rfl, rfl⟩
    go_wp2_with fail
    refine (vis32_any a7 _).mono ?_
    rintro e6 wv6 ⟨rfl, rfl⟩
    go_wp2
    go_ret
    rw [HE.out]
    exact ⟨rfl, HB.out⟩
  case pos =>
  by_cases p2 : w16 a2 = true
  case neg =>
    have n2 : w16 a2 = false := by simpa using p2
    have HE : Hid (R = false) := by
      show _ = _
      rw [← Bool.not_eq_true, HR.out]
      exact fun h => p2 h.method
    clear HR p2
    go_enter Try.func51, Try.ntmps51
    go_wp2_with fail
    refine (vis16_any a0 _).mono ?_
    rintro e0 wv0 ⟨rfl, rfl⟩
    rw [p0]
    go_wp2_with fail
    refine (vis16_any a1 _).mono ?_
    rintro e1 wv1 ⟨rfl, rfl⟩
    rw [p1]
    go_wp2_with fail
    refine (vis16_any a2 _).mono ?_
    rintro e2 wv2 ⟨rfl, rfl⟩
    rw [n2]
    go_wp2_with fail
    refine (vis16_any a3 _).mono ?_
    rintro e3 wv3 ⟨rfl, rfl⟩
    go_wp2_with fail
    refine (vis16_any a4 _).mono ?_
    rintro e4 wv4 ⟨rfl, rfl⟩
    go_wp2_with fail
    refine (vis32_any a6 _).mono ?_
    rintro e5 wv5 ⟨rfl, rfl⟩
    go_wp2_with fail
    refine (vis32_any a7 _).mono ?_
    rintro e6 wv6 ⟨rfl, rfl⟩
    go_wp2
    go_ret
    rw [HE.out]
    exact ⟨rfl, HB.out⟩
  case pos =>
  by_cases p3 : w16 a3 = true
  case neg =>
    have n3 : w16 a3 = false := by simpa using p3
    have HE : Hid (R = false) := by
      show _ = _
      rw [← Bool.not_eq_true, HR.out]
      exact fun h => p3 h.clock
    clear HR p3
    go_enter Try.func51, Try.ntmps51
    go_wp2_with fail
    refine (vis16_any a0 _).mono ?_
    rintro e0 wv0 ⟨rfl, rfl⟩
    rw [p0]
    go_wp2_with fail
    refine (vis16_any a1 _).mono ?_
    rintro e1 wv1 ⟨rfl, rfl⟩
    rw [p1]
    go_wp2_with fail
    refine (vis16_any a2 _).mono ?_
    rintro e2 wv2 ⟨rfl, rfl⟩
    rw [p2]
    go_wp2_with fail
    refine (vis16_any a3 _).mono ?_
    rintro e3 wv3 ⟨rfl, rfl⟩
    rw [n3]
    go_wp2_with fail
    refine (vis16_any a4 _).mono ?_
    rintro e4 wv4 ⟨rfl, rfl⟩
    go_wp2_with fail
    refine (vis32_any a6 _).mono ?_
    rintro e5 wv5 ⟨rfl, rfl⟩
    go_wp2_with fail
    refine (vis32_any a7 _).mono ?_
    rintro e6 wv6 ⟨rfl, rfl⟩
    go_wp2
    go_ret
    rw [HE.out]
    exact ⟨rfl, HB.out⟩
  case pos =>
  by_cases p4 : w16 a4 = true
  case neg =>
    have n4 : w16 a4 = false := by simpa using p4
    have HE : Hid (R = false) := by
      show _ = _
      rw [← Bool.not_eq_true, HR.out]
      exact fun h => p4 h.date
    clear HR p4
    go_enter Try.func51, Try.ntmps51
    go_wp2_with fail
    refine (vis16_any a0 _).mono ?_
    rintro e0 wv0 ⟨rfl, rfl⟩
    rw [p0]
    go_wp2_with fail
    refine (vis16_any a1 _).mono ?_
    rintro e1 wv1 ⟨rfl, rfl⟩
    rw [p1]
    go_wp2_with fail
    refine (vis16_any a2 _).mono ?_
    rintro e2 wv2 ⟨rfl, rfl⟩
    rw [p2]
    go_wp2_with fail
    refine (vis16_any a3 _).mono ?_
    rintro e3 wv3 ⟨rfl, rfl⟩
    rw [p3]
    go_wp2_with fail
    refine (vis16_any a4 _).mono ?_
    rintro e4 wv4 ⟨rfl, rfl⟩
    rw [n4]
    go_wp2_with fail
    refine (vis32_any a6 _).mono ?_
    rintro e5 wv5 ⟨rfl, rfl⟩
    go_wp2_with fail
    refine (vis32_any a7 _).mono ?_
    rintro e6 wv6 ⟨rfl, rfl⟩
    go_wp2
    go_ret
    rw [HE.out]
    exact ⟨rfl, HB.out⟩
  case pos =>
  by_cases p6 : w32 a6 = true
  case neg =>
    have n6 : w32 a6 = false := by simpa using p6
    have HE : Hid (R = false) := by
      show _ = _
      rw [← Bool.not_eq_true, HR.out]
      exact fun h => p6 h.packed
    clear HR p6
    go_enter Try.func51, Try.ntmps51
    go_wp2_with fail
    refine (vis16_any a0 _).mono ?_
    rintro e0 wv0 ⟨rfl, rfl⟩
    rw [p0]
    go_wp2_with fail
    refine (vis16_any a1 _).mono ?_
    rintro e1 wv1 ⟨rfl, rfl⟩
    rw [p1]
    go_wp2_with fail
    refine (vis16_any a2 _).mono ?_
    rintro e2 wv2 ⟨rfl, rfl⟩
    rw [p2]
    go_wp2_with fail
    refine (vis16_any a3 _).mono ?_
    rintro e3 wv3 ⟨rfl, rfl⟩
    rw [p3]
    go_wp2_with fail
    refine (vis16_any a4 _).mono ?_
    rintro e4 wv4 ⟨rfl, rfl⟩
    rw [p4]
    go_wp2_with fail
    refine (vis32_any a6 _).mono ?_
    rintro e5 wv5 ⟨rfl, rfl⟩
    rw [n6]
    go_wp2_with fail
    refine (vis32_any a7 _).mono ?_
    rintro e6 wv6 ⟨rfl, rfl⟩
    go_wp2
    go_ret
    rw [HE.out]
    exact ⟨rfl, HB.out⟩
  case pos =>
  by_cases p7 : w32 a7 = true
  case neg =>
    have n7 : w32 a7 = false := by simpa using p7
    have HE : Hid (R = false) := by
      show _ = _
      rw [← Bool.not_eq_true, HR.out]
      exact fun h => p7 h.size
    clear HR p7
    go_enter Try.func51, Try.ntmps51
    go_wp2_with fail
    refine (vis16_any a0 _).mono ?_
    rintro e0 wv0 ⟨rfl, rfl⟩
    rw [p0]
    go_wp2_with fail
    refine (vis16_any a1 _).mono ?_
    rintro e1 wv1 ⟨rfl, rfl⟩
    rw [p1]
    go_wp2_with fail
    refine (vis16_any a2 _).mono ?_
    rintro e2 wv2 ⟨rfl, rfl⟩
    rw [p2]
    go_wp2_with fail
    refine (vis16_any a3 _).mono ?_
    rintro e3 wv3 ⟨rfl, rfl⟩
    rw [p3]
    go_wp2_with fail
    refine (vis16_any a4 _).mono ?_
    rintro e4 wv4 ⟨rfl, rfl⟩
    rw [p4]
    go_wp2_with fail
    refine (vis32_any a6 _).mono ?_
    rintro e5 wv5 ⟨rfl, rfl⟩
    rw [p6]
    go_wp2_with fail
    refine (vis32_any a7 _).mono ?_
    rintro e6 wv6 ⟨rfl, rfl⟩
    rw [n7]
    go_wp2
    go_ret
    rw [HE.out]
    exact ⟨rfl, HB.out⟩
  case pos =>
  by_cases p8 : a8.size ≤ 65535
  case neg =>
    have n8 : decide ((a8.size : Int) ≤ 65535) = false := decide_eq_false (by omega)
    have HE : Hid (R = false) := by
      show _ = _
      rw [← Bool.not_eq_true, HR.out]
      exact fun h => p8 h.name
    clear HR p8
    go_enter Try.func51, Try.ntmps51
    go_wp2_with fail
    refine (vis16_any a0 _).mono ?_
    rintro e0 wv0 ⟨rfl, rfl⟩
    rw [p0]
    go_wp2_with fail
    refine (vis16_any a1 _).mono ?_
    rintro e1 wv1 ⟨rfl, rfl⟩
    rw [p1]
    go_wp2_with fail
    refine (vis16_any a2 _).mono ?_
    rintro e2 wv2 ⟨rfl, rfl⟩
    rw [p2]
    go_wp2_with fail
    refine (vis16_any a3 _).mono ?_
    rintro e3 wv3 ⟨rfl, rfl⟩
    rw [p3]
    go_wp2_with fail
    refine (vis16_any a4 _).mono ?_
    rintro e4 wv4 ⟨rfl, rfl⟩
    rw [p4]
    go_wp2_with fail
    refine (vis32_any a6 _).mono ?_
    rintro e5 wv5 ⟨rfl, rfl⟩
    rw [p6]
    go_wp2_with fail
    refine (vis32_any a7 _).mono ?_
    rintro e6 wv6 ⟨rfl, rfl⟩
    rw [p7]
    go_wp2
    go_ret
    rw [HE.out]
    exact ⟨rfl, HB.out⟩
  case pos =>
  have m8 : decide ((a8.size : Int) ≤ 65535) = true := decide_eq_true (by omega)
  by_cases p9 : a9.size ≤ 65535
  case neg =>
    have n9 : decide ((a9.size : Int) ≤ 65535) = false := decide_eq_false (by omega)
    have HE : Hid (R = false) := by
      show _ = _
      rw [← Bool.not_eq_true, HR.out]
      exact fun h => p9 h.extra
    clear HR p9
    go_enter Try.func51, Try.ntmps51
    go_wp2_with fail
    refine (vis16_any a0 _).mono ?_
    rintro e0 wv0 ⟨rfl, rfl⟩
    rw [p0]
    go_wp2_with fail
    refine (vis16_any a1 _).mono ?_
    rintro e1 wv1 ⟨rfl, rfl⟩
    rw [p1]
    go_wp2_with fail
    refine (vis16_any a2 _).mono ?_
    rintro e2 wv2 ⟨rfl, rfl⟩
    rw [p2]
    go_wp2_with fail
    refine (vis16_any a3 _).mono ?_
    rintro e3 wv3 ⟨rfl, rfl⟩
    rw [p3]
    go_wp2_with fail
    refine (vis16_any a4 _).mono ?_
    rintro e4 wv4 ⟨rfl, rfl⟩
    rw [p4]
    go_wp2_with fail
    refine (vis32_any a6 _).mono ?_
    rintro e5 wv5 ⟨rfl, rfl⟩
    rw [p6]
    go_wp2_with fail
    refine (vis32_any a7 _).mono ?_
    rintro e6 wv6 ⟨rfl, rfl⟩
    rw [p7]
    go_wp2
    go_ret
    rw [HE.out]
    exact ⟨rfl, HB.out⟩
  case pos =>
  have m9 : decide ((a9.size : Int) ≤ 65535) = true := decide_eq_true (by omega)
  have HE : Hid (R = true) := HR.out.2 ⟨p0, p1, p2, p3, p4, p6, p7, p8, p9⟩
  clear HR
  go_enter Try.func51, Try.ntmps51
  go_wp2_with fail
  refine (vis16_any a0 _).mono ?_
  rintro e0 wv0 ⟨rfl, rfl⟩
  rw [p0]
  go_wp2_with fail
  refine (vis16_any a1 _).mono ?_
  rintro e1 wv1 ⟨rfl, rfl⟩
  rw [p1]
  go_wp2_with fail
  refine (vis16_any a2 _).mono ?_
  rintro e2 wv2 ⟨rfl, rfl⟩
  rw [p2]
  go_wp2_with fail
  refine (vis16_any a3 _).mono ?_
  rintro e3 wv3 ⟨rfl, rfl⟩
  rw [p3]
  go_wp2_with fail
  refine (vis16_any a4 _).mono ?_
  rintro e4 wv4 ⟨rfl, rfl⟩
  rw [p4]
  go_wp2_with fail
  refine (vis32_any a6 _).mono ?_
  rintro e5 wv5 ⟨rfl, rfl⟩
  rw [p6]
  go_wp2_with fail
  refine (vis32_any a7 _).mono ?_
  rintro e6 wv6 ⟨rfl, rfl⟩
  rw [p7]
  go_wp2
  go_ret
  rw [HE.out]
  exact ⟨rfl, HB.out⟩

/-- The 22 bytes that both headers share. -/
def shB (l : Loc) : List Int := bytesLE l.need 2 ++ (bytesLE l.flags 2 ++ (bytesLE l.method 2 ++ (bytesLE l.clock 2 ++ (bytesLE l.date 2 ++ (bytesLE l.sum 4 ++ (bytesLE l.packed 4 ++ bytesLE l.size 4))))))

set_option maxHeartbeats 4000000 in
theorem vshared_any (l : Loc) (ok : l.Ok) (fit : LFit l) {c : Nat} {o : Obj} {base : Nat} {w0 w : World} {v0 : Value} {a : Option Addr} {cp n : Nat} {l0 : List Int} (h : Dx c o base w0 v0 w a cp n l0) (hn : n ≤ 1000) :
    Calls Try.prog 55 #[.slice a n cp, l.v] w fun e w' => ∃ a' cp', e = .returned (.slice a' (n + 22) cp') ∧ Dx c o base w0 v0 w' a' cp' (n + 22) (l0 ++ shB l) := by
  have H := hide h
  have HX := hide (h.inner (.cells l.cs 26))
  have s0 := ok.sum0
  have s1 := ok.sum1
  obtain ⟨f0, f1, f2, f3, f4, f6, f7, f8, f9⟩ := fit
  obtain ⟨y0, z0⟩ := w16_in f0
  obtain ⟨y1, z1⟩ := w16_in f1
  obtain ⟨y2, z2⟩ := w16_in f2
  obtain ⟨y3, z3⟩ := w16_in f3
  obtain ⟨y4, z4⟩ := w16_in f4
  obtain ⟨y6, z6⟩ := w32_in f6
  obtain ⟨y7, z7⟩ := w32_in f7
  obtain ⟨S, HS⟩ : ∃ S, Hid (S = shB l) := ⟨_, rfl⟩
  rw [← HS.out]
  obtain ⟨a0, a1, a2, a3, a4, a5, a6, a7, a8, a9⟩ := l
  simp only [shB] at HS
  simp only at y0 z0 y1 z1 y2 z2 y3 z3 y4 z4 s0 s1 y6 z6 y7 z7
  simp only [Loc.cs] at HX
  simp only [Loc.v, Loc.cs]
  have g5 : IntKind.i64.wrap a5 = a5 := by rw [IntKind.wrap_i64]; omega
  obtain ⟨wb, hwb⟩ : ∃ wb, w.alloc (.cells #[.int .i64 a0, .int .i64 a1, .int .i64 a2, .int .i64 a3, .int .i64 a4, .int .u32 a5, .int .i64 a6, .int .i64 a7, .string a8, .string a9] 26) = wb := ⟨_, rfl⟩
  have HWB := hide hwb
  rw [hwb] at HX
  clear h f0 f1 f2 f3 f4 f6 f7 f8 f9 ok
  go_enter Try.func55, Try.ntmps55
  obtain ⟨c0, c1, c2, c3, c4, c5, c6, c7, c8, c9⟩ := box10 HX.out.box
  clear c1 c2 c3 c4 c5 c6 c7 c8 c9
  go_wp2_with fail
  refine (dput_any HX.out a0 2 (by omega) (by omega) (by omega) (by omega)).mono ?_
  rintro e0 wd0 ⟨pa0, pc0, rfl, hx⟩
  clear HX c0
  have HX := hide hx
  obtain ⟨c0, c1, c2, c3, c4, c5, c6, c7, c8, c9⟩ := box10 hx.box
  clear c0 c2 c3 c4 c5 c6 c7 c8 c9
  clear hx
  go_wp2_with fail
  refine (dput_any HX.out a1 2 (by omega) (by omega) (by omega) (by omega)).mono ?_
  rintro e1 wd1 ⟨pa1, pc1, rfl, hx⟩
  clear HX c1
  have HX := hide hx
  obtain ⟨c0, c1, c2, c3, c4, c5, c6, c7, c8, c9⟩ := box10 hx.box
  clear c0 c1 c3 c4 c5 c6 c7 c8 c9
  clear hx
  go_wp2_with fail
  refine (dput_any HX.out a2 2 (by omega) (by omega) (by omega) (by omega)).mono ?_
  rintro e2 wd2 ⟨pa2, pc2, rfl, hx⟩
  clear HX c2
  have HX := hide hx
  obtain ⟨c0, c1, c2, c3, c4, c5, c6, c7, c8, c9⟩ := box10 hx.box
  clear c0 c1 c2 c4 c5 c6 c7 c8 c9
  clear hx
  go_wp2_with fail
  refine (dput_any HX.out a3 2 (by omega) (by omega) (by omega) (by omega)).mono ?_
  rintro e3 wd3 ⟨pa3, pc3, rfl, hx⟩
  clear HX c3
  have HX := hide hx
  obtain ⟨c0, c1, c2, c3, c4, c5, c6, c7, c8, c9⟩ := box10 hx.box
  clear c0 c1 c2 c3 c5 c6 c7 c8 c9
  clear hx
  go_wp2_with fail
  refine (dput_any HX.out a4 2 (by omega) (by omega) (by omega) (by omega)).mono ?_
  rintro e4 wd4 ⟨pa4, pc4, rfl, hx⟩
  clear HX c4
  have HX := hide hx
  obtain ⟨c0, c1, c2, c3, c4, c5, c6, c7, c8, c9⟩ := box10 hx.box
  clear c0 c1 c2 c3 c4 c6 c7 c8 c9
  clear hx
  go_wp2_with fail
  refine (dput_any HX.out a5 4 (by omega) (by omega) (by omega) (by omega)).mono ?_
  rintro e5 wd5 ⟨pa5, pc5, rfl, hx⟩
  clear HX c5
  have HX := hide hx
  obtain ⟨c0, c1, c2, c3, c4, c5, c6, c7, c8, c9⟩ := box10 hx.box
  clear c0 c1 c2 c3 c4 c5 c7 c8 c9
  clear hx
  go_wp2_with fail
  refine (dput_any HX.out a6 4 (by omega) (by omega) (by omega) (by omega)).mono ?_
  rintro e6 wd6 ⟨pa6, pc6, rfl, hx⟩
  clear HX c6
  have HX := hide hx
  obtain ⟨c0, c1, c2, c3, c4, c5, c6, c7, c8, c9⟩ := box10 hx.box
  clear c0 c1 c2 c3 c4 c5 c6 c8 c9
  clear hx
  go_wp2_with fail
  refine (dput_any HX.out a7 4 (by omega) (by omega) (by omega) (by omega)).mono ?_
  rintro e7 wd7 ⟨pa7, pc7, rfl, hx⟩
  clear HX c7
  have HX := hide hx
  clear hx
  go_wp2
  go_ret
  refine ⟨_, _, rfl, ?_⟩
  have hf := HX.out
  rw [← HWB.out] at hf
  have hf2 := H.out.outer hf
  rw [HS.out]
  simpa only [List.append_assoc] using hf2

end Go.Proofs.Ytjmjjjpanioifaa

