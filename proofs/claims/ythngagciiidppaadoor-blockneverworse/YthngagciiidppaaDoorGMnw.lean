import Derived.Test.YthngagciiidppaaDoorGMs6
import Derived.Test.YthngagciiidppaaDoorGA37
import Derived.Test.YthngagciiidppaaDoorGA05
import Derived.Test.YthngagciiidppaaDoorGA02
namespace Go.Proofs.YthngagciiidppaaDoor
open Go.RowKit Go.Maps
set_option maxRecDepth 20000
set_option linter.unusedVariables false

set_option maxHeartbeats 8000000 in
theorem neverWorse_walk (v : Value) (R : List Tk) (a : Int) (w : World) (h : SK w v R) (hb : ∀ t ∈ R, Bt t) (hn : R.length ≤ 5864062014800) (ha0 : -9223372036854775808 ≤ a) (ha1 : a ≤ 9223372036854775807) (T : Ltab w ∧ Dtab w) (TH : Tab w) (O : Odr w) :
    Calls Tryd.prog 3 #[v, .int .i64 a] w fun e w' => e = .returned (.bool true) ∧ Below w.heap.size w w' := by
  have HS := hide h
  have HBT := hide hb
  have HLS := hide (lsound_any v R w h hn)
  have HTT := hide (And.intro T (And.intro TH O))
  obtain ⟨ao, cap, rfl, hlc, hcm⟩ := h.open
  clear h hb T TH O
  obtain ⟨N, HN⟩ : ∃ N, Hid (N = (if asnd R then lsay R else 0)) := ⟨_, rfl⟩
  go_enter Tryd.func3, Tryd.ntmps3
  go_wp2_with fail
  refine HLS.out.mono ?_
  rintro e w1 ⟨⟨near, rfl⟩, b1⟩
  rw [← HN.out]
  have HB1 := hide b1
  have HLI := hide (list_any _ R w1 (HS.out.below b1) (by omega))
  clear b1 HLS
  go_wp2_with fail
  refine HLI.out.mono ?_
  rintro e w2 ⟨u2, rfl, o2, b2⟩
  obtain ⟨la, lc, hu2, _, _⟩ := o2.shape
  subst hu2
  have HB2 := hide (HB1.out.trans (b2.mono HB1.out.size))
  have HME := hide (measure_any _ R a w2 o2.sk HBT.out (by omega) ha0 ha1 ⟨HTT.out.1.1.low HB2.out, HTT.out.1.2.low HB2.out⟩ (HTT.out.2.1.mono HB2.out) (HTT.out.2.2.mono HB2.out))
  obtain ⟨S, HSS⟩ : ∃ z, Hid (z = mzS R a) := ⟨_, rfl⟩
  obtain ⟨X, HXX⟩ : ∃ z, Hid (z = mzF R a) := ⟨_, rfl⟩
  obtain ⟨Y, HYY⟩ : ∃ z, Hid (z = mzD R a) := ⟨_, rfl⟩
  obtain ⟨E, HEE⟩ : ∃ z, Hid (z = mzE R a) := ⟨_, rfl⟩
  rw [← HSS.out, ← HXX.out, ← HYY.out, ← HEE.out] at HME
  clear o2 b2 HLI HB1
  go_wp2_with fail
  refine HME.out.mono ?_
  rintro e w3 ⟨rfl, b3⟩
  have HB3 := hide (HB2.out.trans (b3.mono HB2.out.size))
  obtain ⟨w4, hw4⟩ : ∃ w4, w3.alloc (.cells #[.int .i64 S, .int .i64 X, .int .i64 Y] 26) = w4 := ⟨_, rfl⟩
  have HB4 : Hid (Below w.heap.size w w4) := by show Below _ _ _; rw [← hw4]; exact HB3.out.alloc HB3.out.size _
  have h34 : w3.heap.size < w4.heap.size := by rw [← hw4]; simp
  have c0 : w4.cell? ⟨w3.heap.size, 0, none⟩ = some (.int .i64 S) := by rw [← hw4]; unfold World.cell?; simp only [heap_alloc_new]; rfl
  have c1 : w4.cell? ⟨w3.heap.size, 1, none⟩ = some (.int .i64 X) := by rw [← hw4]; unfold World.cell?; simp only [heap_alloc_new]; rfl
  have c2 : w4.cell? ⟨w3.heap.size, 2, none⟩ = some (.int .i64 Y) := by rw [← hw4]; unfold World.cell?; simp only [heap_alloc_new]; rfl
  have HNU : Hid (∀ (wx : World) (x : Int), Calls Tryd.prog 7 #[.int .i64 x] wx fun e w' => e = .returned (.int .i64 x) ∧ w' = wx) := fun wx x => bnum_any wx x
  clear b3 HME HB2 HB3
  by_cases hneg : a < 0
  · have hE : E = 1 := by rw [HEE.out]; unfold mzE; rw [if_pos hneg]
    subst hE
    go_wp2_with fail
    refine (HNU.out _ _).mono ?_
    rintro e w5 ⟨rfl, hw5⟩
    rw [hw5]
    clear hw5
    go_wp2
    go_ret
    exact ⟨rfl, HB4.out⟩
  have hEs : E = sdE R := by rw [HEE.out]; unfold mzE; rw [if_neg hneg]
  by_cases hs : asnd R = true
  case neg =>
    have hs' : asnd R = false := by simpa using hs
    have hE : E = 100 := by rw [hEs]; unfold sdE; rw [hs']; rfl
    rw [hs']
    clear hEs
    subst hE
    go_wp2_with fail
    refine (HNU.out _ _).mono ?_
    rintro e w5 ⟨rfl, hw5⟩
    rw [hw5]
    clear hw5
    go_wp2
    go_ret
    exact ⟨rfl, HB4.out⟩
  rw [hs]
  have hNe : N = lsay R := by rw [HN.out, if_pos hs]
  have hin := lsay_in R hs
  rw [← hNe] at hin
  have hN0 : 0 ≤ N := hin.1
  have hN1 : N ≤ 1512928000000000 := by have := hin.2; omega
  clear hin
  by_cases hbig : 65535 < N
  · have hE : E = 102 := by rw [hEs]; unfold sdE; rw [if_pos hs, if_pos (by rw [← hNe]; exact hbig)]
    clear hEs hNe
    subst hE
    go_wp2_with fail
    refine (HNU.out _ _).mono ?_
    rintro e w5 ⟨rfl, hw5⟩
    rw [hw5]
    clear hw5
    go_wp2
    go_ret
    exact ⟨rfl, HB4.out⟩
  have hE : E = 0 := by rw [hEs]; unfold sdE; rw [if_pos hs, if_neg (by rw [← hNe]; exact hbig)]
  have hSv : S = stz N a := by rw [HSS.out]; unfold mzS; rw [← HEE.out, if_pos hE, hNe]
  obtain ⟨z1, z2, z3, z4⟩ := stz_facts N a
  rw [← hSv] at z1 z2 z3 z4
  clear hEs hNe hSv HEE
  subst hE
  obtain ⟨k, HK⟩ : ∃ k, Hid (k = chz S X Y) := ⟨_, rfl⟩
  have HCH := hide (choose_any S X Y w4)
  rw [← HK.out] at HCH
  obtain ⟨l1, l2⟩ := chz_least (a := S) (b := X) (c := Y)
  rw [← HK.out] at l1 l2
  have l3 := (l2 0 (by omega)).1
  obtain ⟨M, HM⟩ : ∃ M, Hid (M = s3 S X Y k) := ⟨_, rfl⟩
  rw [← HM.out] at l3
  have l4 : ¬ S < M := l3
  have l5 : M ≤ S := by omega
  clear l2 l3
  obtain ⟨r, hr⟩ : ∃ r, a % 8 = r := ⟨_, rfl⟩
  have hr0 : 0 ≤ r := by omega
  have hr1 : r < 8 := by omega
  rw [hr] at z3 z4
  have g1 : a.tmod 8 = r := by rw [Int.tmod_eq_emod_of_nonneg (by omega)]; exact hr
  have g2 : (r + S).tmod 8 = 0 := by rw [Int.tmod_eq_emod_of_nonneg (by omega)]; exact z3
  have HZ4 := hide z4
  have HR := hide hr
  clear z3 z4 hr
  have k0 : ¬ (k : Int) < 0 := by omega
  have k2 : ¬ (2 : Int) < (k : Int) := by omega
  have t1 : ¬ S < 35 + 8 * N := by omega
  have t2 : ¬ 42 + 8 * N < S := by omega
  have k0d : decide ((k : Int) < 0) = false := decide_eq_false k0
  have k2d : decide ((2 : Int) < (k : Int)) = false := decide_eq_false k2
  have t1d : decide (S < 35 + 8 * N) = false := decide_eq_false t1
  have t2d : decide (42 + 8 * N < S) = false := decide_eq_false t2
  go_wp2_with fail
  refine HCH.out.mono ?_
  rintro e w5 ⟨rfl, b5⟩
  have HB5 := hide (HB4.out.trans (b5.mono HB4.out.size))
  have d0 : w5.cell? ⟨w3.heap.size, 0, none⟩ = some (.int .i64 S) := (b5.cell h34).trans c0
  have d1 : w5.cell? ⟨w3.heap.size, 1, none⟩ = some (.int .i64 X) := (b5.cell h34).trans c1
  have d2 : w5.cell? ⟨w3.heap.size, 2, none⟩ = some (.int .i64 Y) := (b5.cell h34).trans c2
  have h35 : w3.heap.size < w5.heap.size := Nat.lt_of_lt_of_le h34 b5.size
  clear b5 HCH c0 c1 c2 hw4 h34 HB4
  obtain ⟨g3, hg3⟩ : ∃ g, w3.heap.size = g := ⟨_, rfl⟩
  rw [hg3] at d0 d1 d2 h35 ⊢
  clear hg3
  obtain ⟨w6, hw6⟩ : ∃ w6, w5.alloc (.cells #[.int .i64 S, .int .i64 X, .int .i64 Y] 3) = w6 := ⟨_, rfl⟩
  have b6 : Below w5.heap.size w5 w6 := by rw [← hw6]; exact (Below.refl _ _).alloc (Nat.le_refl _) _
  have HB6 := hide (HB5.out.trans (b6.mono HB5.out.size))
  have x0 : w6.cell? ⟨g3, 0, none⟩ = some (.int .i64 S) := (b6.cell h35).trans d0
  have xk : w6.cell? ⟨w5.heap.size, k, none⟩ = some (.int .i64 M) := by
    rw [HM.out]
    have hk : k = 0 ∨ k = 1 ∨ k = 2 := by omega
    rcases hk with e | e | e <;> (rw [e, ← hw6]; unfold World.cell?; simp only [heap_alloc_new]; rfl)
  have hk3 : (k : Int) < 3 := by omega
  clear b6
  by_cases h8 : r = 0
  · have hM : M ≤ 40 + 8 * N := by have := HZ4.out h8; omega
    have hMd : decide (M ≤ 40 + 8 * N) = true := decide_eq_true hM
    have h8' : (r != 0) = false := by simp [h8]
    clear h8
    have l5d : decide (M ≤ S) = true := decide_eq_true l5
    go_wp2
    go_quiet (fail)
    go_wp2
    go_ret
    exact ⟨rfl, below_drewN HB6.out _⟩
  · have h8' : (r != 0) = true := by simpa using h8
    have l5d : decide (M ≤ S) = true := decide_eq_true l5
    go_wp2
    go_quiet (fail)
    go_wp2
    go_ret
    exact ⟨rfl, below_drewN HB6.out _⟩
end Go.Proofs.YthngagciiidppaaDoor

