import Derived.Test.YtjjepgkcgbbmhaaDoorGTmn
import Derived.Deep.DeepCutAuto
import Derived.Deep.RegionHeld3
import Derived.Deep.RegionLaw
namespace Go.Proofs.YtjjepgkcgbbmhaaDoor
open Go.RowKit
set_option maxRecDepth 20000
set_option linter.unusedVariables false
set_option linter.unusedSimpArgs false

/-- Both boxes stand, and nothing below was touched. -/
structure Tb (w : World) (g h : Nat) (x y : Array Value) (W : World) : Prop where
  bel : Below w.heap.size w W
  a : W.heap[g]? = some (.cells x 23 (0, 0))
  b : W.heap[h]? = some (.cells y 23 (0, 0))

theorem Tb.low {w : World} {g h : Nat} {x y : Array Value} {W W' : World} (k : Tb w g h x y W) (hb : Below W.heap.size W W') : Tb w g h x y W' :=
  ⟨k.bel.trans (hb.mono k.bel.size), (hb.block _ (Array.getElem?_eq_some_iff.1 k.a).1).trans k.a, (hb.block _ (Array.getElem?_eq_some_iff.1 k.b).1).trans k.b⟩

theorem Tb.drew {w : World} {g h : Nat} {x y : Array Value} {W : World} (k : Tb w g h x y W) : Tb w g h x y W.drew := ⟨k.bel.drew, k.a, k.b⟩

theorem Tb.alloc {w : World} {g h : Nat} {x y : Array Value} {W : World} (k : Tb w g h x y W) (o : Obj) : Tb w g h x y (W.alloc o) := k.low ((Below.refl _ _).alloc (Nat.le_refl _) _)

set_option maxHeartbeats 4000000 in
theorem times_no (a b : Stp) (w : World) (T : Mtab w) (HH : Hid (¬ May a ∧ b = b)) : Calls Tryd.prog 3 #[a.v, b.v] w fun e w' => e = .returned (.bool true) ∧ Below w.heap.size w w' := by
  have HT := hide T
  obtain ⟨av, hav⟩ : ∃ x, x = a := ⟨_, rfl⟩
  obtain ⟨bv, hbv⟩ : ∃ x, x = b := ⟨_, rfl⟩
  obtain ⟨a0, a1, a2, a3, a4, a5⟩ := a
  obtain ⟨b0, b1, b2, b3, b4, b5⟩ := b
  have HVA : Hid (av.v = .agg #[.int .i64 a0, .int .i64 a1, .int .i64 a2, .int .i64 a3, .int .i64 a4, .int .i64 a5]) := by rw [hav]; rfl
  have HVB : Hid (bv.v = .agg #[.int .i64 b0, .int .i64 b1, .int .i64 b2, .int .i64 b3, .int .i64 b4, .int .i64 b5]) := by rw [hbv]; rfl
  rw [← hav] at HH
  rw [← hbv] at HH
  simp only [Stp.v, Stp.cs]
  obtain ⟨w1, hw1⟩ : ∃ x, w.alloc (.cells #[.int .i64 a0, .int .i64 a1, .int .i64 a2, .int .i64 a3, .int .i64 a4, .int .i64 a5] 23) = x := ⟨_, rfl⟩
  have s1 : w1.heap.size = w.heap.size + 1 := by rw [← hw1]; exact size_alloc' _ _
  obtain ⟨w2, hw2⟩ : ∃ x, w1.alloc (.cells #[.int .i64 b0, .int .i64 b1, .int .i64 b2, .int .i64 b3, .int .i64 b4, .int .i64 b5] 23) = x := ⟨_, rfl⟩
  obtain ⟨g, hg⟩ : ∃ g, w1.heap.size = g := ⟨_, rfl⟩
  have n1 : w1.heap[w.heap.size]? = some (.cells #[.int .i64 a0, .int .i64 a1, .int .i64 a2, .int .i64 a3, .int .i64 a4, .int .i64 a5] 23 (0, 0)) := by rw [← hw1]; exact heap_alloc_new _ _
  have HB2 : Hid (Tb w w.heap.size g #[.int .i64 a0, .int .i64 a1, .int .i64 a2, .int .i64 a3, .int .i64 a4, .int .i64 a5] #[.int .i64 b0, .int .i64 b1, .int .i64 b2, .int .i64 b3, .int .i64 b4, .int .i64 b5] w2) := by
    refine ⟨?_, ?_, ?_⟩
    · rw [← hw2, ← hw1]; exact ((Below.refl _ _).alloc (Nat.le_refl _) _).alloc (by rw [size_alloc']; omega) _
    · rw [← hw2]; exact (Below.heap_alloc _ _ _ (by omega)).trans n1
    · rw [← hw2, ← hg]; exact heap_alloc_new _ _
  clear n1 s1 T hav hbv
  go_enter Tryd.func3, Tryd.ntmps3
  go_wp2_with fail
  clear hw1 hw2
  have HF1 := hide (pack_any ⟨1980, 1, 1, 0, 0, 0⟩ w2 (HT.out.low HB2.out.bel))
  rw [pk_first.1, pk_first.2.1, pk_first.2.2] at HF1
  simp only [Stp.v, Stp.cs] at HF1
  refine HF1.out.mono ?_
  rintro e w3 ⟨rfl, hb3⟩
  have HB3 := hide (HB2.out.low hb3)
  clear hb3 HB2 HF1
  have HF2 := hide (pack_any ⟨2107, 12, 31, 23, 59, 59⟩ w3 (HT.out.low HB3.out.bel))
  rw [pk_last.1, pk_last.2.1, pk_last.2.2] at HF2
  simp only [Stp.v, Stp.cs] at HF2
  go_wp2_with fail
  refine HF2.out.mono ?_
  rintro e w4 ⟨rfl, hb4⟩
  have HB4 := hide (HB3.out.low hb4)
  clear hb4 HB3 HF2
  obtain ⟨c0, c1, c2, c3, c4, c5⟩ := box6 HB4.out.a
  go_wp2_with fail
  rw [← HVA.out]
  refine (pack_any av w4 (HT.out.low HB4.out.bel)).mono ?_
  rintro e w5 ⟨rfl, hb5⟩
  have HB5 := hide (HB4.out.low hb5)
  clear hb5 HB4 c0 c1 c2 c3 c4 c5
  obtain ⟨p1, p2, p3⟩ := pk_no HH.out.1
  rw [p1, p2, p3]
  go_wp2
  go_ret
  exact ⟨rfl, HB5.out.bel⟩

set_option maxHeartbeats 8000000 in
theorem times_yes (a b : Stp) (w : World) (T : Mtab w) (HH : Hid (May a ∧ b = b)) : Calls Tryd.prog 3 #[a.v, b.v] w fun e w' => e = .returned (.bool true) ∧ Below w.heap.size w w' := by
  have HT := hide T
  obtain ⟨av, hav⟩ : ∃ x, x = a := ⟨_, rfl⟩
  obtain ⟨bv, hbv⟩ : ∃ x, x = b := ⟨_, rfl⟩
  obtain ⟨a0, a1, a2, a3, a4, a5⟩ := a
  obtain ⟨b0, b1, b2, b3, b4, b5⟩ := b
  have HVA : Hid (av.v = .agg #[.int .i64 a0, .int .i64 a1, .int .i64 a2, .int .i64 a3, .int .i64 a4, .int .i64 a5]) := by rw [hav]; rfl
  have HVB : Hid (bv.v = .agg #[.int .i64 b0, .int .i64 b1, .int .i64 b2, .int .i64 b3, .int .i64 b4, .int .i64 b5]) := by rw [hbv]; rfl
  obtain ⟨f, hf⟩ : ∃ f, f = a5 / 2 * 2 := ⟨_, rfl⟩
  have HVE : Hid ((evn av).v = .agg #[.int .i64 a0, .int .i64 a1, .int .i64 a2, .int .i64 a3, .int .i64 a4, .int .i64 f]) := by show _ = _; rw [hav, hf]; rfl
  clear hf
  rw [← hav] at HH
  rw [← hbv] at HH
  simp only [Stp.v, Stp.cs]
  obtain ⟨w1, hw1⟩ : ∃ x, w.alloc (.cells #[.int .i64 a0, .int .i64 a1, .int .i64 a2, .int .i64 a3, .int .i64 a4, .int .i64 a5] 23) = x := ⟨_, rfl⟩
  have s1 : w1.heap.size = w.heap.size + 1 := by rw [← hw1]; exact size_alloc' _ _
  obtain ⟨w2, hw2⟩ : ∃ x, w1.alloc (.cells #[.int .i64 b0, .int .i64 b1, .int .i64 b2, .int .i64 b3, .int .i64 b4, .int .i64 b5] 23) = x := ⟨_, rfl⟩
  obtain ⟨g, hg⟩ : ∃ g, w1.heap.size = g := ⟨_, rfl⟩
  have n1 : w1.heap[w.heap.size]? = some (.cells #[.int .i64 a0, .int .i64 a1, .int .i64 a2, .int .i64 a3, .int .i64 a4, .int .i64 a5] 23 (0, 0)) := by rw [← hw1]; exact heap_alloc_new _ _
  have HB2 : Hid (Tb w w.heap.size g #[.int .i64 a0, .int .i64 a1, .int .i64 a2, .int .i64 a3, .int .i64 a4, .int .i64 a5] #[.int .i64 b0, .int .i64 b1, .int .i64 b2, .int .i64 b3, .int .i64 b4, .int .i64 b5] w2) := by
    refine ⟨?_, ?_, ?_⟩
    · rw [← hw2, ← hw1]; exact ((Below.refl _ _).alloc (Nat.le_refl _) _).alloc (by rw [size_alloc']; omega) _
    · rw [← hw2]; exact (Below.heap_alloc _ _ _ (by omega)).trans n1
    · rw [← hw2, ← hg]; exact heap_alloc_new _ _
  clear n1 s1 T hav hbv
  go_enter Tryd.func3, Tryd.ntmps3
  go_wp2_with fail
  clear hw1 hw2
  have HF1 := hide (pack_any ⟨1980, 1, 1, 0, 0, 0⟩ w2 (HT.out.low HB2.out.bel))
  rw [pk_first.1, pk_first.2.1, pk_first.2.2] at HF1
  simp only [Stp.v, Stp.cs] at HF1
  refine HF1.out.mono ?_
  rintro e w3 ⟨rfl, hb3⟩
  have HB3 := hide (HB2.out.low hb3)
  clear hb3 HB2 HF1
  have HF2 := hide (pack_any ⟨2107, 12, 31, 23, 59, 59⟩ w3 (HT.out.low HB3.out.bel))
  rw [pk_last.1, pk_last.2.1, pk_last.2.2] at HF2
  simp only [Stp.v, Stp.cs] at HF2
  go_wp2_with fail
  refine HF2.out.mono ?_
  rintro e w4 ⟨rfl, hb4⟩
  have HB4 := hide (HB3.out.low hb4)
  clear hb4 HB3 HF2
  obtain ⟨c0, c1, c2, c3, c4, c5⟩ := box6 HB4.out.a
  go_wp2_with fail
  rw [← HVA.out]
  refine (pack_any av w4 (HT.out.low HB4.out.bel)).mono ?_
  rintro e w5 ⟨rfl, hb5⟩
  have HB5 := hide (HB4.out.low hb5)
  clear hb5 HB4 c0 c1 c2 c3 c4 c5
  have HMA := HH.out.1
  have HRA := hide HMA.rng
  obtain ⟨p1, p2, p3⟩ := pk_yes HMA
  obtain ⟨k1, k2, k3, k4⟩ := pk_bound av
  obtain ⟨D, hD⟩ : ∃ x, x = pkD av := ⟨_, rfl⟩
  obtain ⟨C, hC⟩ : ∃ x, x = pkC av := ⟨_, rfl⟩
  have HU := hide (u_pk HMA)
  rw [← hD, ← hC] at HU
  rw [← hD] at k1 k2
  rw [← hC] at k3 k4
  rw [p1, ← hD, ← hC]
  have HDC : Hid (D = pkD av ∧ C = pkC av) := ⟨hD, hC⟩
  clear p1 p2 p3 hD hC HMA
  have HUP := hide (unpack_any D C w5 (HT.out.low HB5.out.bel) (by omega) (by omega) (by omega) (by omega))
  rw [HU.out.1, HU.out.2, HVE.out] at HUP
  go_wp2_with fail
  refine HUP.out.mono ?_
  rintro e w6 ⟨rfl, hb6⟩
  have HB6 := hide (HB5.out.low hb6)
  clear hb6 HB5 HUP
  obtain ⟨w7, hw7⟩ : ∃ x, w6.alloc (.cells #[.int .i64 a0, .int .i64 a1, .int .i64 a2, .int .i64 a3, .int .i64 a4, .int .i64 f] 23) = x := ⟨_, rfl⟩
  have HB7 : Hid (Tb w w.heap.size g #[.int .i64 a0, .int .i64 a1, .int .i64 a2, .int .i64 a3, .int .i64 a4, .int .i64 a5] #[.int .i64 b0, .int .i64 b1, .int .i64 b2, .int .i64 b3, .int .i64 b4, .int .i64 b5] w7) := by rw [← hw7]; exact HB6.out.alloc _
  have HM7 : Hid (w7.heap[w6.heap.size]? = some (.cells #[.int .i64 a0, .int .i64 a1, .int .i64 a2, .int .i64 a3, .int .i64 a4, .int .i64 f] 23 (0, 0))) := by rw [← hw7]; exact heap_alloc_new _ _
  obtain ⟨c0, c1, c2, c3, c4, c5⟩ := box6 HB7.out.a
  obtain ⟨m0, m1, m2, m3, m4, m5⟩ := box6 HM7.out
  have HEV : Hid (Calls Tryd.prog 7 #[.agg #[.int .i64 a0, .int .i64 a1, .int .i64 a2, .int .i64 a3, .int .i64 a4, .int .i64 a5]] w7.drew fun e w' => e = .returned (.agg #[.int .i64 a0, .int .i64 a1, .int .i64 a2, .int .i64 a3, .int .i64 a4, .int .i64 f]) ∧ Below w7.heap.size w7 w') := by
    have h := even_any av w7.drew HRA.out.s0 HRA.out.s1
    rw [HVA.out, HVE.out] at h
    exact h.mono fun e w' ⟨he, hb⟩ => ⟨he, (Below.refl _ _).drew.trans hb⟩
  go_wp2
  go_cut [76] (fun s76 wx => s76 = .bool false ∧ Hid (Tb w w.heap.size g #[.int .i64 a0, .int .i64 a1, .int .i64 a2, .int .i64 a3, .int .i64 a4, .int .i64 a5] #[.int .i64 b0, .int .i64 b1, .int .i64 b2, .int .i64 b3, .int .i64 b4, .int .i64 b5] wx))
  case first =>
    go_region_with (go_at_call 7; with_reducible refine HEV.out.mono ?_; rintro e w8 ⟨rfl, hb8⟩; have HB8 := hide (HB7.out.low hb8); obtain ⟨y0, y1, y2, y3, y4, y5⟩ := box6 ((hb8.block _ (Array.getElem?_eq_some_iff.1 HM7.out).1).trans HM7.out); clear hb8)
    all_goals
      go_wp2_with fail
      go_meet
      exact ⟨by simp, HB8⟩
  case rest =>
  obtain ⟨rfl, HB8⟩ := hcut
  clear HB6 HB7 HM7 HEV c0 c1 c2 c3 c4 c5 m0 m1 m2 m3 m4 m5 hw7
  obtain ⟨d0, d1, d2, d3, d4, d5⟩ := box6 HB8.out.b
  go_wp2_with fail
  rw [← HVB.out]
  refine (pack_any bv wc (HT.out.low HB8.out.bel)).mono ?_
  rintro e w9 ⟨rfl, hb9⟩
  have HB9 := hide (HB8.out.low hb9)
  clear hb9 HB8 d0 d1 d2 d3 d4 d5
  by_cases hmb : May bv
  case neg =>
    obtain ⟨p1, p2, p3⟩ := pk_no hmb
    rw [p1, p2, p3]
    clear hmb p1 p2 p3
    go_wp2
    go_ret
    exact ⟨rfl, HB9.out.bel⟩
  case pos =>
  have HRB := hide hmb.rng
  have HLE : Hid (erl av bv 6 = true → nmb av ≤ nmb bv) := nmb_le HH.out.1 hmb
  have HLT : Hid (erl (evn av) (evn bv) 6 = true → nmb av < nmb bv) := nmb_lt HH.out.1 hmb
  obtain ⟨p1, -, -⟩ := pk_yes hmb
  obtain ⟨k5, k6, k7, k8⟩ := pk_bound bv
  obtain ⟨X, hX⟩ : ∃ x, x = pkD bv := ⟨_, rfl⟩
  obtain ⟨Y, hY⟩ : ∃ x, x = pkC bv := ⟨_, rfl⟩
  rw [← hX] at k5 k6
  rw [← hY] at k7 k8
  rw [p1, ← hX, ← hY]
  have HNA : Hid (nmb av = D * 65536 + C) := by show _ = _; unfold nmb; rw [HDC.out.1, HDC.out.2]
  have HNB : Hid (nmb bv = X * 65536 + Y) := by show _ = _; unfold nmb; rw [hX, hY]
  rw [HNA.out, HNB.out] at HLE HLT
  clear p1 hX hY hmb HNA HNB
  obtain ⟨h, hh⟩ : ∃ h, h = b5 / 2 * 2 := ⟨_, rfl⟩
  have HVF : Hid ((evn bv).v = .agg #[.int .i64 b0, .int .i64 b1, .int .i64 b2, .int .i64 b3, .int .i64 b4, .int .i64 h]) := by
    show _ = _
    have hb := HVB.out
    obtain ⟨q0, q1, q2, q3, q4, q5⟩ := bv
    simp only [Stp.v, Stp.cs, Value.agg.injEq, Array.mk.injEq, List.cons.injEq, Value.int.injEq, true_and, and_true] at hb
    obtain ⟨rfl, rfl, rfl, rfl, rfl, rfl⟩ := hb
    rw [hh]
    rfl
  clear hh
  have HER1 : Hid (Calls Tryd.prog 8 #[.agg #[.int .i64 a0, .int .i64 a1, .int .i64 a2, .int .i64 a3, .int .i64 a4, .int .i64 a5], .agg #[.int .i64 b0, .int .i64 b1, .int .i64 b2, .int .i64 b3, .int .i64 b4, .int .i64 b5]] w9 fun e w' => e = .returned (.bool (erl av bv 6)) ∧ Below w9.heap.size w9 w') := by
    have h := earlier_any av bv w9
    rw [HVA.out, HVB.out] at h
    exact h
  have HEA : Hid (∀ W, Calls Tryd.prog 7 #[.agg #[.int .i64 a0, .int .i64 a1, .int .i64 a2, .int .i64 a3, .int .i64 a4, .int .i64 a5]] W fun e w' => e = .returned (.agg #[.int .i64 a0, .int .i64 a1, .int .i64 a2, .int .i64 a3, .int .i64 a4, .int .i64 f]) ∧ Below W.heap.size W w') := fun W => by
    have h := even_any av W HRA.out.s0 HRA.out.s1
    rw [HVA.out, HVE.out] at h
    exact h
  have HEB : Hid (∀ W, Calls Tryd.prog 7 #[.agg #[.int .i64 b0, .int .i64 b1, .int .i64 b2, .int .i64 b3, .int .i64 b4, .int .i64 b5]] W fun e w' => e = .returned (.agg #[.int .i64 b0, .int .i64 b1, .int .i64 b2, .int .i64 b3, .int .i64 b4, .int .i64 h]) ∧ Below W.heap.size W w') := fun W => by
    have h := even_any bv W HRB.out.s0 HRB.out.s1
    rw [HVB.out, HVF.out] at h
    exact h
  obtain ⟨P, hP⟩ : ∃ P, P = erl av bv 6 := ⟨_, rfl⟩
  obtain ⟨Q, hQ⟩ : ∃ Q, Q = erl (evn av) (evn bv) 6 := ⟨_, rfl⟩
  rw [← hP] at HER1 HLE
  have HER2 : Hid (∀ W, Calls Tryd.prog 8 #[.agg #[.int .i64 a0, .int .i64 a1, .int .i64 a2, .int .i64 a3, .int .i64 a4, .int .i64 f], .agg #[.int .i64 b0, .int .i64 b1, .int .i64 b2, .int .i64 b3, .int .i64 b4, .int .i64 h]] W fun e w' => e = .returned (.bool Q) ∧ Below W.heap.size W w') := fun W => by
    have h := earlier_any (evn av) (evn bv) W
    rw [HVE.out, HVF.out, ← hQ] at h
    exact h
  rw [← hQ] at HLT
  clear hP hQ
  obtain ⟨c0, c1, c2, c3, c4, c5⟩ := box6 HB9.out.a
  obtain ⟨d0, d1, d2, d3, d4, d5⟩ := box6 HB9.out.b
  have hle : P = true → ¬ X * 65536 + Y < D * 65536 + C := fun h => by have := HLE.out h; omega
  go_wp2_with fail
  refine HER1.out.mono ?_
  rintro e w10 ⟨rfl, hb10⟩
  have HB10 := hide (HB9.out.low hb10)
  clear hb10 HB9 HER1 c0 c1 c2 c3 c4 c5 d0 d1 d2 d3 d4 d5
  have HB10d := hide HB10.out.drew
  obtain ⟨c0, c1, c2, c3, c4, c5⟩ := box6 HB10.out.a
  obtain ⟨d0, d1, d2, d3, d4, d5⟩ := box6 HB10.out.b
  have FIN : Hid (Q = true → D * 65536 + C < X * 65536 + Y) := HLT.out
  have HS10 := hide (And.intro (box6 HB10.out.a) (box6 HB10.out.b))
  cases P with
  | true =>
    have hle' := hle rfl
    have hdl : decide (X * 65536 + Y < D * 65536 + C) = false := by first | exact decide_eq_false hle' | exact decide_eq_false (Int.not_lt.2 hle')
    clear hle
    cases Q with
    | true =>
      have hlt' := FIN.out rfl
      have hdq : decide (D * 65536 + C < X * 65536 + Y) = true := decide_eq_true hlt'
      go_wp2
      go_region_held3 (fun W => (W.cell? ⟨w.heap.size, 0, none⟩ = some (.int .i64 a0) ∧ W.cell? ⟨w.heap.size, 1, none⟩ = some (.int .i64 a1) ∧ W.cell? ⟨w.heap.size, 2, none⟩ = some (.int .i64 a2) ∧ W.cell? ⟨w.heap.size, 3, none⟩ = some (.int .i64 a3) ∧ W.cell? ⟨w.heap.size, 4, none⟩ = some (.int .i64 a4) ∧ W.cell? ⟨w.heap.size, 5, none⟩ = some (.int .i64 a5)) ∧ (W.cell? ⟨g, 0, none⟩ = some (.int .i64 b0) ∧ W.cell? ⟨g, 1, none⟩ = some (.int .i64 b1) ∧ W.cell? ⟨g, 2, none⟩ = some (.int .i64 b2) ∧ W.cell? ⟨g, 3, none⟩ = some (.int .i64 b3) ∧ W.cell? ⟨g, 4, none⟩ = some (.int .i64 b4) ∧ W.cell? ⟨g, 5, none⟩ = some (.int .i64 b5))) (first | exact HS10.out | exact HS1.out | exact HS2.out | exact HS3.out)
        (first
          | (go_at_call 7; with_reducible refine (HEA.out _).mono ?_; rintro e u1 ⟨rfl, hu1⟩; have HU1 := hide (HB10d.out.low hu1); have HS1 := hide (And.intro (box6 HU1.out.a) (box6 HU1.out.b)); clear hu1)
          | (go_at_call 7; with_reducible refine (HEB.out _).mono ?_; rintro e u2 ⟨rfl, hu2⟩; have HU2 := hide (HU1.out.low hu2); have HS2 := hide (And.intro (box6 HU2.out.a) (box6 HU2.out.b)); clear hu2)
          | (go_at_call 8; with_reducible refine (HER2.out _).mono ?_; rintro e u3 ⟨rfl, hu3⟩; have HU3 := hide (HU2.out.low hu3); have HS3 := hide (And.intro (box6 HU3.out.a) (box6 HU3.out.b)); clear hu3))
      go_wp2
      go_ret
      refine ⟨?_, HU3.out.bel⟩
      have z1 : IntKind.i64.wrap (D * 65536) = D * 65536 := by rw [IntKind.wrap_i64]; omega
      have z2 : IntKind.i64.wrap (D * 65536 + C) = D * 65536 + C := by rw [IntKind.wrap_i64]; omega
      have z3 : IntKind.i64.wrap (X * 65536) = X * 65536 := by rw [IntKind.wrap_i64]; omega
      have z4 : IntKind.i64.wrap (X * 65536 + Y) = X * 65536 + Y := by rw [IntKind.wrap_i64]; omega
      have hF : D * 65536 + C < X * 65536 + Y := by first | exact FIN.out rfl | exact FIN.out trivial | exact FIN.out
      rw [z1, z3, z2, z4]
      first
        | (rw [decide_eq_true hF]; rfl)
        | simpa using hF
    | false =>
      go_wp2
      refine wp_region_held_drew (S := (fun W => (W.cell? ⟨w.heap.size, 0, none⟩ = some (.int .i64 a0) ∧ W.cell? ⟨w.heap.size, 1, none⟩ = some (.int .i64 a1) ∧ W.cell? ⟨w.heap.size, 2, none⟩ = some (.int .i64 a2) ∧ W.cell? ⟨w.heap.size, 3, none⟩ = some (.int .i64 a3) ∧ W.cell? ⟨w.heap.size, 4, none⟩ = some (.int .i64 a4) ∧ W.cell? ⟨w.heap.size, 5, none⟩ = some (.int .i64 a5)) ∧ (W.cell? ⟨g, 0, none⟩ = some (.int .i64 b0) ∧ W.cell? ⟨g, 1, none⟩ = some (.int .i64 b1) ∧ W.cell? ⟨g, 2, none⟩ = some (.int .i64 b2) ∧ W.cell? ⟨g, 3, none⟩ = some (.int .i64 b3) ∧ W.cell? ⟨g, 4, none⟩ = some (.int .i64 b4) ∧ W.cell? ⟨g, 5, none⟩ = some (.int .i64 b5)))) (by kernel_rfl) HS10.out (fun hHeld => ?_)
      refine wpAnyH_take (i := 0) (v := Value.agg #[.int .i64 a0, .int .i64 a1, .int .i64 a2, .int .i64 a3, .int .i64 a4, .int .i64 a5]) rfl (by kernel_rfl) (by kernel_rfl) (by kernel_rfl) (fun _ _ _ h => h) (Or.inl ⟨by rfl, ?_⟩) hHeld ?_
      · intro W hSw
        obtain ⟨⟨e0, e1, e2, e3, e4, e5⟩, f0, f1, f2, f3, f4, f5⟩ := hSw
        go_simp
      show wpAnyH _ _ _ _ _ _ _ (Act.put _ (some 109) _) _
      simp only [Act.put, List.setIfInBounds_toArray, List.set_cons_zero, List.set_cons_succ]
      refine wpAnyH_take (i := 2) (v := Value.agg #[.int .i64 b0, .int .i64 b1, .int .i64 b2, .int .i64 b3, .int .i64 b4, .int .i64 b5]) rfl (by kernel_rfl) (by kernel_rfl) (by kernel_rfl) (fun _ _ _ h => h) (Or.inl ⟨by rfl, ?_⟩) hHeld ?_
      · intro W hSw
        obtain ⟨⟨e0, e1, e2, e3, e4, e5⟩, f0, f1, f2, f3, f4, f5⟩ := hSw
        go_simp
      show wpAnyH _ _ _ _ _ _ _ (Act.put _ (some 111) _) _
      simp only [Act.put, List.setIfInBounds_toArray, List.set_cons_zero, List.set_cons_succ]
      refine wpAnyH_ready (rs := [1]) (by kernel_rfl) (by simp) ?_
      refine AllReadyH.cons rfl (fun K hK => ?_) AllReadyH.nil
      go_simp
      (go_at_call 7; with_reducible refine (HEA.out _).mono ?_; rintro e u1 ⟨rfl, hu1⟩; have HU1 := hide (HB10d.out.low hu1); have HS1 := hide (And.intro (box6 HU1.out.a) (box6 HU1.out.b)); clear hu1)
      refine hK.out _ _ HS1.out (fun hHeld2 => ?_)
      clear hK K hHeld
      have hHeld := hHeld2
      clear hHeld2
      try simp only [Act.put, List.setIfInBounds_toArray, List.set_cons_zero, List.set_cons_succ]
      refine wpAnyH_ready (rs := [3]) (by kernel_rfl) (by simp) ?_
      refine AllReadyH.cons rfl (fun K hK => ?_) AllReadyH.nil
      go_simp
      (go_at_call 7; with_reducible refine (HEB.out _).mono ?_; rintro e u2 ⟨rfl, hu2⟩; have HU2 := hide (HU1.out.low hu2); have HS2 := hide (And.intro (box6 HU2.out.a) (box6 HU2.out.b)); clear hu2)
      refine hK.out _ _ HS2.out (fun hHeld2 => ?_)
      clear hK K hHeld
      have hHeld := hHeld2
      clear hHeld2
      try simp only [Act.put, List.setIfInBounds_toArray, List.set_cons_zero, List.set_cons_succ]
      refine wpAnyH_ready (rs := [4]) (by kernel_rfl) (by simp) ?_
      refine AllReadyH.cons rfl (fun K hK => ?_) AllReadyH.nil
      go_simp
      (go_at_call 8; with_reducible refine (HER2.out _).mono ?_; rintro e u3 ⟨rfl, hu3⟩; have HU3 := hide (HU2.out.low hu3); have HS3 := hide (And.intro (box6 HU3.out.a) (box6 HU3.out.b)); clear hu3)
      refine hK.out _ _ HS3.out (fun hHeld2 => ?_)
      clear hK K hHeld
      have hHeld := hHeld2
      clear hHeld2
      try simp only [Act.put, List.setIfInBounds_toArray, List.set_cons_zero, List.set_cons_succ]
      refine wpAnyH_take (i := 5) (v := .bool true) rfl (by kernel_rfl) (by kernel_rfl) (by kernel_rfl) (fun _ _ _ h => h) (Or.inl ⟨by rfl, ?_⟩) hHeld ?_
      · intro W hSw
        go_simp
      show wpAnyH _ _ _ _ _ _ _ (Act.put _ (some 114) _) _
      simp only [Act.put, List.setIfInBounds_toArray, List.set_cons_zero, List.set_cons_succ]
      refine wpAnyH_take (i := 6) (v := .bool true) rfl (by kernel_rfl) (by kernel_rfl) (by kernel_rfl) (fun _ _ _ h => h) (Or.inl ⟨by rfl, ?_⟩) hHeld ?_
      · intro W hSw
        go_simp
      show wpAnyH _ _ _ _ _ _ _ (Act.put _ (some 115) _) _
      simp only [Act.put, List.setIfInBounds_toArray, List.set_cons_zero, List.set_cons_succ]
      refine wpAnyH_take (i := 7) (v := undef) rfl (by kernel_rfl) (by kernel_rfl) (by kernel_rfl) (fun _ _ _ h => h) (Or.inr ⟨by kernel_rfl, rfl⟩) hHeld ?_
      show wpAnyH _ _ _ _ _ _ _ (Act.put _ (some 116) _) _
      simp only [Act.put, List.setIfInBounds_toArray, List.set_cons_zero, List.set_cons_succ]
      refine wpAnyH_take (i := 8) (v := undef) rfl (by kernel_rfl) (by kernel_rfl) (by kernel_rfl) (fun _ _ _ h => h) (Or.inr ⟨by kernel_rfl, rfl⟩) hHeld ?_
      show wpAnyH _ _ _ _ _ _ _ (Act.put _ (some 117) _) _
      simp only [Act.put, List.setIfInBounds_toArray, List.set_cons_zero, List.set_cons_succ]
      refine wpAnyH_take (i := 9) (v := undef) rfl (by kernel_rfl) (by kernel_rfl) (by kernel_rfl) (fun _ _ _ h => h) (Or.inr ⟨by kernel_rfl, rfl⟩) hHeld ?_
      show wpAnyH _ _ _ _ _ _ _ (Act.put _ (some 118) _) _
      simp only [Act.put, List.setIfInBounds_toArray, List.set_cons_zero, List.set_cons_succ]
      refine wpAnyH_take (i := 10) (v := undef) rfl (by kernel_rfl) (by kernel_rfl) (by kernel_rfl) (fun _ _ _ h => h) (Or.inr ⟨by kernel_rfl, rfl⟩) hHeld ?_
      show wpAnyH _ _ _ _ _ _ _ (Act.put _ (some 119) _) _
      simp only [Act.put, List.setIfInBounds_toArray, List.set_cons_zero, List.set_cons_succ]
      refine wpAnyH_take (i := 11) (v := undef) rfl (by kernel_rfl) (by kernel_rfl) (by kernel_rfl) (fun _ _ _ h => h) (Or.inr ⟨by kernel_rfl, rfl⟩) hHeld ?_
      show wpAnyH _ _ _ _ _ _ _ (Act.put _ (some 120) _) _
      simp only [Act.put, List.setIfInBounds_toArray, List.set_cons_zero, List.set_cons_succ]
      refine wpAnyH_take (i := 12) (v := undef) rfl (by kernel_rfl) (by kernel_rfl) (by kernel_rfl) (fun _ _ _ h => h) (Or.inr ⟨by kernel_rfl, rfl⟩) hHeld ?_
      show wpAnyH _ _ _ _ _ _ _ (Act.put _ (some 121) _) _
      simp only [Act.put, List.setIfInBounds_toArray, List.set_cons_zero, List.set_cons_succ]
      refine wpAnyH_take (i := 13) (v := undef) rfl (by kernel_rfl) (by kernel_rfl) (by kernel_rfl) (fun _ _ _ h => h) (Or.inr ⟨by kernel_rfl, rfl⟩) hHeld ?_
      show wpAnyH _ _ _ _ _ _ _ (Act.put _ (some 122) _) _
      simp only [Act.put, List.setIfInBounds_toArray, List.set_cons_zero, List.set_cons_succ]
      refine wpAnyH_take (i := 14) (v := undef) rfl (by kernel_rfl) (by kernel_rfl) (by kernel_rfl) (fun _ _ _ h => h) (Or.inr ⟨by kernel_rfl, rfl⟩) hHeld ?_
      show wpAnyH _ _ _ _ _ _ _ (Act.put _ (some 123) _) _
      simp only [Act.put, List.setIfInBounds_toArray, List.set_cons_zero, List.set_cons_succ]
      refine wpAnyH_take (i := 15) (v := undef) rfl (by kernel_rfl) (by kernel_rfl) (by kernel_rfl) (fun _ _ _ h => h) (Or.inr ⟨by kernel_rfl, rfl⟩) hHeld ?_
      show wpAnyH _ _ _ _ _ _ _ (Act.put _ (some 124) _) _
      simp only [Act.put, List.setIfInBounds_toArray, List.set_cons_zero, List.set_cons_succ]
      refine wpAnyH_take (i := 16) (v := .bool true) rfl (by kernel_rfl) (by kernel_rfl) (by kernel_rfl) (fun _ _ _ h => h) (Or.inl ⟨by rfl, ?_⟩) hHeld ?_
      · intro W hSw
        go_simp
      show wpAnyH _ _ _ _ _ _ _ (Act.put _ (some 125) _) _
      simp only [Act.put, List.setIfInBounds_toArray, List.set_cons_zero, List.set_cons_succ]
      refine wpAnyH_take (i := 17) (v := .bool true) rfl (by kernel_rfl) (by kernel_rfl) (by kernel_rfl) (fun _ _ _ h => h) (Or.inl ⟨by rfl, ?_⟩) hHeld ?_
      · intro W hSw
        go_simp
      show wpAnyH _ _ _ _ _ _ _ (Act.put _ (some 4) _) _
      simp only [Act.put, List.setIfInBounds_toArray, List.set_cons_zero, List.set_cons_succ]
      refine wpAnyH_done (by kernel_rfl) ?_ _
      go_wp2
      go_ret
      exact ⟨by simp, HU3.out.bel⟩
  | false =>
    clear hle
    cases Q with
    | true =>
      have hlt' := FIN.out rfl
      have hdq : decide (D * 65536 + C < X * 65536 + Y) = true := decide_eq_true hlt'
      go_wp2
      go_region_held3 (fun W => (W.cell? ⟨w.heap.size, 0, none⟩ = some (.int .i64 a0) ∧ W.cell? ⟨w.heap.size, 1, none⟩ = some (.int .i64 a1) ∧ W.cell? ⟨w.heap.size, 2, none⟩ = some (.int .i64 a2) ∧ W.cell? ⟨w.heap.size, 3, none⟩ = some (.int .i64 a3) ∧ W.cell? ⟨w.heap.size, 4, none⟩ = some (.int .i64 a4) ∧ W.cell? ⟨w.heap.size, 5, none⟩ = some (.int .i64 a5)) ∧ (W.cell? ⟨g, 0, none⟩ = some (.int .i64 b0) ∧ W.cell? ⟨g, 1, none⟩ = some (.int .i64 b1) ∧ W.cell? ⟨g, 2, none⟩ = some (.int .i64 b2) ∧ W.cell? ⟨g, 3, none⟩ = some (.int .i64 b3) ∧ W.cell? ⟨g, 4, none⟩ = some (.int .i64 b4) ∧ W.cell? ⟨g, 5, none⟩ = some (.int .i64 b5))) (first | exact HS10.out | exact HS1.out | exact HS2.out | exact HS3.out)
        (first
          | (go_at_call 7; with_reducible refine (HEA.out _).mono ?_; rintro e u1 ⟨rfl, hu1⟩; have HU1 := hide (HB10d.out.low hu1); have HS1 := hide (And.intro (box6 HU1.out.a) (box6 HU1.out.b)); clear hu1)
          | (go_at_call 7; with_reducible refine (HEB.out _).mono ?_; rintro e u2 ⟨rfl, hu2⟩; have HU2 := hide (HU1.out.low hu2); have HS2 := hide (And.intro (box6 HU2.out.a) (box6 HU2.out.b)); clear hu2)
          | (go_at_call 8; with_reducible refine (HER2.out _).mono ?_; rintro e u3 ⟨rfl, hu3⟩; have HU3 := hide (HU2.out.low hu3); have HS3 := hide (And.intro (box6 HU3.out.a) (box6 HU3.out.b)); clear hu3))
      go_wp2
      go_ret
      refine ⟨?_, HU3.out.bel⟩
      have z1 : IntKind.i64.wrap (D * 65536) = D * 65536 := by rw [IntKind.wrap_i64]; omega
      have z2 : IntKind.i64.wrap (D * 65536 + C) = D * 65536 + C := by rw [IntKind.wrap_i64]; omega
      have z3 : IntKind.i64.wrap (X * 65536) = X * 65536 := by rw [IntKind.wrap_i64]; omega
      have z4 : IntKind.i64.wrap (X * 65536 + Y) = X * 65536 + Y := by rw [IntKind.wrap_i64]; omega
      have hF : D * 65536 + C < X * 65536 + Y := by first | exact FIN.out rfl | exact FIN.out trivial | exact FIN.out
      rw [z1, z3, z2, z4]
      first
        | (rw [decide_eq_true hF]; rfl)
        | simpa using hF
    | false =>
      go_wp2
      refine wp_region_held_drew (S := (fun W => (W.cell? ⟨w.heap.size, 0, none⟩ = some (.int .i64 a0) ∧ W.cell? ⟨w.heap.size, 1, none⟩ = some (.int .i64 a1) ∧ W.cell? ⟨w.heap.size, 2, none⟩ = some (.int .i64 a2) ∧ W.cell? ⟨w.heap.size, 3, none⟩ = some (.int .i64 a3) ∧ W.cell? ⟨w.heap.size, 4, none⟩ = some (.int .i64 a4) ∧ W.cell? ⟨w.heap.size, 5, none⟩ = some (.int .i64 a5)) ∧ (W.cell? ⟨g, 0, none⟩ = some (.int .i64 b0) ∧ W.cell? ⟨g, 1, none⟩ = some (.int .i64 b1) ∧ W.cell? ⟨g, 2, none⟩ = some (.int .i64 b2) ∧ W.cell? ⟨g, 3, none⟩ = some (.int .i64 b3) ∧ W.cell? ⟨g, 4, none⟩ = some (.int .i64 b4) ∧ W.cell? ⟨g, 5, none⟩ = some (.int .i64 b5)))) (by kernel_rfl) HS10.out (fun hHeld => ?_)
      refine wpAnyH_take (i := 0) (v := Value.agg #[.int .i64 a0, .int .i64 a1, .int .i64 a2, .int .i64 a3, .int .i64 a4, .int .i64 a5]) rfl (by kernel_rfl) (by kernel_rfl) (by kernel_rfl) (fun _ _ _ h => h) (Or.inl ⟨by rfl, ?_⟩) hHeld ?_
      · intro W hSw
        obtain ⟨⟨e0, e1, e2, e3, e4, e5⟩, f0, f1, f2, f3, f4, f5⟩ := hSw
        go_simp
      show wpAnyH _ _ _ _ _ _ _ (Act.put _ (some 109) _) _
      simp only [Act.put, List.setIfInBounds_toArray, List.set_cons_zero, List.set_cons_succ]
      refine wpAnyH_take (i := 2) (v := Value.agg #[.int .i64 b0, .int .i64 b1, .int .i64 b2, .int .i64 b3, .int .i64 b4, .int .i64 b5]) rfl (by kernel_rfl) (by kernel_rfl) (by kernel_rfl) (fun _ _ _ h => h) (Or.inl ⟨by rfl, ?_⟩) hHeld ?_
      · intro W hSw
        obtain ⟨⟨e0, e1, e2, e3, e4, e5⟩, f0, f1, f2, f3, f4, f5⟩ := hSw
        go_simp
      show wpAnyH _ _ _ _ _ _ _ (Act.put _ (some 111) _) _
      simp only [Act.put, List.setIfInBounds_toArray, List.set_cons_zero, List.set_cons_succ]
      refine wpAnyH_ready (rs := [1]) (by kernel_rfl) (by simp) ?_
      refine AllReadyH.cons rfl (fun K hK => ?_) AllReadyH.nil
      go_simp
      (go_at_call 7; with_reducible refine (HEA.out _).mono ?_; rintro e u1 ⟨rfl, hu1⟩; have HU1 := hide (HB10d.out.low hu1); have HS1 := hide (And.intro (box6 HU1.out.a) (box6 HU1.out.b)); clear hu1)
      refine hK.out _ _ HS1.out (fun hHeld2 => ?_)
      clear hK K hHeld
      have hHeld := hHeld2
      clear hHeld2
      try simp only [Act.put, List.setIfInBounds_toArray, List.set_cons_zero, List.set_cons_succ]
      refine wpAnyH_ready (rs := [3]) (by kernel_rfl) (by simp) ?_
      refine AllReadyH.cons rfl (fun K hK => ?_) AllReadyH.nil
      go_simp
      (go_at_call 7; with_reducible refine (HEB.out _).mono ?_; rintro e u2 ⟨rfl, hu2⟩; have HU2 := hide (HU1.out.low hu2); have HS2 := hide (And.intro (box6 HU2.out.a) (box6 HU2.out.b)); clear hu2)
      refine hK.out _ _ HS2.out (fun hHeld2 => ?_)
      clear hK K hHeld
      have hHeld := hHeld2
      clear hHeld2
      try simp only [Act.put, List.setIfInBounds_toArray, List.set_cons_zero, List.set_cons_succ]
      refine wpAnyH_ready (rs := [4]) (by kernel_rfl) (by simp) ?_
      refine AllReadyH.cons rfl (fun K hK => ?_) AllReadyH.nil
      go_simp
      (go_at_call 8; with_reducible refine (HER2.out _).mono ?_; rintro e u3 ⟨rfl, hu3⟩; have HU3 := hide (HU2.out.low hu3); have HS3 := hide (And.intro (box6 HU3.out.a) (box6 HU3.out.b)); clear hu3)
      refine hK.out _ _ HS3.out (fun hHeld2 => ?_)
      clear hK K hHeld
      have hHeld := hHeld2
      clear hHeld2
      try simp only [Act.put, List.setIfInBounds_toArray, List.set_cons_zero, List.set_cons_succ]
      refine wpAnyH_take (i := 5) (v := .bool true) rfl (by kernel_rfl) (by kernel_rfl) (by kernel_rfl) (fun _ _ _ h => h) (Or.inl ⟨by rfl, ?_⟩) hHeld ?_
      · intro W hSw
        go_simp
      show wpAnyH _ _ _ _ _ _ _ (Act.put _ (some 114) _) _
      simp only [Act.put, List.setIfInBounds_toArray, List.set_cons_zero, List.set_cons_succ]
      refine wpAnyH_take (i := 6) (v := .bool true) rfl (by kernel_rfl) (by kernel_rfl) (by kernel_rfl) (fun _ _ _ h => h) (Or.inl ⟨by rfl, ?_⟩) hHeld ?_
      · intro W hSw
        go_simp
      show wpAnyH _ _ _ _ _ _ _ (Act.put _ (some 115) _) _
      simp only [Act.put, List.setIfInBounds_toArray, List.set_cons_zero, List.set_cons_succ]
      refine wpAnyH_take (i := 7) (v := undef) rfl (by kernel_rfl) (by kernel_rfl) (by kernel_rfl) (fun _ _ _ h => h) (Or.inr ⟨by kernel_rfl, rfl⟩) hHeld ?_
      show wpAnyH _ _ _ _ _ _ _ (Act.put _ (some 116) _) _
      simp only [Act.put, List.setIfInBounds_toArray, List.set_cons_zero, List.set_cons_succ]
      refine wpAnyH_take (i := 8) (v := undef) rfl (by kernel_rfl) (by kernel_rfl) (by kernel_rfl) (fun _ _ _ h => h) (Or.inr ⟨by kernel_rfl, rfl⟩) hHeld ?_
      show wpAnyH _ _ _ _ _ _ _ (Act.put _ (some 117) _) _
      simp only [Act.put, List.setIfInBounds_toArray, List.set_cons_zero, List.set_cons_succ]
      refine wpAnyH_take (i := 9) (v := undef) rfl (by kernel_rfl) (by kernel_rfl) (by kernel_rfl) (fun _ _ _ h => h) (Or.inr ⟨by kernel_rfl, rfl⟩) hHeld ?_
      show wpAnyH _ _ _ _ _ _ _ (Act.put _ (some 118) _) _
      simp only [Act.put, List.setIfInBounds_toArray, List.set_cons_zero, List.set_cons_succ]
      refine wpAnyH_take (i := 10) (v := undef) rfl (by kernel_rfl) (by kernel_rfl) (by kernel_rfl) (fun _ _ _ h => h) (Or.inr ⟨by kernel_rfl, rfl⟩) hHeld ?_
      show wpAnyH _ _ _ _ _ _ _ (Act.put _ (some 119) _) _
      simp only [Act.put, List.setIfInBounds_toArray, List.set_cons_zero, List.set_cons_succ]
      refine wpAnyH_take (i := 11) (v := undef) rfl (by kernel_rfl) (by kernel_rfl) (by kernel_rfl) (fun _ _ _ h => h) (Or.inr ⟨by kernel_rfl, rfl⟩) hHeld ?_
      show wpAnyH _ _ _ _ _ _ _ (Act.put _ (some 120) _) _
      simp only [Act.put, List.setIfInBounds_toArray, List.set_cons_zero, List.set_cons_succ]
      refine wpAnyH_take (i := 12) (v := undef) rfl (by kernel_rfl) (by kernel_rfl) (by kernel_rfl) (fun _ _ _ h => h) (Or.inr ⟨by kernel_rfl, rfl⟩) hHeld ?_
      show wpAnyH _ _ _ _ _ _ _ (Act.put _ (some 121) _) _
      simp only [Act.put, List.setIfInBounds_toArray, List.set_cons_zero, List.set_cons_succ]
      refine wpAnyH_take (i := 13) (v := undef) rfl (by kernel_rfl) (by kernel_rfl) (by kernel_rfl) (fun _ _ _ h => h) (Or.inr ⟨by kernel_rfl, rfl⟩) hHeld ?_
      show wpAnyH _ _ _ _ _ _ _ (Act.put _ (some 122) _) _
      simp only [Act.put, List.setIfInBounds_toArray, List.set_cons_zero, List.set_cons_succ]
      refine wpAnyH_take (i := 14) (v := undef) rfl (by kernel_rfl) (by kernel_rfl) (by kernel_rfl) (fun _ _ _ h => h) (Or.inr ⟨by kernel_rfl, rfl⟩) hHeld ?_
      show wpAnyH _ _ _ _ _ _ _ (Act.put _ (some 123) _) _
      simp only [Act.put, List.setIfInBounds_toArray, List.set_cons_zero, List.set_cons_succ]
      refine wpAnyH_take (i := 15) (v := undef) rfl (by kernel_rfl) (by kernel_rfl) (by kernel_rfl) (fun _ _ _ h => h) (Or.inr ⟨by kernel_rfl, rfl⟩) hHeld ?_
      show wpAnyH _ _ _ _ _ _ _ (Act.put _ (some 124) _) _
      simp only [Act.put, List.setIfInBounds_toArray, List.set_cons_zero, List.set_cons_succ]
      refine wpAnyH_take (i := 16) (v := .bool true) rfl (by kernel_rfl) (by kernel_rfl) (by kernel_rfl) (fun _ _ _ h => h) (Or.inl ⟨by rfl, ?_⟩) hHeld ?_
      · intro W hSw
        go_simp
      show wpAnyH _ _ _ _ _ _ _ (Act.put _ (some 125) _) _
      simp only [Act.put, List.setIfInBounds_toArray, List.set_cons_zero, List.set_cons_succ]
      refine wpAnyH_take (i := 17) (v := .bool true) rfl (by kernel_rfl) (by kernel_rfl) (by kernel_rfl) (fun _ _ _ h => h) (Or.inl ⟨by rfl, ?_⟩) hHeld ?_
      · intro W hSw
        go_simp
      show wpAnyH _ _ _ _ _ _ _ (Act.put _ (some 4) _) _
      simp only [Act.put, List.setIfInBounds_toArray, List.set_cons_zero, List.set_cons_succ]
      refine wpAnyH_done (by kernel_rfl) ?_ _
      go_wp2
      go_ret
      exact ⟨by simp, HU3.out.bel⟩
end Go.Proofs.YtjjepgkcgbbmhaaDoor

