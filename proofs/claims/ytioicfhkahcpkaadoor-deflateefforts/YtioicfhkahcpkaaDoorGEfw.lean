import Derived.Test.YtioicfhkahcpkaaDoorGEfn
import Derived.Test.YtioicfhkahcpkaaDoorGRev
import Derived.Deep.RegionHeld3
namespace Go.Proofs.YtioicfhkahcpkaaDoor
open Go.RowKit
set_option maxRecDepth 20000
set_option linter.unusedVariables false

theorem put3_at {w : World} {g : Nat} {a b c x y z : Value} {t : TypeId} (h : w.heap[g]? = some (.cells #[a, b, c] t (0, 0))) :
    (((w.setCell ⟨g, 0, none⟩ x).setCell ⟨g, 1, none⟩ y).setCell ⟨g, 2, none⟩ z).heap[g]? = some (.cells #[x, y, z] t (0, 0)) := by
  have h1 := heap_setCell_same w g 0 #[a, b, c] t x h
  have h2 := heap_setCell_same _ g 1 _ t y h1
  have h3 := heap_setCell_same _ g 2 _ t z h2
  simpa using h3

theorem put3_below {w w0 : World} {g B : Nat} {a' b' c' : Value} (h : Below B w0 w) (hB : B ≤ g) : Below B w0 (((w.setCell ⟨g, 0, none⟩ a').setCell ⟨g, 1, none⟩ b').setCell ⟨g, 2, none⟩ c') :=
  (((h.setCell (p := ⟨g, 0, none⟩) hB _).setCell (p := ⟨g, 1, none⟩) hB _).setCell (p := ⟨g, 2, none⟩) hB _)

theorem cells3_of {w : World} {g : Nat} {a b c : Value} {t : TypeId} (h : w.heap[g]? = some (.cells #[a, b, c] t (0, 0))) :
    w.cell? ⟨g, 0, none⟩ = some a ∧ w.cell? ⟨g, 1, none⟩ = some b ∧ w.cell? ⟨g, 2, none⟩ = some c := by
  refine ⟨?_, ?_, ?_⟩ <;> (unfold World.cell?; rw [h]; rfl)

/-- An effort as a value. -/
def effV (i : Nat) : Value := .agg #[.int .i64 (EW i), .int .i64 (EC i), .bool (EZ i)]
def effN : Value := .agg #[.int .i64 0, .int .i64 0, .bool false]

theorem effort_yes (i : Nat) (w : World) (T : Etab w) (hi : i < 10) : Calls Tryd.prog 6 #[.int .i64 (i : Int)] w fun e w' => e = .returned (.tuple #[effV i, .int .i64 0]) ∧ Below w.heap.size w w' := by
  have g1 : ¬ (i : Int) < 0 := by omega
  have g2 : ¬ (9 : Int) < (i : Int) := by omega
  have g3 : (i : Int) < 10 := by omega
  unfold effV
  have T1 : Etab (w.alloc (.cells #[.int .i64 0, .int .i64 0, .bool false] 23)) := T.low ((Below.refl _ _).alloc (Nat.le_refl _) _)
  have c0 := T1.ew i hi
  have c1 := T1.ec i hi
  have c2 := T1.ez i hi
  obtain ⟨X, hX⟩ : ∃ X, EW i = X := ⟨_, rfl⟩
  obtain ⟨Y, hY⟩ : ∃ X, EC i = X := ⟨_, rfl⟩
  obtain ⟨Z, hZ⟩ : ∃ X, EZ i = X := ⟨_, rfl⟩
  rw [hX] at c0 ⊢
  rw [hY] at c1 ⊢
  rw [hZ] at c2 ⊢
  clear T1 T hX hY hZ
  go_enter Tryd.func6, Tryd.ntmps6
  go_wp2
  refine bodyPost_ret (v := .tuple #[.agg #[.int .i64 X, .int .i64 Y, .bool Z], .int .i64 0]) (by simp [results, Tryd.results6, go_sem]) rfl ?_
  exact ⟨rfl, (Below.refl _ _).alloc (Nat.le_refl _) _⟩

theorem effort_no (x : Int) (w : World) (h : ¬ (0 ≤ x ∧ x ≤ 9)) : Calls Tryd.prog 6 #[.int .i64 x] w fun e w' => e = .returned (.tuple #[effN, .int .i64 110]) ∧ Below w.heap.size w w' := by
  unfold effN
  by_cases g1 : x < 0
  · go_enter Tryd.func6, Tryd.ntmps6
    go_wp2
    refine bodyPost_ret (v := .tuple #[.agg #[.int .i64 0, .int .i64 0, .bool false], .int .i64 110]) (by simp [results, Tryd.results6, go_sem]) rfl ?_
    exact ⟨rfl, (Below.refl _ _).alloc (Nat.le_refl _) _⟩
  · have g2 : (9 : Int) < x := by omega
    go_enter Tryd.func6, Tryd.ntmps6
    go_wp2
    refine bodyPost_ret (v := .tuple #[.agg #[.int .i64 0, .int .i64 0, .bool false], .int .i64 110]) (by simp [results, Tryd.results6, go_sem]) rfl ?_
    exact ⟨rfl, (Below.refl _ _).alloc (Nat.le_refl _) _⟩

theorem xeffort_no (x : Int) (w : World) (h : ¬ (0 ≤ x ∧ x ≤ 9)) : Calls Tryd.prog 7 #[.int .i64 x] w fun e w' => e = .returned (.tuple #[effN, .int .i64 110]) ∧ Below w.heap.size w w' := by
  unfold effN
  by_cases g1 : x < 0
  · go_enter Tryd.func7, Tryd.ntmps7
    go_wp2
    refine bodyPost_ret (v := .tuple #[.agg #[.int .i64 0, .int .i64 0, .bool false], .int .i64 110]) (by simp [results, Tryd.results7, go_sem]) rfl ?_
    exact ⟨rfl, (Below.refl _ _).alloc (Nat.le_refl _) _⟩
  · have g2 : (9 : Int) < x := by omega
    go_enter Tryd.func7, Tryd.ntmps7
    go_wp2
    refine bodyPost_ret (v := .tuple #[.agg #[.int .i64 0, .int .i64 0, .bool false], .int .i64 110]) (by simp [results, Tryd.results7, go_sem]) rfl ?_
    exact ⟨rfl, (Below.refl _ _).alloc (Nat.le_refl _) _⟩

theorem lz_is (z : Bool) : ((if z then (1 : Int) else 0) == 1) = z := by cases z <;> rfl

theorem xeffort_yes (i : Nat) (w : World) (T : Vtab w) (hi : i < 10) : Calls Tryd.prog 7 #[.int .i64 (i : Int)] w fun e w' => e = .returned (.tuple #[effV i, .int .i64 0]) ∧ Below w.heap.size w w' := by
  have g1 : ¬ (i : Int) < 0 := by omega
  have g2 : ¬ (9 : Int) < (i : Int) := by omega
  have g3 : (i : Int) < 10 := by omega
  unfold effV
  obtain ⟨w1, hw1⟩ : ∃ w1, w.alloc (.cells #[.int .i64 0, .int .i64 0, .bool false] 23) = w1 := ⟨_, rfl⟩
  have HB : Hid (Below w.heap.size w w1) := by rw [← hw1]; exact (Below.refl _ _).alloc (Nat.le_refl _) _
  have HN : Hid (w1.heap[w.heap.size]? = some (.cells #[.int .i64 0, .int .i64 0, .bool false] 23 (0, 0))) := by rw [← hw1]; exact heap_alloc_new w _
  have T1 : Vtab w1 := T.low HB.out
  have c0 := T1.lw i hi
  have c1 := T1.lc i hi
  have c2 := T1.lz i hi
  have hgl : 1 ≠ w.heap.size := by have := World.block_lt_of_cell? w _ (T.lw i hi); simp only at this; omega
  have e2 := lz_is (EZ i)
  obtain ⟨X, hX⟩ : ∃ X, EW i = X := ⟨_, rfl⟩
  obtain ⟨Y, hY⟩ : ∃ X, EC i = X := ⟨_, rfl⟩
  obtain ⟨Z, hZ⟩ : ∃ X, EZ i = X := ⟨_, rfl⟩
  rw [hX] at c0 ⊢
  rw [hY] at c1 ⊢
  rw [hZ] at c2 e2 ⊢
  obtain ⟨V, hV⟩ : ∃ V : Int, (if Z then (1 : Int) else 0) = V := ⟨_, rfl⟩
  rw [hV] at c2 e2
  obtain ⟨n0, n1, n2⟩ := cells3_of HN.out
  have f0 : w1.frozen? ⟨w.heap.size, 0, none⟩ = false := frozen_of_row _ _ _ _ _ HN.out
  have f1 : w1.frozen? ⟨w.heap.size, 1, none⟩ = false := frozen_of_row _ _ _ _ _ HN.out
  have f2 : w1.frozen? ⟨w.heap.size, 2, none⟩ = false := frozen_of_row _ _ _ _ _ HN.out
  have HBD : Hid (Below w.heap.size w w1.drew) := below_drewN HB.out 1
  have HND : Hid (w1.drew.heap[w.heap.size]? = some (.cells #[.int .i64 0, .int .i64 0, .bool false] 23 (0, 0))) := HN.out
  have HK : Hid (∀ o, (((w1.setCell ⟨w.heap.size, 0, none⟩ (.int .i64 X)).setCell ⟨w.heap.size, 1, none⟩ (.int .i64 Y)).setCell ⟨w.heap.size, 2, none⟩ (.bool Z)).drew.cell? ⟨1, o, none⟩ = w1.cell? ⟨1, o, none⟩) := fun o => by
    refine World.cell?_of_block (w := w1) ?_
    show (((w1.setCell ⟨w.heap.size, 0, none⟩ (.int .i64 X)).setCell ⟨w.heap.size, 1, none⟩ (.int .i64 Y)).setCell ⟨w.heap.size, 2, none⟩ (.bool Z)).heap[1]? = _
    rw [setCell_others _ _ _ _ _ hgl, setCell_others _ _ _ _ _ hgl, setCell_others _ _ _ _ _ hgl]
  clear T1 T hX hY hZ hV
  go_enter Tryd.func7, Tryd.ntmps7
  go_wp2
  clear hw1
  go_region_held3 (fun w' => w'.cell? ⟨1, i * 3, none⟩ = some (.int .i64 X) ∧ w'.cell? ⟨1, i * 3 + 1, none⟩ = some (.int .i64 Y) ∧ w'.cell? ⟨1, i * 3 + 2, none⟩ = some (.int .i64 V)) (first | exact ⟨(HK.out _).trans c0, (HK.out _).trans c1, (HK.out _).trans c2⟩ | go_keep) (fail)
  go_wp2
  obtain ⟨p0, p1, p2⟩ := cells3_of (put3_at (x := .int .i64 X) (y := .int .i64 Y) (z := .bool Z) HN.out)
  refine bodyPost_ret (v := .tuple #[.agg #[.int .i64 X, .int .i64 Y, .bool Z], .int .i64 0]) (by simp [results, Tryd.results7, go_sem, p0, p1, p2]) rfl ?_
  exact ⟨rfl, put3_below HBD.out (Nat.le_refl _)⟩

/-- The bound, in numbers. -/
def bnd (n : Int) : Int := n + 5 * max ((n + 65534) / 65535) 1

theorem fbound_any (n : Int) (w : World) (h0 : 0 ≤ n) (h1 : n ≤ 16777216) : Calls Tryd.prog 15 #[.int .i64 n] w fun e w' => e = .returned (.int .i64 (bnd n)) ∧ w' = w := by
  have g0 : wrap64 (n + 65535) = n + 65535 := by unfold wrap64; omega
  have g1 : wrap64 (n + 65535 - 1) = n + 65534 := by unfold wrap64; omega
  have g2 : n + 65535 - 1 = n + 65534 := by omega
  have g3 : Int.tdiv (n + 65534) 65535 = (n + 65534) / 65535 := Int.tdiv_eq_ediv_of_nonneg (by omega)
  unfold bnd
  obtain ⟨q, hq⟩ : ∃ q, (n + 65534) / 65535 = q := ⟨_, rfl⟩
  have q0 : 0 ≤ q := by omega
  have q1 : q ≤ 258 := by omega
  rw [hq] at g3 ⊢
  have g4 : wrap64 q = q := by unfold wrap64; omega
  by_cases hc : q < 1
  · obtain rfl : q = 0 := by omega
    have e : max (0 : Int) 1 = 1 := by omega
    have g5 : wrap64 (n + 5) = n + 5 := by unfold wrap64; omega
    rw [e]
    clear hq
    go_enter Tryd.func15, Tryd.ntmps15
    go_wp2
    go_ret
    exact ⟨by simp, rfl⟩
  · have e : max q 1 = q := by omega
    have g5 : wrap64 (5 * q) = 5 * q := by unfold wrap64; omega
    have g6 : wrap64 (n + 5 * q) = n + 5 * q := by unfold wrap64; omega
    rw [e]
    clear hq
    go_enter Tryd.func15, Tryd.ntmps15
    go_wp2
    go_ret
    exact ⟨rfl, rfl⟩

theorem fBound_any (n : Int) (w : World) : Calls Tryd.prog 8 #[.int .i64 n] w fun e w' => e = .returned (.tuple #[.int .i64 (if 0 ≤ n ∧ n ≤ 16777216 then bnd n else 0), .int .i64 (if 0 ≤ n ∧ n ≤ 16777216 then 0 else 1)]) ∧ w' = w := by
  by_cases h : 0 ≤ n ∧ n ≤ 16777216
  · rw [if_pos h, if_pos h]
    have HF := hide (fbound_any n w h.1 h.2)
    have g1 : ¬ n < 0 := by omega
    have g2 : ¬ (16777216 : Int) < n := by omega
    clear h
    go_enter Tryd.func8, Tryd.ntmps8
    go_wp2_with fail
    refine HF.out.mono ?_
    rintro e w2 ⟨rfl, rfl⟩
    go_wp2
    refine bodyPost_ret (results_tmp2 rfl _ _ _) rfl ?_
    exact ⟨rfl, rfl⟩
  · rw [if_neg h, if_neg h]
    by_cases g1 : n < 0
    · go_enter Tryd.func8, Tryd.ntmps8
      go_wp2
      refine bodyPost_ret (results_tmp2 rfl _ _ _) rfl ?_
      exact ⟨rfl, rfl⟩
    · have g2 : (16777216 : Int) < n := by omega
      go_enter Tryd.func8, Tryd.ntmps8
      go_wp2
      refine bodyPost_ret (results_tmp2 rfl _ _ _) rfl ?_
      exact ⟨rfl, rfl⟩

theorem gBound_any (n : Int) (w : World) : Calls Tryd.prog 9 #[.int .i64 n] w fun e w' => e = .returned (.tuple #[.int .i64 (if 0 ≤ n ∧ n ≤ 16777216 then bnd n else 0), .int .i64 (if 0 ≤ n ∧ n ≤ 16777216 then 0 else 1)]) ∧ w' = w := by
  by_cases h : 0 ≤ n ∧ n ≤ 16777216
  · rw [if_pos h, if_pos h]
    obtain ⟨h0, h1⟩ := h
    have g1 : ¬ n < 0 := by omega
    have g2 : ¬ (16777216 : Int) < n := by omega
    have g3 : Int.tdiv n 65535 = n / 65535 := Int.tdiv_eq_ediv_of_nonneg (by omega)
    obtain ⟨q, hq⟩ : ∃ q, n / 65535 = q := ⟨_, rfl⟩
    have q0 : 0 ≤ q := by omega
    have q1 : q ≤ 257 := by omega
    have q2 : q * 65535 ≤ n ∧ n < q * 65535 + 65535 := by omega
    rw [hq] at g3
    have g4 : wrap64 q = q := by unfold wrap64; omega
    have g5 : wrap64 (q * 65535) = q * 65535 := by unfold wrap64; omega
    have g6 : wrap64 (q + 1) = q + 1 := by unfold wrap64; omega
    have g7 : wrap64 (5 * (q + 1)) = 5 * (q + 1) := by unfold wrap64; omega
    have g8 : wrap64 (n + 5 * (q + 1)) = n + 5 * (q + 1) := by unfold wrap64; omega
    have g9 : wrap64 (5 * q) = 5 * q := by unfold wrap64; omega
    have g10 : wrap64 (n + 5 * q) = n + 5 * q := by unfold wrap64; omega
    by_cases hc : q * 65535 < n
    · have HV : Hid (bnd n = n + 5 * (q + 1)) := by show _ = _; unfold bnd; omega
      rw [HV.out]
      clear hq q2
      go_enter Tryd.func9, Tryd.ntmps9
      go_wp2
      refine bodyPost_ret (results_tmp2 rfl _ _ _) rfl ?_
      exact ⟨rfl, rfl⟩
    · by_cases hn : n = 0
      · have HV : Hid (bnd n = n + 5 * (q + 1)) := by show _ = _; unfold bnd; omega
        rw [HV.out]
        have hz : (n == 0) = true := by simpa using hn
        clear hq q2 hn
        go_enter Tryd.func9, Tryd.ntmps9
        go_wp2
        refine bodyPost_ret (results_tmp2 rfl _ _ _) rfl ?_
        exact ⟨rfl, rfl⟩
      · have HV : Hid (bnd n = n + 5 * q) := by show _ = _; unfold bnd; omega
        rw [HV.out]
        have hz : (n == 0) = false := by simpa using hn
        clear hq q2 hn
        go_enter Tryd.func9, Tryd.ntmps9
        go_wp2
        refine bodyPost_ret (results_tmp2 rfl _ _ _) rfl ?_
        exact ⟨rfl, rfl⟩
  · rw [if_neg h, if_neg h]
    by_cases g1 : n < 0
    · go_enter Tryd.func9, Tryd.ntmps9
      go_wp2
      refine bodyPost_ret (results_tmp2 rfl _ _ _) rfl ?_
      exact ⟨rfl, rfl⟩
    · have g2 : (16777216 : Int) < n := by omega
      go_enter Tryd.func9, Tryd.ntmps9
      go_wp2
      refine bodyPost_ret (results_tmp2 rfl _ _ _) rfl ?_
      exact ⟨rfl, rfl⟩

/-- The law's Bounds, whatever the efforts were. -/
theorem efforts_walk (x n : Int) (w : World) (T : Etab w ∧ Vtab w) : Calls Tryd.prog 3 #[.int .i64 x, .int .i64 n] w fun e w' => e = .returned (.bool true) ∧ Below w.heap.size w w' := by
  obtain ⟨T1, T2⟩ := T
  obtain ⟨A, B, Z, E, HC, HD⟩ : ∃ (A B : Int) (Z : Bool) (E : Int), Hid (Calls Tryd.prog 6 #[.int .i64 x] w fun e w' => e = .returned (.tuple #[.agg #[.int .i64 A, .int .i64 B, .bool Z], .int .i64 E]) ∧ Below w.heap.size w w') ∧
      Hid (∀ w0, Below w.heap.size w w0 → Calls Tryd.prog 7 #[.int .i64 x] w0 fun e w' => e = .returned (.tuple #[.agg #[.int .i64 A, .int .i64 B, .bool Z], .int .i64 E]) ∧ Below w0.heap.size w0 w') := by
    by_cases h : 0 ≤ x ∧ x ≤ 9
    · obtain ⟨i, rfl⟩ := Int.eq_ofNat_of_zero_le h.1
      exact ⟨_, _, _, _, effort_yes i w T1 (by omega), fun w0 h0 => xeffort_yes i w0 (T2.low h0) (by omega)⟩
    · exact ⟨_, _, _, _, effort_no x w h, fun w0 h0 => xeffort_no x w0 h⟩
  have HF := hide (fun w0 => fBound_any n w0)
  have HG := hide (fun w0 => gBound_any n w0)
  obtain ⟨b, hb⟩ : ∃ b : Int, (if 0 ≤ n ∧ n ≤ 16777216 then bnd n else 0) = b := ⟨_, rfl⟩
  obtain ⟨g, hg⟩ : ∃ b : Int, (if 0 ≤ n ∧ n ≤ 16777216 then (0 : Int) else 1) = b := ⟨_, rfl⟩
  rw [hb, hg] at HF HG
  have HNM := hide (fun x w0 => num_any x w0)
  clear hb hg T1 T2
  go_enter Tryd.func3, Tryd.ntmps3
  go_wp2_with fail
  refine HC.out.mono ?_
  rintro e w1 ⟨rfl, b1⟩
  have HB1 : Hid (Below w.heap.size w (w1.alloc (.cells #[.int .i64 A, .int .i64 B, .bool Z] 23))) := b1.alloc b1.size _
  have HN1 : Hid ((w1.alloc (.cells #[.int .i64 A, .int .i64 B, .bool Z] 23)).heap[w1.heap.size]? = some (.cells #[.int .i64 A, .int .i64 B, .bool Z] 23 (0, 0))) := heap_alloc_new _ _
  clear b1 HC
  go_wp2_with fail
  obtain ⟨w2, hw2⟩ : ∃ w2, w1.alloc (.cells #[.int .i64 A, .int .i64 B, .bool Z] 23) = w2 := ⟨_, rfl⟩
  have hs2 : w1.heap.size < w2.heap.size := by rw [← hw2]; simp
  rw [hw2] at HB1 HN1 ⊢
  obtain ⟨g1, hg1⟩ : ∃ g1, w1.heap.size = g1 := ⟨_, rfl⟩
  rw [hg1] at HN1 hs2 ⊢
  clear hw2 hg1
  refine (HD.out w2 HB1.out).mono ?_
  rintro e w3 ⟨rfl, b3⟩
  have n3 := (b3.block g1 hs2).trans HN1.out
  have HB3 : Hid (Below w.heap.size w (w3.alloc (.cells #[.int .i64 A, .int .i64 B, .bool Z] 23))) := (HB1.out.trans (b3.mono HB1.out.size)).alloc (Nat.le_trans HB1.out.size b3.size) _
  have n4 : (w3.alloc (.cells #[.int .i64 A, .int .i64 B, .bool Z] 23)).heap[g1]? = some (.cells #[.int .i64 A, .int .i64 B, .bool Z] 23 (0, 0)) := (heap_alloc_old _ _ (by have := b3.size; omega)).trans n3
  have n5 : (w3.alloc (.cells #[.int .i64 A, .int .i64 B, .bool Z] 23)).heap[w3.heap.size]? = some (.cells #[.int .i64 A, .int .i64 B, .bool Z] 23 (0, 0)) := heap_alloc_new _ _
  clear b3 n3 HD HB1 HN1 hs2
  go_wp2_with fail
  obtain ⟨w4, hw4⟩ : ∃ w4, w3.alloc (.cells #[.int .i64 A, .int .i64 B, .bool Z] 23) = w4 := ⟨_, rfl⟩
  obtain ⟨g2, hg2⟩ : ∃ g1, w3.heap.size = g1 := ⟨_, rfl⟩
  rw [hw4] at HB3 n4 n5 ⊢
  rw [hg2] at n5 ⊢
  clear hw4 hg2
  obtain ⟨p0, p1, p2⟩ := cells3_of n4
  obtain ⟨q0, q1, q2⟩ := cells3_of n5
  clear n4 n5
  refine (HF.out _).mono ?_
  rintro e w5 ⟨rfl, rfl⟩
  go_wp2_with fail
  refine (HG.out _).mono ?_
  rintro e w6 ⟨rfl, rfl⟩
  clear HF HG
  go_wp2_with fail
  refine (HNM.out _ _).mono ?_
  rintro e w7 ⟨rfl, rfl⟩
  go_wp2_with fail
  refine (HNM.out _ _).mono ?_
  rintro e w8 ⟨rfl, rfl⟩
  go_wp2
  go_ret
  exact ⟨by simp, HB3.out⟩
end Go.Proofs.YtioicfhkahcpkaaDoor

