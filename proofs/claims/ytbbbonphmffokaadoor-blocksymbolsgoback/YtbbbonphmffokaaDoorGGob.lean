import Derived.Test.YtbbbonphmffokaaDoorGSyx
namespace Go.Proofs.YtbbbonphmffokaaDoor
open Go.RowKit
set_option maxRecDepth 20000
set_option linter.unusedVariables false

theorem lsy_bits {x i : Nat} (h : Lsy x i) (hx : x ≤ 258) : x - LB i < 2 ^ LF i := by
  by_cases hx8 : x < 258
  · obtain ⟨_, _, h3⟩ := lsy_step (j := i) h hx8 (Nat.le_refl _)
    have := h3 rfl
    have := h.2.1
    omega
  · have hi : i = 28 := by
      by_cases q : i = 28
      · exact q
      · have h1 := h.1
        have := h.2.2 28 (by omega) (by omega)
        have h8 : LB 28 = 258 := by decide
        omega
    subst hi
    have h8 : LB 28 = 258 := by decide
    have h9 : 2 ^ LF 28 = 1 := by decide
    omega

theorem dsy_bits {x i : Nat} (h : Dsy x i) (hx : x ≤ 32768) : x - DB i < 2 ^ DF i := by
  have h1 := (dsy_step (j := i) h hx (Nat.le_refl _)).2 rfl
  rw [dbNext i h.1] at h1
  have := h.2.1
  omega

theorem lfacts {x i : Nat} (h : Lsy x i) (hx : x ≤ 258) : lV ((257 + i : Nat) : Int) ((x - LB i : Nat) : Int) = (x : Int) ∧ lE ((257 + i : Nat) : Int) ((x - LB i : Nat) : Int) = 0 ∧ lE ((257 + i : Nat) : Int) ((2 ^ LF i : Nat) : Int) = 1 ∧ ¬ ((2 ^ LF i : Nat) : Int) ≤ ((x - LB i : Nat) : Int) := by
  have hb := lsy_bits h hx
  have h1 := h.1
  have h2 := h.2.1
  have hr : 257 ≤ ((257 + i : Nat) : Int) ∧ ((257 + i : Nat) : Int) ≤ 285 := by omega
  have e : 257 + i - 257 = i := by omega
  unfold lV lE
  rw [if_pos hr, if_pos hr, if_pos hr, Int.toNat_natCast, e]
  obtain ⟨q, hq⟩ : ∃ q, 2 ^ LF i = q := ⟨_, rfl⟩
  have v1 := of_in (B := LB i) (F := LF i) (x := ((x - LB i : Nat) : Int)) (by rw [hq] at hb ⊢; omega)
  have v2 := of_out (B := LB i) (F := LF i) (x := ((2 ^ LF i : Nat) : Int)) (by rw [hq]; omega)
  rw [v1.1, v1.2, v2.2]
  rw [hq] at hb ⊢
  exact ⟨by omega, rfl, rfl, by omega⟩

theorem dfacts {x i : Nat} (h : Dsy x i) (hx : x ≤ 32768) : dV (i : Int) ((x - DB i : Nat) : Int) = (x : Int) ∧ dE (i : Int) ((x - DB i : Nat) : Int) = 0 ∧ dE (i : Int) ((2 ^ DF i : Nat) : Int) = 1 ∧ ¬ ((2 ^ DF i : Nat) : Int) ≤ ((x - DB i : Nat) : Int) := by
  have hb := dsy_bits h hx
  have h1 := h.1
  have h2 := h.2.1
  have hr : 0 ≤ (i : Int) ∧ (i : Int) ≤ 29 := by omega
  unfold dV dE
  rw [if_pos hr, if_pos hr, if_pos hr, Int.toNat_natCast]
  obtain ⟨q, hq⟩ : ∃ q, 2 ^ DF i = q := ⟨_, rfl⟩
  have v1 := of_in (B := DB i) (F := DF i) (x := ((x - DB i : Nat) : Int)) (by rw [hq] at hb ⊢; omega)
  have v2 := of_out (B := DB i) (F := DF i) (x := ((2 ^ DF i : Nat) : Int)) (by rw [hq]; omega)
  rw [v1.1, v1.2, v2.2]
  rw [hq] at hb ⊢
  exact ⟨by omega, rfl, rfl, by omega⟩

/-- One side of the law: what its calls answer. -/
structure Sid (Tb : World → Prop) (fs fo : Nat) (x lo hi top : Int) (S F X G V : Int) (k : Nat) : Prop where
  sym : ∀ wx, Tb wx → Calls Tryd.prog fs #[.int .i64 x] wx fun e w' => e = .returned (.tuple #[.int .i64 S, .int .i64 F, .int .i64 X, .int .i64 0]) ∧ Below wx.heap.size wx w'
  back : ∀ wx, Tb wx → Calls Tryd.prog fo #[.int .i64 S, .int .i64 X] wx fun e w' => e = .returned (.tuple #[.int .i64 x, .int .i64 0]) ∧ Below wx.heap.size wx w'
  over : ∀ wx, Tb wx → Calls Tryd.prog fo #[.int .i64 S, .int .i64 G] wx fun e w' => e = .returned (.tuple #[.int .i64 V, .int .i64 1]) ∧ Below wx.heap.size wx w'
  kF : F = (k : Int)
  h1 : ¬ S < lo
  h2 : ¬ hi < S
  h3 : ¬ F < 0
  h4 : ¬ top < F
  h5 : ¬ X < 0
  h6 : ¬ G ≤ X
  h7 : wrap64 ((2 : Int) ^ k) = G
  h8 : IntKind.u64.wrap (k : Int) = (k : Int)
  h9 : min k 64 = k

theorem lsid (x : Int) (h : 3 ≤ x ∧ x ≤ 258) : ∃ (S X G V : Int) (k : Nat), Sid Ltab 8 13 x 257 285 5 S (k : Int) X G V k := by
  obtain ⟨n, rfl⟩ := Int.eq_ofNat_of_zero_le (show 0 ≤ x by omega)
  obtain ⟨i, hi⟩ := lsy_is (x := n) (by omega)
  obtain ⟨f1, f2, f3, f4⟩ := lfacts hi (by omega)
  obtain ⟨l1, l2, l3⟩ := lfLe i hi.1
  have hi1 := hi.1
  refine ⟨_, _, _, lV ((257 + i : Nat) : Int) ((2 ^ LF i : Nat) : Int), LF i, ⟨fun wx T => lsymbol_any n i wx T hi (by omega) (by omega), fun wx T => ?_, fun wx T => ?_, rfl, by omega, by omega, by omega, by omega, by omega, f4, (wrap_pow (F := LF i) (by omega)).1, wrapu_small (by omega), Nat.min_eq_left (by omega)⟩⟩
  · have := lengthOf_any ((257 + i : Nat) : Int) ((n - LB i : Nat) : Int) wx T
    rw [f1, f2] at this
    exact this
  · have := lengthOf_any ((257 + i : Nat) : Int) ((2 ^ LF i : Nat) : Int) wx T
    rw [f3] at this
    exact this

theorem dsid (x : Int) (h : 1 ≤ x ∧ x ≤ 32768) : ∃ (S X G V : Int) (k : Nat), Sid Dtab 11 15 x 0 29 13 S (k : Int) X G V k := by
  obtain ⟨n, rfl⟩ := Int.eq_ofNat_of_zero_le (show 0 ≤ x by omega)
  obtain ⟨i, hi⟩ := dsy_is (x := n) (by omega)
  obtain ⟨f1, f2, f3, f4⟩ := dfacts hi (by omega)
  obtain ⟨l1, l2, l3⟩ := dfLe i hi.1
  have hi1 := hi.1
  refine ⟨_, _, _, dV (i : Int) ((2 ^ DF i : Nat) : Int), DF i, ⟨fun wx T => dsymbol_any n i wx T hi (by omega) (by omega), fun wx T => ?_, fun wx T => ?_, rfl, by omega, by omega, by omega, by omega, by omega, f4, (wrap_pow (F := DF i) (by omega)).1, wrapu_small (by omega), Nat.min_eq_left (by omega)⟩⟩
  · have := distOf_any (i : Int) ((n - DB i : Nat) : Int) wx T
    rw [f1, f2] at this
    exact this
  · have := distOf_any (i : Int) ((2 ^ DF i : Nat) : Int) wx T
    rw [f3] at this
    exact this

set_option maxHeartbeats 8000000 in
theorem symbolsGoBack_walk (x y : Int) (w : World) (T : Ltab w ∧ Dtab w) : Calls Tryd.prog 7 #[.int .i64 x, .int .i64 y] w fun e w' => e = .returned (.bool true) ∧ Below w.heap.size w w' := by
  have HLT : Hid (∀ wx, Below w.heap.size w wx → Ltab wx) := fun wx q => T.1.low q
  have HDT : Hid (∀ wx, Below w.heap.size w wx → Dtab wx) := fun wx q => T.2.low q
  clear T
  have HB0 : Hid (Below w.heap.size w w) := Below.refl _ _
  by_cases hl : 3 ≤ x ∧ x ≤ 258
  · obtain ⟨S, X, G, V, k, hs⟩ := lsid x hl
    have HS := hide hs
    obtain ⟨c1, c2⟩ := hl
    have e1 := hs.h1
    have e2 := hs.h2
    have e3 := hs.h3
    have e4 := hs.h4
    have e5 := hs.h5
    have e6 := hs.h6
    have e7 := hs.h7
    have e8 := hs.h8
    have e9 := hs.h9
    have qx : (x == x) = true := by simp
    clear hs
    go_enter Tryd.func7, Tryd.ntmps7
    go_wp2_with fail
    refine (HS.out.sym _ (HLT.out _ HB0.out)).mono ?_
    rintro e w1 ⟨rfl, b1⟩
    have HB1 := hide (HB0.out.trans (b1.mono HB0.out.size))
    clear b1
    go_wp2_with fail
    refine (HS.out.back _ (HLT.out _ HB1.out)).mono ?_
    rintro e w2 ⟨rfl, b2⟩
    have HB2 := hide (HB1.out.trans (b2.mono HB1.out.size))
    clear b2
    go_wp2_with fail
    refine (HS.out.over _ (HLT.out _ HB2.out)).mono ?_
    rintro e w3 ⟨rfl, b3⟩
    have HB := hide (HB2.out.trans (b3.mono HB2.out.size))
    clear b3
    go_wp2_with fail
    refine (bnum_any _ 1).mono ?_
    rintro e w4 ⟨rfl, hw4⟩
    subst hw4
    clear e1 e2 e3 e4 e5 e6 e7 e8 e9 HS
    by_cases hd : 1 ≤ y ∧ y ≤ 32768
    · obtain ⟨S2, X2, G2, V2, k2, hs2⟩ := dsid y hd
      have HS2 := hide hs2
      have d1 : ¬ y < 1 := by omega
      have d2 : ¬ (32768 : Int) < y := by omega
      have e1 := hs2.h1
      have e2 := hs2.h2
      have e3 := hs2.h3
      have e4 := hs2.h4
      have e5 := hs2.h5
      have e6 := hs2.h6
      have e7 := hs2.h7
      have e8 := hs2.h8
      have e9 := hs2.h9
      have qy : (y == y) = true := by simp
      clear hs2 hd
      go_wp2_with fail
      refine (HS2.out.sym _ (HDT.out _ HB.out)).mono ?_
      rintro e wq ⟨rfl, bq⟩
      have HB4 := hide (HB.out.trans (bq.mono HB.out.size))
      clear bq
      go_wp2_with fail
      refine (HS2.out.back _ (HDT.out _ HB4.out)).mono ?_
      rintro e wr ⟨rfl, br⟩
      have HB5 := hide (HB4.out.trans (br.mono HB4.out.size))
      clear br
      go_wp2_with fail
      refine (HS2.out.over _ (HDT.out _ HB5.out)).mono ?_
      rintro e ws ⟨rfl, bs⟩
      have HB6 := hide (HB5.out.trans (bs.mono HB5.out.size))
      clear bs
      go_wp2_with fail
      refine (bnum_any _ 1).mono ?_
      rintro e wt ⟨rfl, hwt⟩
      subst hwt
      go_wp2
      go_ret
      exact ⟨rfl, HB6.out⟩
    · have HD := hide (fun wx => dsymbol_no y wx hd)
      by_cases d1 : y < 1
      · clear hd
        go_wp2_with fail
        refine (HD.out _).mono ?_
        rintro e wq ⟨rfl, bq⟩
        have HB4 := hide (HB.out.trans (bq.mono HB.out.size))
        clear bq
        go_wp2_with fail
        refine (bnum_any _ 1).mono ?_
        rintro e wt ⟨rfl, hwt⟩
        subst hwt
        go_wp2
        go_ret
        exact ⟨rfl, HB4.out⟩
      · have d2 : (32768 : Int) < y := by omega
        clear hd
        go_wp2_with fail
        refine (HD.out _).mono ?_
        rintro e wq ⟨rfl, bq⟩
        have HB4 := hide (HB.out.trans (bq.mono HB.out.size))
        clear bq
        go_wp2_with fail
        refine (bnum_any _ 1).mono ?_
        rintro e wt ⟨rfl, hwt⟩
        subst hwt
        go_wp2
        go_ret
        exact ⟨rfl, HB4.out⟩
  · have HD := hide (fun wx => lsymbol_no x wx hl)
    by_cases c1 : x < 3
    · have c1' : ¬ (3 : Int) ≤ x := by omega
      clear hl
      go_enter Tryd.func7, Tryd.ntmps7
      go_wp2_with fail
      refine (HD.out _).mono ?_
      rintro e w1 ⟨rfl, b1⟩
      have HB := hide (HB0.out.trans (b1.mono HB0.out.size))
      clear b1 HD
      go_wp2_with fail
      refine (bnum_any _ 1).mono ?_
      rintro e w4 ⟨rfl, hw4⟩
      subst hw4
      by_cases hd : 1 ≤ y ∧ y ≤ 32768
      · obtain ⟨S2, X2, G2, V2, k2, hs2⟩ := dsid y hd
        have HS2 := hide hs2
        have d1 : ¬ y < 1 := by omega
        have d2 : ¬ (32768 : Int) < y := by omega
        have e1 := hs2.h1
        have e2 := hs2.h2
        have e3 := hs2.h3
        have e4 := hs2.h4
        have e5 := hs2.h5
        have e6 := hs2.h6
        have e7 := hs2.h7
        have e8 := hs2.h8
        have e9 := hs2.h9
        have qy : (y == y) = true := by simp
        clear hs2 hd
        go_wp2_with fail
        refine (HS2.out.sym _ (HDT.out _ HB.out)).mono ?_
        rintro e wq ⟨rfl, bq⟩
        have HB4 := hide (HB.out.trans (bq.mono HB.out.size))
        clear bq
        go_wp2_with fail
        refine (HS2.out.back _ (HDT.out _ HB4.out)).mono ?_
        rintro e wr ⟨rfl, br⟩
        have HB5 := hide (HB4.out.trans (br.mono HB4.out.size))
        clear br
        go_wp2_with fail
        refine (HS2.out.over _ (HDT.out _ HB5.out)).mono ?_
        rintro e ws ⟨rfl, bs⟩
        have HB6 := hide (HB5.out.trans (bs.mono HB5.out.size))
        clear bs
        go_wp2_with fail
        refine (bnum_any _ 1).mono ?_
        rintro e wt ⟨rfl, hwt⟩
        subst hwt
        go_wp2
        go_ret
        exact ⟨rfl, HB6.out⟩
      · have HD := hide (fun wx => dsymbol_no y wx hd)
        by_cases d1 : y < 1
        · clear hd
          go_wp2_with fail
          refine (HD.out _).mono ?_
          rintro e wq ⟨rfl, bq⟩
          have HB4 := hide (HB.out.trans (bq.mono HB.out.size))
          clear bq
          go_wp2_with fail
          refine (bnum_any _ 1).mono ?_
          rintro e wt ⟨rfl, hwt⟩
          subst hwt
          go_wp2
          go_ret
          exact ⟨rfl, HB4.out⟩
        · have d2 : (32768 : Int) < y := by omega
          clear hd
          go_wp2_with fail
          refine (HD.out _).mono ?_
          rintro e wq ⟨rfl, bq⟩
          have HB4 := hide (HB.out.trans (bq.mono HB.out.size))
          clear bq
          go_wp2_with fail
          refine (bnum_any _ 1).mono ?_
          rintro e wt ⟨rfl, hwt⟩
          subst hwt
          go_wp2
          go_ret
          exact ⟨rfl, HB4.out⟩
    · have c1' : (3 : Int) ≤ x := by omega
      have c2 : ¬ x ≤ (258 : Int) := by omega
      clear hl
      go_enter Tryd.func7, Tryd.ntmps7
      go_wp2_with fail
      refine (HD.out _).mono ?_
      rintro e w1 ⟨rfl, b1⟩
      have HB := hide (HB0.out.trans (b1.mono HB0.out.size))
      clear b1 HD
      go_wp2_with fail
      refine (bnum_any _ 1).mono ?_
      rintro e w4 ⟨rfl, hw4⟩
      subst hw4
      by_cases hd : 1 ≤ y ∧ y ≤ 32768
      · obtain ⟨S2, X2, G2, V2, k2, hs2⟩ := dsid y hd
        have HS2 := hide hs2
        have d1 : ¬ y < 1 := by omega
        have d2 : ¬ (32768 : Int) < y := by omega
        have e1 := hs2.h1
        have e2 := hs2.h2
        have e3 := hs2.h3
        have e4 := hs2.h4
        have e5 := hs2.h5
        have e6 := hs2.h6
        have e7 := hs2.h7
        have e8 := hs2.h8
        have e9 := hs2.h9
        have qy : (y == y) = true := by simp
        clear hs2 hd
        go_wp2_with fail
        refine (HS2.out.sym _ (HDT.out _ HB.out)).mono ?_
        rintro e wq ⟨rfl, bq⟩
        have HB4 := hide (HB.out.trans (bq.mono HB.out.size))
        clear bq
        go_wp2_with fail
        refine (HS2.out.back _ (HDT.out _ HB4.out)).mono ?_
        rintro e wr ⟨rfl, br⟩
        have HB5 := hide (HB4.out.trans (br.mono HB4.out.size))
        clear br
        go_wp2_with fail
        refine (HS2.out.over _ (HDT.out _ HB5.out)).mono ?_
        rintro e ws ⟨rfl, bs⟩
        have HB6 := hide (HB5.out.trans (bs.mono HB5.out.size))
        clear bs
        go_wp2_with fail
        refine (bnum_any _ 1).mono ?_
        rintro e wt ⟨rfl, hwt⟩
        subst hwt
        go_wp2
        go_ret
        exact ⟨rfl, HB6.out⟩
      · have HD := hide (fun wx => dsymbol_no y wx hd)
        by_cases d1 : y < 1
        · clear hd
          go_wp2_with fail
          refine (HD.out _).mono ?_
          rintro e wq ⟨rfl, bq⟩
          have HB4 := hide (HB.out.trans (bq.mono HB.out.size))
          clear bq
          go_wp2_with fail
          refine (bnum_any _ 1).mono ?_
          rintro e wt ⟨rfl, hwt⟩
          subst hwt
          go_wp2
          go_ret
          exact ⟨rfl, HB4.out⟩
        · have d2 : (32768 : Int) < y := by omega
          clear hd
          go_wp2_with fail
          refine (HD.out _).mono ?_
          rintro e wq ⟨rfl, bq⟩
          have HB4 := hide (HB.out.trans (bq.mono HB.out.size))
          clear bq
          go_wp2_with fail
          refine (bnum_any _ 1).mono ?_
          rintro e wt ⟨rfl, hwt⟩
          subst hwt
          go_wp2
          go_ret
          exact ⟨rfl, HB4.out⟩
end Go.Proofs.YtbbbonphmffokaaDoor

