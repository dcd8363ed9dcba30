import Derived.Test.YtjdgeonlbjokaaaGLga
namespace Go.Proofs.Ytjdgeonlbjokaaa
open Go.RowKit Go.Maps Go.Shelf
set_option maxRecDepth 20000
set_option linter.unusedVariables false

set_option maxHeartbeats 4000000 in
theorem best_any (v : Value) (D : List Int) (a x y : Int) (z : Bool) (w : World) (h : SB w v D) (hB : Byt D) :
    Calls Try.prog 22 #[v, .int .i64 a, .agg #[.int .i64 x, .int .i64 y, .bool z]] w fun e w' => e = .returned (.tuple #[.int .i64 (bL D a x y : Nat), .int .i64 (bD D a x y : Nat), .int .i64 (bE D a x y)]) ∧ Below w.heap.size w w' := by
  have HB : Hid (Below w.heap.size w (w.alloc (.cells #[.int .i64 x, .int .i64 y, .bool z] 24))) := (Below.refl _ _).alloc (Nat.le_refl _) _
  have HS := hide (h.below ((Below.refl _ _).alloc (Nat.le_refl _) (.cells #[.int .i64 x, .int .i64 y, .bool z] 24)))
  obtain ⟨wb, hwb⟩ : ∃ wb, w.alloc (.cells #[.int .i64 x, .int .i64 y, .bool z] 24) = wb := ⟨_, rfl⟩
  have hbl : w.heap.size < wb.heap.size := by rw [← hwb]; simp
  have d1 : wb.cell? ⟨w.heap.size, 0, none⟩ = some (.int .i64 x) := by rw [← hwb]; unfold World.cell?; simp only [heap_alloc_new]; rfl
  have d2 : wb.cell? ⟨w.heap.size, 1, none⟩ = some (.int .i64 y) := by rw [← hwb]; unfold World.cell?; simp only [heap_alloc_new]; rfl
  have d3 : wb.cell? ⟨w.heap.size, 2, none⟩ = some (.bool z) := by rw [← hwb]; unfold World.cell?; simp only [heap_alloc_new]; rfl
  rw [hwb] at HB HS
  have HD1 := hide d1
  have HD2 := hide d2
  have HBT := hide hB
  obtain ⟨ao, cap, rfl, hlc, hcm⟩ := h.open
  clear h hB
  have HMB := hide (mayBe_any D ao cap x y z wb)
  go_enter Try.func22, Try.ntmps22
  go_wp2_with fail
  refine HMB.out.mono ?_
  rintro e w2 ⟨rfl, b2⟩
  have f1 : w2.cell? ⟨w.heap.size, 0, none⟩ = some (.int .i64 x) := (b2.cell hbl).trans HD1.out
  have f2 : w2.cell? ⟨w.heap.size, 1, none⟩ = some (.int .i64 y) := (b2.cell hbl).trans HD2.out
  have HB2 := hide (HB.out.trans (b2.mono HB.out.size))
  have HS2 := hide (HS.out.below b2)
  have hbl2 : w.heap.size < w2.heap.size := Nat.lt_of_lt_of_le hbl b2.size
  clear hwb b2 d1 d2 d3 HD1 HD2 HMB hbl HB HS
  by_cases hm : (D.length : Int) ≤ 16777216 ∧ Dmn x y
  · have HMM : Hid (mbb D.length x y = true) := decide_eq_true hm
    rw [HMM.out]
    by_cases h3 : a < 0
    · have HR := hide (bE_bad (D := D) (a := a) (x := x) (y := y) (fun q => by omega))
      clear hm
      go_wp2
      go_ret3
      rw [HR.out.1, HR.out.2.1, HR.out.2.2]
      exact ⟨rfl, HB2.out⟩
    · by_cases h4 : a < (D.length : Int)
      · have g4 : ¬ (D.length : Int) ≤ a := by omega
        obtain ⟨h1, h2⟩ := hm
        have HR := hide (bE_ok ⟨h1, h2, show 0 ≤ a by omega, h4⟩)
        unfold Dmn at h2
        obtain ⟨i, rfl⟩ := Int.eq_ofNat_of_zero_le (show 0 ≤ a by omega)
        obtain ⟨W, rfl⟩ := Int.eq_ofNat_of_zero_le (show 0 ≤ x by omega)
        obtain ⟨C, rfl⟩ := Int.eq_ofNat_of_zero_le (show 0 ≤ y by omega)
        simp only [Int.toNat_natCast] at HR
        rw [← lng_best] at HR
        obtain ⟨A, HA⟩ : ∃ A, Hid (A = asc D i (i - min i W) (min i W)) := ⟨_, rfl⟩
        have hAl : A.length ≤ 32768 := by rw [HA.out]; have := asc_len D i (i - min i W) (min i W); omega
        have HAm : Hid (∀ j ∈ A.drop (A.length - C), j < i) := fun j hj => by
          have := List.mem_of_mem_drop hj
          rw [HA.out] at this
          have := asc_mem this
          omega
        have HAr : Hid ((A.drop (A.length - C)).reverse = (cds D i (min i W)).take C) := by show _ = _; rw [near_rev, HA.out]; rfl
        have HCA : Hid (∀ wx, Below w2.heap.size w2 wx → Calls Try.prog 31 #[.slice ao D.length cap, .int .i64 i, .int .i64 W] wx fun e w' => ∃ u, e = .returned u ∧ OI w' w2.heap.size u (ins A) ∧ Below wx.heap.size wx w' ∧ Below w2.heap.size w2 w') := fun wx hbx => (cands_any _ D i W wx (HS2.out.below hbx) (by omega) (by omega) (by omega)).mono fun e w' ⟨u, h1, h2, h3⟩ => ⟨u, h1, by rw [← HA.out] at h2; exact h2.base hbx.size, h3, hbx.trans (h3.mono hbx.size)⟩
        rw [← HAr.out] at HR
        have HNE : Hid (∀ wx u, OI wx w2.heap.size u (ins A) → Calls Try.prog 30 #[u, .int .i64 C] wx fun e w' => ∃ v', e = .returned v' ∧ SI wx v' (ins (A.drop (A.length - C))) ∧ w' = wx) := fun wx u q => by
          have := nearest_any u (ins A) C wx q.sb (by rw [ins_len]; omega) (by omega)
          rwa [ins_len, ins_drop] at this
        obtain ⟨l, HL⟩ : ∃ l, Hid (l = A.drop (A.length - C)) := ⟨_, rfl⟩
        rw [← HL.out] at HAm HNE HR
        have hll : l.length ≤ 32768 := by rw [HL.out, List.length_drop]; omega
        have HLO : Hid (∀ wx pv, SB wx (.slice ao D.length cap) D → SI wx pv (ins l) → Calls Try.prog 29 #[.slice ao D.length cap, .int .i64 i, pv, .int .i64 2] wx fun e w' => e = .returned (.agg #[.int .i64 ((lng D i l.reverse 2).1 : Nat), .int .i64 ((lng D i l.reverse 2).2 : Nat), .int .u8 0]) ∧ Below wx.heap.size wx w') := fun wx pv q1 q2 => longest_any _ pv D i 2 l wx q1 q2 HBT.out (by omega) (by omega) (by omega) HAm.out (by omega)
        obtain ⟨X, HX⟩ : ∃ X, Hid (X = (lng D i l.reverse 2).1) := ⟨_, rfl⟩
        obtain ⟨Y, HY⟩ : ∃ Y, Hid (Y = (lng D i l.reverse 2).2) := ⟨_, rfl⟩
        rw [← HX.out, ← HY.out] at HLO HR
        have e1 : w2.drew.cell? ⟨w.heap.size, 0, none⟩ = some (.int .i64 (W : Int)) := f1
        have e2 : w2.drew.cell? ⟨w.heap.size, 1, none⟩ = some (.int .i64 (C : Int)) := f2
        have HE2 := hide e2
        have hbl3 : w.heap.size < w2.heap.size := hbl2
        have HF2 := hide f2
        have hsz := HB2.out.size
        have HD0 : Hid (Below w2.heap.size w2 w2.drew) := (Below.refl _ _).drew
        have HDZ : Hid (Below w2.heap.size w2 (w2.alloc (.cells #[.int .i64 0, .int .i64 0, .int .u8 0] 38)).drew) := ((Below.refl _ _).alloc (Nat.le_refl _) _).drew
        have e3 : (w2.alloc (.cells #[.int .i64 0, .int .i64 0, .int .u8 0] 38)).drew.cell? ⟨w.heap.size, 0, none⟩ = some (.int .i64 (W : Int)) := (HDZ.out.cell hbl2).trans f1
        have e4 : (w2.alloc (.cells #[.int .i64 0, .int .i64 0, .int .u8 0] 38)).drew.cell? ⟨w.heap.size, 1, none⟩ = some (.int .i64 (C : Int)) := (HDZ.out.cell hbl2).trans f2
        have HSB : Hid (∀ wx, Below w2.heap.size w2 wx → SB wx (.slice ao D.length cap) D) := fun wx q => HS2.out.below q
        have HFI : Hid (∀ wx, Below w2.heap.size w2 wx → Below w.heap.size w wx) := fun wx q => HB2.out.trans (q.mono hsz)
        have HAL : Hid (∀ wx o, Below w2.heap.size w2 wx → Below w2.heap.size w2 (wx.alloc o)) := fun wx o q => q.alloc q.size o
        have HVA : Hid (∀ (wx : World) o pv, SI wx pv (ins l) → SI (wx.alloc o) pv (ins l)) := fun wx o pv q => q.below ((Below.refl _ _).alloc (Nat.le_refl _) o)
        have HC2 : Hid (∀ wx, Below w2.heap.size w2 wx → wx.cell? ⟨w.heap.size, 1, none⟩ = some (.int .i64 (C : Int))) := fun wx q => (q.cell hbl2).trans HF2.out
        have HG2 : Hid (w.heap.size ≤ w2.heap.size) := hsz
        clear h2
        go_wp2
        go_region_with (first
          | (go_at_call 31; refine (HCA.out _ HD0.out).mono ?_; rintro e w3 ⟨u3, rfl, o3, _, b3⟩; have hs3 := b3.size; have e5 := HC2.out _ b3; have e6 := HC2.out _ (HAL.out _ (.cells #[.int .i64 0, .int .i64 0, .int .u8 0] 38) b3); have HO4 := hide o3; have HB4 := hide b3; clear o3 b3)
          | (go_at_call 31; refine (HCA.out _ HDZ.out).mono ?_; rintro e w3 ⟨u3, rfl, o3, bb3, b3⟩; have HBX : Hid (Box3 w3 w2.heap.size) := ((show Box3 (w2.alloc (.cells #[.int .i64 0, .int .i64 0, .int .u8 0] 38)).drew w2.heap.size from Box3.new _).far bb3); have hs3 := b3.size; have e5 := HC2.out _ b3; have HO4 := hide o3; have HB4 := hide b3; clear o3 b3 bb3)
          | (go_at_call 30; refine (HNE.out _ _ HO4.out).mono ?_; rintro e w4 ⟨v4, rfl, hv4, hw4⟩; subst hw4; have HV4 := hide hv4; clear hv4)
          | (go_at_call 30; refine (HNE.out _ _ (HO4.out.alloc _)).mono ?_; rintro e w4 ⟨v4, rfl, hv4, hw4⟩; rw [← hw4] at hv4; have HV4 := hide hv4; have HB5 : Hid (Below w2.heap.size w2 w4) := (by rw [hw4]; exact HAL.out _ _ HB4.out); have HBX : Hid (Box3 w4 w3.heap.size) := (by rw [hw4]; exact Box3.new _); clear hv4 hw4 HB4; have HB4 := hide HB5.out; clear HB5)
          | (go_at_call 29; refine (HLO.out _ _ (HSB.out _ HB4.out) HV4.out).mono ?_; rintro e w5 ⟨rfl, b5⟩; have HB6 := hide (HB4.out.trans (b5.mono HB4.out.size)); (try (have HBX6 := hide (HBX.out.far b5); obtain ⟨x1, x2, x3, x4, x5, x6⟩ := HBX6.out.cells)); clear b5)
          | (go_at_call 29; refine (HLO.out _ _ (HSB.out _ (HAL.out _ _ HB4.out)) (HVA.out _ _ _ HV4.out)).mono ?_; rintro e w5 ⟨rfl, b5⟩; have HB6 := hide ((HAL.out _ _ HB4.out).trans (b5.mono (HAL.out _ _ HB4.out).size)); have HBX6 : Hid (Box3 w5 w4.heap.size) := ((Box3.new _).far b5); obtain ⟨x1, x2, x3, x4, x5, x6⟩ := HBX6.out.cells; clear b5))
        all_goals
          clear HCA HNE HLO HD0 HDZ e1 e2 e3 e4 HE2 HF2 HSB HAL HVA HC2 HBT HS2 HA HAr HAm
          first
          | (have hF := HBX6.out.put (HFI.out _ HB6.out) (by omega) (X : Int) (Y : Int)
             obtain ⟨c0, c1, hbF⟩ := hF
             have HBF := hide hbF
             clear hbF x1 x2 x3 x4 x5 x6 HBX6
             go_wp2
             go_quiet (fail)
             go_wp2
             go_ret3
             rw [HR.out.1, HR.out.2.1, HR.out.2.2]
             exact ⟨rfl, below_drewN HBF.out _⟩)
          | (have hF := new_put (HFI.out _ HB6.out) (HFI.out _ HB6.out).size (X : Int) (Y : Int)
             obtain ⟨c0, c1, hbF⟩ := hF
             have HBF := hide hbF
             clear hbF
             go_wp2
             go_quiet (fail)
             go_wp2
             go_ret3
             rw [HR.out.1, HR.out.2.1, HR.out.2.2]
             exact ⟨rfl, below_drewN HBF.out _⟩)
      · have g4 : (D.length : Int) ≤ a := by omega
        have HR := hide (bE_bad (D := D) (a := a) (x := x) (y := y) (fun q => h4 q.2.2.2))
        clear hm
        go_wp2
        go_ret3
        rw [HR.out.1, HR.out.2.1, HR.out.2.2]
        exact ⟨rfl, HB2.out⟩
  · have HMM : Hid (mbb D.length x y = false) := decide_eq_false hm
    rw [HMM.out]
    have HR := hide (bE_bad (D := D) (a := a) (x := x) (y := y) (fun q => hm ⟨q.1, q.2.1⟩))
    clear hm
    go_wp2
    go_ret3
    rw [HR.out.1, HR.out.2.1, HR.out.2.2]
    exact ⟨rfl, HB2.out⟩
end Go.Proofs.Ytjdgeonlbjokaaa

