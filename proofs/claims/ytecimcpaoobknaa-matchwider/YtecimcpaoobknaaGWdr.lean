import Derived.Test.YtecimcpaoobknaaGBbw
import Derived.Test.YtecimcpaoobknaaGLnb
import Derived.Test.YtecimcpaoobknaaGCnt
import Derived.Test.YtecimcpaoobknaaGMn
import Derived.Lib.SlBytesConst
import Derived.Deep.DeepCutAuto
import Derived.Deep.RegionHeld3
namespace Go.Proofs.Ytecimcpaoobknaa
open Go.RowKit Go.Maps
set_option maxRecDepth 20000
set_option linter.unusedVariables false

def D0 : List Int := [97, 98, 99, 97, 98, 99, 97, 98, 100]
theorem live_num : bE D0 3 32768 4096 = 0 ∧ bL D0 3 32768 4096 = 5 ∧ bD D0 3 32768 4096 = 3 := by decide +kernel
theorem live_byt : Byt D0 := fun i => by
  by_cases h : i < 9
  · have : i = 0 ∨ i = 1 ∨ i = 2 ∨ i = 3 ∨ i = 4 ∨ i = 5 ∨ i = 6 ∨ i = 7 ∨ i = 8 := by omega
    rcases this with rfl | rfl | rfl | rfl | rfl | rfl | rfl | rfl | rfl <;> decide
  · have : D0.getD i 0 = 0 := by
      have hl : D0.length = 9 := rfl
      simp [show ¬ i < D0.length by omega]
    rw [this]; decide

theorem lives_any (w : World) : Calls Try.prog 21 #[] w fun e w' => e = .returned (.bool true) ∧ Below w.heap.size w w' := by
  have HB : Hid (Below w.heap.size w (w.alloc (.cells #[.int .u8 97, .int .u8 98, .int .u8 99, .int .u8 97, .int .u8 98, .int .u8 99, .int .u8 97, .int .u8 98, .int .u8 100] 5 (9, 10)))) := (Below.refl _ _).alloc (Nat.le_refl _) _
  have hs : SB (w.alloc (.cells #[.int .u8 97, .int .u8 98, .int .u8 99, .int .u8 97, .int .u8 98, .int .u8 99, .int .u8 97, .int .u8 98, .int .u8 100] 5 (9, 10))) (.slice (some ⟨w.heap.size, 0, none⟩) 9 9) D0 := by
    refine ⟨_, _, rfl, Nat.le_refl _, by unfold maxLen; decide, (fun h => by cases h), fun x hx i hi => ?_⟩
    cases hx
    rw [Addr.add_lit]
    have e := heap_alloc_new w (.cells #[.int .u8 97, .int .u8 98, .int .u8 99, .int .u8 97, .int .u8 98, .int .u8 99, .int .u8 97, .int .u8 98, .int .u8 100] 5 (9, 10))
    refine cellOf e ?_
    have hi9 : i < 9 := hi
    have : i = 0 ∨ i = 1 ∨ i = 2 ∨ i = 3 ∨ i = 4 ∨ i = 5 ∨ i = 6 ∨ i = 7 ∨ i = 8 := by omega
    rcases this with rfl | rfl | rfl | rfl | rfl | rfl | rfl | rfl | rfl <;> rfl
  have kc := Lib.run_convert_bytes_const (P := Try.prog) w 26 5 #[.int .u8 97, .int .u8 98, .int .u8 99, .int .u8 97, .int .u8 98, .int .u8 99, .int .u8 97, .int .u8 98, .int .u8 100] 9 9 Try.underlying26 Try.underlying5
  have HBE := hide (best_any _ D0 3 32768 4096 false _ hs live_byt)
  obtain ⟨n1, n2, n3⟩ := live_num
  rw [n1, n2, n3] at HBE
  clear n1 n2 n3 hs
  go_enter Try.func21, Try.ntmps21
  go_wp2_with fail
  refine HBE.out.mono ?_
  rintro e w2 ⟨rfl, b2⟩
  have HB2 := hide (HB.out.trans (b2.mono HB.out.size))
  clear b2 kc
  go_wp2
  go_ret
  exact ⟨rfl, HB2.out⟩

/-- What Best tells is a copy that counts. -/
theorem best_is {D : List Int} {i W C : Nat} : (bst D i W C = (0, 0)) ∨ ∃ j, j < i ∧ i - j ≤ W ∧ 3 ≤ rno D j i ∧ bst D i W C = (rno D j i, i - j) ∧ cntb D j i W C = true := by
  rcases bst_facts (D := D) (i := i) (W := W) (C := C) with h | ⟨j, h1, h2, h3, h4, h5, h6⟩
  · exact .inl h
  · refine .inr ⟨j, h1, h2, h4, h5, decide_eq_true ⟨h2, h3, ?_⟩⟩
    rw [between_len h1]
    exact near_counts (Nat.min_le_left _ _) h6

/-- The second effort. -/
def More (wx : World) (g : Nat) (X Y : Nat) (z : Bool) : Prop := wx.heap[g]? = some (.cells #[.int .i64 (X : Int), .int .i64 (Y : Int), .bool z] 41 (0, 0))
theorem More.cells {wx : World} {g X Y : Nat} {z : Bool} (h : More wx g X Y z) : wx.cell? ⟨g, 0, none⟩ = some (.int .i64 (X : Int)) ∧ wx.cell? ⟨g, 1, none⟩ = some (.int .i64 (Y : Int)) ∧ wx.cell? ⟨g, 2, none⟩ = some (.bool z) ∧ wx.frozen? ⟨g, 0, none⟩ = false ∧ wx.frozen? ⟨g, 1, none⟩ = false := ⟨cellOf h rfl, cellOf h rfl, cellOf h rfl, frozenOf h, frozenOf h⟩
theorem More.drewN {wx : World} {g X Y : Nat} {z : Bool} (h : More wx g X Y z) (n : Nat) : More (wx.drewN n) g X Y z := h
theorem More.drew {wx : World} {g X Y : Nat} {z : Bool} (h : More wx g X Y z) : More wx.drew g X Y z := h
theorem More.set1 {wx : World} {g X Y : Nat} {z : Bool} (h : More wx g X Y z) (Y' : Nat) : More (wx.setCell ⟨g, 1, none⟩ (.int .i64 (Y' : Int))) g X Y' z := by unfold More; rw [heap_setCell_at _ h]; rfl
theorem More.set0 {wx : World} {g X Y : Nat} {z : Bool} (h : More wx g X Y z) (X' : Nat) : More (wx.setCell ⟨g, 0, none⟩ (.int .i64 (X' : Int))) g X' Y z := by unfold More; rw [heap_setCell_at _ h]; rfl
theorem below_set {B g o : Nat} {w wx : World} {u : Value} (h : Below B w wx) (hg : B ≤ g) : Below B w (wx.setCell ⟨g, o, none⟩ u) :=
  ⟨h.os, h.tape, h.output, by rw [size_setCell]; exact h.size, fun j hj => by rw [setCell_others _ _ _ _ j (by omega)]; exact h.block j hj⟩

set_option maxHeartbeats 8000000 in
theorem matchWider_walk (v : Value) (D : List Int) (a x y : Int) (z : Bool) (ch wi : Int) (w : World) (h : SB w v D) (hB : Byt D) (hr : D.length ≤ 140737488351232) :
    Calls Try.prog 6 #[v, .int .i64 a, .agg #[.int .i64 x, .int .i64 y, .bool z], .int .i64 ch, .int .i64 wi] w fun e w' => e = .returned (.bool true) ∧ Below w.heap.size w w' := by
  have HB : Hid (Below w.heap.size w (w.alloc (.cells #[.int .i64 x, .int .i64 y, .bool z] 41))) := (Below.refl _ _).alloc (Nat.le_refl _) _
  have HS := hide (h.below ((Below.refl _ _).alloc (Nat.le_refl _) (.cells #[.int .i64 x, .int .i64 y, .bool z] 41)))
  obtain ⟨wb, hwb⟩ : ∃ wb, w.alloc (.cells #[.int .i64 x, .int .i64 y, .bool z] 41) = wb := ⟨_, rfl⟩
  have hbl : w.heap.size < wb.heap.size := by rw [← hwb]; simp
  have d1 : wb.cell? ⟨w.heap.size, 0, none⟩ = some (.int .i64 x) := by rw [← hwb]; unfold World.cell?; simp only [heap_alloc_new]; rfl
  have d2 : wb.cell? ⟨w.heap.size, 1, none⟩ = some (.int .i64 y) := by rw [← hwb]; unfold World.cell?; simp only [heap_alloc_new]; rfl
  have d3 : wb.cell? ⟨w.heap.size, 2, none⟩ = some (.bool z) := by rw [← hwb]; unfold World.cell?; simp only [heap_alloc_new]; rfl
  rw [hwb] at HB HS
  have HBT := hide hB
  have HC : Hid (∀ wx, Below wb.heap.size wb wx → wx.cell? ⟨w.heap.size, 0, none⟩ = some (.int .i64 x) ∧ wx.cell? ⟨w.heap.size, 1, none⟩ = some (.int .i64 y) ∧ wx.cell? ⟨w.heap.size, 2, none⟩ = some (.bool z)) := fun wx q => ⟨(q.cell hbl).trans d1, (q.cell hbl).trans d2, (q.cell hbl).trans d3⟩
  have HFI : Hid (∀ wx, Below wb.heap.size wb wx → Below w.heap.size w wx) := fun wx q => HB.out.trans (q.mono HB.out.size)
  have HSB : Hid (∀ wx, Below wb.heap.size wb wx → SB wx v D) := fun wx q => HS.out.below q
  obtain ⟨ao, cap, rfl, hlc, hcm⟩ := h.open
  clear h hB
  go_enter Try.func6, Try.ntmps6
  go_wp2_with fail
  clear hwb d1 d2 d3
  refine (lives_any wb).mono ?_
  rintro e w2 ⟨rfl, b2⟩
  have HB2 := hide b2
  obtain ⟨f1, f2, f3⟩ := HC.out _ b2
  clear b2
  by_cases h1 : (D.length : Int) ≤ 16777216
  · have g1 : ¬ (16777216 : Int) < (D.length : Int) := by omega
    go_wp2_with fail
    refine (ldom_any x y z w2).mono ?_
    rintro e w3 ⟨rfl, b3⟩
    have HB3 := hide (HB2.out.trans (b3.mono HB2.out.size))
    clear b3 f1 f2 f3
    obtain ⟨f1, f2, f3⟩ := HC.out _ HB3.out
    by_cases h2 : Dmn x y
    · have HDD : Hid (dmn x y = true) := decide_eq_true h2
      rw [HDD.out]
      by_cases h3 : a < 0
      · go_wp2
        go_ret
        exact ⟨rfl, HFI.out _ HB3.out⟩
      · by_cases h4 : (D.length : Int) ≤ a
        · go_wp2
          go_ret
          exact ⟨rfl, HFI.out _ HB3.out⟩
        · have HR := hide (bE_ok ⟨h1, h2, show 0 ≤ a by omega, show a < (D.length : Int) by omega⟩)
          have HDM := hide h2
          unfold Dmn at h2
          obtain ⟨i, rfl⟩ := Int.eq_ofNat_of_zero_le (show 0 ≤ a by omega)
          obtain ⟨W, rfl⟩ := Int.eq_ofNat_of_zero_le (show 0 ≤ x by omega)
          obtain ⟨C, rfl⟩ := Int.eq_ofNat_of_zero_le (show 0 ≤ y by omega)
          simp only [Int.toNat_natCast] at HR
          have HCP := hide (copied_any _ D w3.drew ((HSB.out _ HB3.out).below (Below.refl _ _).drew) hr)
          have HBS : Hid (∀ wx u (X Y : Nat), SB wx u D → Dmn (X : Int) (Y : Int) → Calls Try.prog 22 #[u, .int .i64 (i : Int), .agg #[.int .i64 (X : Int), .int .i64 (Y : Int), .bool z]] wx fun e w' => e = .returned (.tuple #[.int .i64 ((bst D i X Y).1 : Nat), .int .i64 ((bst D i X Y).2 : Nat), .int .i64 0]) ∧ Below wx.heap.size wx w') := fun wx u X Y q qd => by
            have hb := best_any u D (i : Int) (X : Int) (Y : Int) z wx q HBT.out
            obtain ⟨e1, e2, e3⟩ := bE_ok (D := D) (a := (i : Int)) (x := (X : Int)) (y := (Y : Int)) ⟨h1, qd, by omega, by omega⟩
            rw [e1, e2, e3] at hb
            simpa only [Int.toNat_natCast] using hb
          have hiD : i < D.length := by omega
          have hWb : W ≤ 32768 ∧ 1 ≤ W ∧ C ≤ 4096 := by omega
          have hDb : D.length ≤ 16777216 := by omega
          have e1 : w3.drew.cell? ⟨w.heap.size, 0, none⟩ = some (.int .i64 (W : Int)) := f1
          have e2 : w3.drew.cell? ⟨w.heap.size, 1, none⟩ = some (.int .i64 (C : Int)) := f2
          have e3 : w3.drew.cell? ⟨w.heap.size, 2, none⟩ = some (.bool z) := f3
          have HB3D : Hid (Below wb.heap.size wb w3.drew) := HB3.out.drew
          have HPK := hide (best_is (D := D) (i := i) (W := W) (C := C))
          obtain ⟨P, HPP⟩ : ∃ P, Hid (P = bst D i W C) := ⟨_, rfl⟩
          have HBW := hide (HBS.out · · W C · HDM.out)
          rw [← HPP.out] at HPK
          obtain ⟨l, d⟩ := P
          have HBW2 : Hid (∀ wx u, SB wx u D → Calls Try.prog 22 #[u, .int .i64 (i : Int), .agg #[.int .i64 (W : Int), .int .i64 (C : Int), .bool z]] wx fun e w' => e = .returned (.tuple #[.int .i64 (l : Int), .int .i64 (d : Int), .int .i64 0]) ∧ Below wx.heap.size wx w') := fun wx u q => by
            have := HBS.out wx u W C q HDM.out
            rw [← HPP.out] at this
            exact this
          clear h2 HR HBW h3 h4
          go_wp2
          go_cut [11, 12, 13] (fun s11 s12 s13 wx => s11 = .int .i64 (l : Int) ∧ s12 = .int .i64 (d : Int) ∧ s13 = .int .i64 0 ∧ Hid (Below wb.heap.size wb wx))
          case first =>
            go_region_with (first
              | (go_at_call 23; refine HCP.out.mono ?_; rintro e w4 ⟨a4, c4, rfl, o4, b4⟩; have HO4 := hide o4.sb; have HB4 := hide (HB3D.out.trans (b4.mono HB3D.out.size)); obtain ⟨k1, k2, k3⟩ := HC.out _ HB4.out; clear o4 b4)
              | (go_at_call 22; refine (HBW2.out _ _ HO4.out).mono ?_; rintro e w5 ⟨rfl, b5⟩; have HB5 := hide (HB4.out.trans (b5.mono HB4.out.size)); clear b5))
            all_goals
              go_wp2_with fail
              go_meet
              exact ⟨rfl, rfl, rfl, HB5⟩
          case rest =>
          obtain ⟨rfl, rfl, rfl, HB5⟩ := hcut
          clear e1 e2 e3 f1 f2 f3 HBW2 HCP HB3D HB3
          obtain ⟨f1, f2, f3⟩ := HC.out _ HB5.out
          go_upto_region 8 with fail
          go_cut [97] (fun s97 wx => s97 = .bool false ∧ Hid (Below wb.heap.size wb wx))
          case first =>
            rcases HPK.out with hz | ⟨j, j1, j2, j3, j4, j5⟩
            · simp only [Prod.mk.injEq] at hz
              obtain ⟨rfl, rfl⟩ := hz
              go_wp2_with fail
              go_meet
              exact ⟨rfl, HB5⟩
            · simp only [Prod.mk.injEq] at j4
              obtain ⟨hl, hd⟩ := j4
              have HRU := hide (lrun_any _ D j i wc (HSB.out _ HB5.out) j1 hiD (by omega))
              have HCO := hide (fun n => counts_any _ D j i W C z (wc.drewN n) (HSB.out _ (below_drewN HB5.out n)) j1 hiD (by omega) (by omega) (by omega))
              rw [← hl] at HRU
              rw [j5] at HCO
              have ej : (i : Int) - (d : Int) = (j : Int) := by omega
              have q1 : ((l : Int) == 0) = false := by simp; omega
              have q2 : (0 : Int) < (l : Int) := by omega
              have q3 : ¬ (d : Int) < 1 := by omega
              have q4 : ¬ (i : Int) < (d : Int) := by omega
              have q5 : ¬ (W : Int) < (d : Int) := by omega
              have q6 : ¬ (l : Int) < 3 := by omega
              have q7 : ((l : Int) != (l : Int)) = false := by simp
              have q8 : d ≤ i := by omega
              have HD3 : Hid (∀ n, (wc.drewN n).cell? ⟨w.heap.size, 0, none⟩ = some (.int .i64 (W : Int)) ∧ (wc.drewN n).cell? ⟨w.heap.size, 1, none⟩ = some (.int .i64 (C : Int)) ∧ (wc.drewN n).cell? ⟨w.heap.size, 2, none⟩ = some (.bool z)) := fun n => ⟨f1, f2, f3⟩
              clear hl hd j3 j5 HPK
              go_wp2_with fail
              refine HRU.out.mono ?_
              rintro e w7 ⟨rfl, n7, hw7⟩
              subst hw7
              obtain ⟨k1, k2, k3⟩ := HD3.out n7
              go_wp2_with fail
              refine (HCO.out n7).mono ?_
              rintro e w8 ⟨rfl, b8⟩
              have HB8 := hide ((below_drewN HB5.out n7).trans (b8.mono HB5.out.size))
              clear b8
              go_wp2_with fail
              go_meet
              exact ⟨rfl, HB8⟩
          case rest =>
          obtain ⟨rfl, HB8⟩ := hcut
          clear f1 f2 f3 HB5
          obtain ⟨f1, f2, f3⟩ := HC.out _ HB8.out
          have HB9 : Hid (Below wb.heap.size wb (wc.alloc (.cells #[.int .i64 (W : Int), .int .i64 (C : Int), .bool z] 41))) := HB8.out.alloc HB8.out.size _
          have HM9 : Hid (More (wc.alloc (.cells #[.int .i64 (W : Int), .int .i64 (C : Int), .bool z] 41)) wc.heap.size W C z) := heap_alloc_new wc _
          obtain ⟨m1, hm1, hm1b⟩ : ∃ m : Nat, ch % 4097 = (m : Int) ∧ m ≤ 4096 := by
            have p1 := Int.emod_nonneg ch (show (4097 : Int) ≠ 0 by decide)
            have p2 := Int.emod_lt_of_pos ch (show (0 : Int) < 4097 by decide)
            obtain ⟨m, e⟩ := Int.eq_ofNat_of_zero_le p1
            exact ⟨m, e, by omega⟩
          obtain ⟨m2, hm2, hm2b⟩ : ∃ m : Nat, wi % 32768 = (m : Int) ∧ m ≤ 32767 := by
            have p1 := Int.emod_nonneg wi (show (32768 : Int) ≠ 0 by decide)
            have p2 := Int.emod_lt_of_pos wi (show (0 : Int) < 32768 by decide)
            obtain ⟨m, e⟩ := Int.eq_ofNat_of_zero_le p1
            exact ⟨m, e, by omega⟩
          have HW1 : Hid (∀ wx, Calls Try.prog 18 #[.int .i64 ch, .int .i64 4097] wx fun e w' => e = .returned (.int .i64 (m1 : Int)) ∧ w' = wx) := fun wx => by rw [← hm1]; exact which_any ch 4097 (by decide) (by decide) wx
          have HW2 : Hid (∀ wx, Calls Try.prog 18 #[.int .i64 wi, .int .i64 32768] wx fun e w' => e = .returned (.int .i64 (m2 : Int)) ∧ w' = wx) := fun wx => by rw [← hm2]; exact which_any wi 32768 (by decide) (by decide) wx
          obtain ⟨w9, hw9⟩ : ∃ w9, wc.alloc (.cells #[.int .i64 (W : Int), .int .i64 (C : Int), .bool z] 41) = w9 := ⟨_, rfl⟩
          obtain ⟨gm, hgm⟩ : ∃ g, wc.heap.size = g := ⟨_, rfl⟩
          have hgb : wb.heap.size ≤ gm := by rw [← hgm]; exact HB8.out.size
          rw [hw9] at HB9 HM9
          rw [hgm] at HM9
          have hne : ¬ w.heap.size = gm := by omega
          clear hm1 hm2
          go_upto_region 11 with fail
          clear hw9 hgm f1 f2 f3 HB8
          obtain ⟨f1, f2, f3⟩ := HC.out _ HB9.out
          obtain ⟨y1, y2, y3, y4, y5⟩ := HM9.out.cells
          go_cut [] (fun wx => ∃ C' : Nat, C ≤ C' ∧ C' ≤ 4096 ∧ Hid (More wx gm W C' z) ∧ Hid (Below wb.heap.size wb wx))
          case first =>
            have e1 : w9.drew.cell? ⟨w.heap.size, 1, none⟩ = some (.int .i64 (C : Int)) := f2
            have e2 : w9.drew.cell? ⟨gm, 1, none⟩ = some (.int .i64 (C : Int)) := y2
            have e3 : w9.drew.frozen? ⟨gm, 1, none⟩ = false := y5
            by_cases hc : C < m1
            · have hc' : (C : Int) < (m1 : Int) := by omega
              go_region_with (go_at_call 18; refine (HW1.out _).mono ?_; rintro e w10 ⟨rfl, hw10⟩; subst hw10)
              all_goals
                go_wp2_with fail
                go_meet
                exact ⟨m1, by omega, by omega, HM9.out.drew.set1 m1, below_set HB9.out.drew hgb⟩
            · have hc' : ¬ (C : Int) < (m1 : Int) := by omega
              go_region_with (go_at_call 18; refine (HW1.out _).mono ?_; rintro e w10 ⟨rfl, hw10⟩; subst hw10)
              all_goals
                go_wp2_with fail
                go_meet
                exact ⟨C, by omega, by omega, HM9.out.drew.set1 C, below_set HB9.out.drew hgb⟩
          case rest =>
          obtain ⟨C', hC1, hC2, HM10, HB10⟩ := hcut
          clear f1 f2 f3 y1 y2 y3 y4 y5 HM9 HB9 HW1
          obtain ⟨f1, f2, f3⟩ := HC.out _ HB10.out
          obtain ⟨y1, y2, y3, y4, y5⟩ := HM10.out.cells
          go_upto_region 12 with fail
          go_cut [] (fun wx => ∃ W' : Nat, W ≤ W' ∧ W' ≤ 32768 ∧ Hid (More wx gm W' C' z) ∧ Hid (Below wb.heap.size wb wx))
          case first =>
            have e1 : wc.drew.cell? ⟨w.heap.size, 0, none⟩ = some (.int .i64 (W : Int)) := f1
            have e2 : wc.drew.cell? ⟨gm, 0, none⟩ = some (.int .i64 (W : Int)) := y1
            have e3 : wc.drew.frozen? ⟨gm, 0, none⟩ = false := y4
            have k2 : (m2 : Int) + 1 = ((m2 + 1 : Nat) : Int) := by omega
            obtain ⟨m3, hm3⟩ : ∃ m3, m3 = m2 + 1 := ⟨_, rfl⟩
            rw [← hm3] at k2
            have hm3b : m3 ≤ 32768 := by omega
            have k1 : IntKind.i64.wrap (m3 : Int) = (m3 : Int) := by rw [IntKind.wrap_i64]; omega
            clear hm3
            by_cases hc : W < m3
            · have hc' : (W : Int) < (m3 : Int) := by omega
              go_region_with (go_at_call 18; refine (HW2.out _).mono ?_; rintro e w10 ⟨rfl, hw10⟩; subst hw10)
              all_goals
                go_wp2_with fail
                go_meet
                exact ⟨m3, by omega, by omega, HM10.out.drew.set0 m3, below_set HB10.out.drew hgb⟩
            · have hc' : ¬ (W : Int) < (m3 : Int) := by omega
              go_region_with (go_at_call 18; refine (HW2.out _).mono ?_; rintro e w10 ⟨rfl, hw10⟩; subst hw10)
              all_goals
                go_wp2_with fail
                go_meet
                exact ⟨W, by omega, by omega, HM10.out.drew.set0 W, below_set HB10.out.drew hgb⟩
          case rest =>
          obtain ⟨W', hW1, hW2, HM11, HB11⟩ := hcut
          clear f1 f2 f3 y1 y2 y3 y4 y5 HM10 HB10 HW2
          obtain ⟨y1, y2, y3, y4, y5⟩ := HM11.out.cells
          have HWI := hide (bst_wider (D := D) (i := i) hW1 hC1)
          rw [← HPP.out] at HWI
          have HBM := hide (fun wx u q => HBS.out wx u W' C' q ⟨by omega, by omega, by omega, by omega⟩)
          obtain ⟨l', HL'⟩ : ∃ l', Hid (l' = (bst D i W' C').1) := ⟨_, rfl⟩
          obtain ⟨d', HD'⟩ : ∃ l', Hid (l' = (bst D i W' C').2) := ⟨_, rfl⟩
          rw [← HL'.out, ← HD'.out] at HBM
          rw [← HL'.out] at HWI
          have hll : l ≤ l' := HWI.out
          go_upto_region 13 with fail
          have HCP2 := hide (copied_any _ D wc.drew ((HSB.out _ HB11.out).below (Below.refl _ _).drew) hr)
          have e1 : wc.drew.cell? ⟨gm, 0, none⟩ = some (.int .i64 (W' : Int)) := y1
          have e2 : wc.drew.cell? ⟨gm, 1, none⟩ = some (.int .i64 (C' : Int)) := y2
          have e3 : wc.drew.cell? ⟨gm, 2, none⟩ = some (.bool z) := y3
          have HGZ : Hid (gm < wc.drew.heap.size) := (Array.getElem?_eq_some_iff.1 HM11.out).1
          have HMD : Hid (More wc.drew gm W' C' z) := HM11.out
          have HBD : Hid (Below wb.heap.size wb wc.drew) := HB11.out.drew
          have HCP3 : Hid (Calls Try.prog 23 #[.slice ao D.length cap] wc.drew fun e w' => ∃ a c, e = .returned (.slice a D.length c) ∧ SB w' (.slice a D.length c) D ∧ Below wb.heap.size wb w' ∧ w'.cell? ⟨gm, 0, none⟩ = some (.int .i64 (W' : Int)) ∧ w'.cell? ⟨gm, 1, none⟩ = some (.int .i64 (C' : Int)) ∧ w'.cell? ⟨gm, 2, none⟩ = some (.bool z)) := HCP2.out.mono fun e w' ⟨a, c, he, ho, hb⟩ => by
            have hm : More w' gm W' C' z := (hb.block gm HGZ.out).trans HMD.out
            exact ⟨a, c, he, ho.sb, HBD.out.trans (hb.mono HBD.out.size), hm.cells.1, hm.cells.2.1, hm.cells.2.2.1⟩
          clear HCP2
          go_cut [15, 17] (fun s15 s17 wx => s15 = .int .i64 (l' : Int) ∧ s17 = .int .i64 0 ∧ Hid (Below wb.heap.size wb wx))
          case first =>
            go_region_with (first
              | (go_at_call 23; refine HCP3.out.mono ?_; rintro e w14 ⟨a4, c4, rfl, o4, b4, k1, k2, k3⟩; have HO4 := hide o4; have HB4 := hide b4; clear o4 b4)
              | (go_at_call 22; refine (HBM.out _ _ HO4.out).mono ?_; rintro e w15 ⟨rfl, b5⟩; have HB5 := hide (HB4.out.trans (b5.mono HB4.out.size)); clear b5))
            all_goals
              go_wp2_with fail
              go_meet
              exact ⟨rfl, rfl, HB5⟩
          case rest =>
          obtain ⟨rfl, rfl, HB15⟩ := hcut
          have hll' : (l : Int) ≤ (l' : Int) := by omega
          go_wp2
          go_ret
          exact ⟨rfl, HFI.out _ HB15.out⟩
    · have HDD : Hid (dmn x y = false) := decide_eq_false h2
      rw [HDD.out]
      go_wp2
      go_ret
      exact ⟨rfl, HFI.out _ HB3.out⟩
  · have g1 : (16777216 : Int) < (D.length : Int) := by omega
    go_wp2
    go_ret
    exact ⟨rfl, HFI.out _ HB2.out⟩
end Go.Proofs.Ytecimcpaoobknaa

