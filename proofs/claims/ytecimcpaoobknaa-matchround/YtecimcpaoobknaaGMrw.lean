import Derived.Test.YtecimcpaoobknaaGTtw
import Derived.Test.YtecimcpaoobknaaGLnb
import Derived.Test.YtecimcpaoobknaaGEx
import Derived.Test.YtecimcpaoobknaaGMn
import Derived.Test.YtecimcpaoobknaaGBn
import Derived.BigQuiet
import Derived.Deep.DeepCutAuto
import Derived.Deep.RegionWith
namespace Go.Proofs.Ytecimcpaoobknaa
open Go.RowKit Go.Maps
set_option maxRecDepth 20000
set_option linter.unusedVariables false

theorem tkl_len {D : List Int} {W C : Nat} {z : Bool} : (tkl D W C z).length ≤ D.length := by
  have := tks_len (D := D) (W := W) (C := C) (z := z) D.length 0 (Nat.zero_le _)
  show (tks D W C z D.length 0).length ≤ _
  omega

theorem tkl_at {D : List Int} {W C : Nat} {z : Bool} {k : Nat} (hk : k < (tkl D W C z).length) : ((tkl D W C z).getD k tk0).2.1 ≤ (W : Int) ∧ (C = 0 → ((tkl D W C z).getD k tk0).1 = 0) := by
  refine tkl_far (D := D) (W := W) (C := C) (z := z) ?_
  rw [List.getD_eq_getElem?_getD, List.getElem?_eq_getElem hk]
  exact List.getElem_mem hk

set_option maxHeartbeats 8000000 in
theorem matchRound_walk (v : Value) (D : List Int) (x y : Int) (z : Bool) (w : World) (h : SB w v D) (hB : Byt D) (hr : D.length ≤ 140737488351232) :
    Calls Try.prog 8 #[v, .agg #[.int .i64 x, .int .i64 y, .bool z]] w fun e w' => e = .returned (.bool true) ∧ Below w.heap.size w w' := by
  have HB : Hid (Below w.heap.size w (w.alloc (.cells #[.int .i64 x, .int .i64 y, .bool z] 41))) := (Below.refl _ _).alloc (Nat.le_refl _) _
  have HS := hide (h.below ((Below.refl _ _).alloc (Nat.le_refl _) (.cells #[.int .i64 x, .int .i64 y, .bool z] 41)))
  obtain ⟨wb, hwb⟩ : ∃ wb, w.alloc (.cells #[.int .i64 x, .int .i64 y, .bool z] 41) = wb := ⟨_, rfl⟩
  have hbl : w.heap.size < wb.heap.size := by rw [← hwb]; simp
  have d1 : wb.cell? ⟨w.heap.size, 0, none⟩ = some (.int .i64 x) := by rw [← hwb]; unfold World.cell?; simp only [heap_alloc_new]; rfl
  have d2 : wb.cell? ⟨w.heap.size, 1, none⟩ = some (.int .i64 y) := by rw [← hwb]; unfold World.cell?; simp only [heap_alloc_new]; rfl
  have d3 : wb.cell? ⟨w.heap.size, 2, none⟩ = some (.bool z) := by rw [← hwb]; unfold World.cell?; simp only [heap_alloc_new]; rfl
  rw [hwb] at HB HS
  have HBT := hide hB
  have HC : Hid (∀ wx, Below wb.heap.size wb wx → wx.cell? ⟨w.heap.size, 0, none⟩ = some (.int .i64 x) ∧ wx.cell? ⟨w.heap.size, 1, none⟩ = some (.int .i64 y) ∧ wx.cell? ⟨w.heap.size, 2, none⟩ = some (.bool z)) := fun wx q => ⟨(q.cell hbl).trans d1, (q.cell hbl).trans d2, (q.cell hbl).trans d3⟩
  have HFI : Hid (∀ wx, Below wb.heap.size wb wx → Below w.heap.size w wx) := fun wx q => HB.out.trans (q.mono HB.out.size)
  have HSB : Hid (∀ wx, Below wb.heap.size wb wx → SB wx v D) := fun wx q => HS.out.below q
  obtain ⟨ao, cap, rfl, hlc, hcm⟩ := h.open
  clear h hB
  have HCP := hide (copied_any _ D wb.drew (HS.out.below (Below.refl _ _).drew) hr)
  obtain ⟨L, HL⟩ : ∃ L, Hid (L = tL D x y z) := ⟨_, rfl⟩
  obtain ⟨E, HE⟩ : ∃ L, Hid (L = tE D x y) := ⟨_, rfl⟩
  have HTO : Hid (∀ wx u, SB wx u D → Calls Try.prog 20 #[u, .agg #[.int .i64 x, .int .i64 y, .bool z]] wx fun e w' => ∃ u, e = .returned (.tuple #[u, .int .i64 E]) ∧ OK w' wx.heap.size u L ∧ Below wx.heap.size wx w') := fun wx u q => by
    have := tokens_any u D x y z wx q HBT.out
    rw [← HL.out, ← HE.out] at this
    exact this
  have HB3D : Hid (Below wb.heap.size wb wb.drew) := (Below.refl _ _).drew
  have e1 : wb.drew.cell? ⟨w.heap.size, 0, none⟩ = some (.int .i64 x) := d1
  have e2 : wb.drew.cell? ⟨w.heap.size, 1, none⟩ = some (.int .i64 y) := d2
  have e3 : wb.drew.cell? ⟨w.heap.size, 2, none⟩ = some (.bool z) := d3
  go_enter Try.func8, Try.ntmps8
  go_wp2
  clear hwb d1 d2 d3
  go_cut [5, 6] (fun s5 s6 wx => ∃ ta tc, s5 = .slice ta L.length tc ∧ s6 = .int .i64 E ∧ tc ≤ 9223372036854775807 ∧ L.length ≤ tc ∧ Hid (OK wx wb.heap.size (.slice ta L.length tc) L) ∧ Hid (Below wb.heap.size wb wx))
  case first =>
    go_region_with (first
      | (go_at_call 23; refine HCP.out.mono ?_; rintro e w4 ⟨a4, c4, rfl, o4, b4⟩; have HO4 := hide o4.sb; have HB4 := hide (HB3D.out.trans (b4.mono HB3D.out.size)); obtain ⟨k1, k2, k3⟩ := HC.out _ HB4.out; clear o4 b4)
      | (go_at_call 20; refine (HTO.out _ _ HO4.out).mono ?_; rintro e w5 ⟨u5, rfl, o5, b5⟩; have HB5 := hide (HB4.out.trans (b5.mono HB4.out.size)); have HO5 : Hid (OK w5 wb.heap.size u5 L) := o5.base HB4.out.size; obtain ⟨a5, c5, hu5, hl5, hm5⟩ := o5.shape; subst hu5; clear o5 b5))
    all_goals
      go_wp2_with fail
      go_meet
      exact ⟨_, _, rfl, rfl, hm5, hl5, HO5, HB5⟩
  case rest =>
  obtain ⟨ta, tc, rfl, rfl, hm5, hl5, HO5, HB5⟩ := hcut
  clear e1 e2 e3 HTO HCP HB3D
  obtain ⟨f1, f2, f3⟩ := HC.out _ HB5.out
  by_cases h1 : (D.length : Int) ≤ 16777216
  · have g1 : ¬ (16777216 : Int) < (D.length : Int) := by omega
    have HLD := hide (ldom_any x y z wc)
    go_wp2_with fail
    refine HLD.out.mono ?_
    rintro e w6 ⟨rfl, b6⟩
    have HB6 := hide (HB5.out.trans (b6.mono HB5.out.size))
    have HO6 := hide (HO5.out.below b6 (Nat.le_refl _))
    clear b6 f1 f2 f3 HLD HO5 HB5
    obtain ⟨f1, f2, f3⟩ := HC.out _ HB6.out
    by_cases h2 : Dmn x y
    · have HDD : Hid (dmn x y = true) := decide_eq_true h2
      rw [HDD.out]
      obtain ⟨r1, r2⟩ := tE_ok (D := D) (z := z) ⟨h1, h2⟩
      have hE0 : E = 0 := HE.out.trans r1
      have hL0 : L = tkl D x.toNat y.toNat z := HL.out.trans r2
      unfold Dmn at h2
      obtain ⟨W, rfl⟩ := Int.eq_ofNat_of_zero_le (show 0 ≤ x by omega)
      obtain ⟨C, rfl⟩ := Int.eq_ofNat_of_zero_le (show 0 ≤ y by omega)
      simp only [Int.toNat_natCast] at hL0
      have HL0 := hide hL0
      subst hE0
      have hLl : L.length ≤ D.length := by rw [hL0]; exact tkl_len
      obtain ⟨q1, q2⟩ := tkl_all (D := D) (W := W) (C := C) (z := z) (by omega)
      rw [← hL0] at q1 q2
      have HQ1 := hide q1
      have HQ2 := hide q2
      have HMN := hide (means_any _ _ L D (D.length : Int) w6 HO6.out.sk (HSB.out _ HB6.out) q1 q2.symm (by omega))
      have g2 : ¬ (D.length : Int) < (L.length : Int) := by omega
      clear h2 hL0 r1 r2 q1 q2 HL HE
      go_wp2_with fail
      refine HMN.out.mono ?_
      rintro e w7 ⟨rfl, b7⟩
      have HB7 := hide (HB6.out.trans (b7.mono HB6.out.size))
      have HO7 := hide (HO6.out.below b7 (Nat.le_refl _))
      clear b7 f1 f2 f3 HMN HO6 HB6
      go_wp2
      go_loopw [7] (fun t wr => ∃ k : Nat, k ≤ L.length ∧ t = .int .i64 (k : Int) ∧ Hid (OK wr wb.heap.size (.slice ta L.length tc) L) ∧ Hid (Below wb.heap.size wb wr)) (fun t _ => L.length - (intOf t).toNat)
      case atStart => exact ⟨0, Nat.zero_le _, rfl, HO7, HB7⟩
      case round =>
        obtain ⟨k, hk, rfl, HOk, HBk⟩ := hrel
        obtain ⟨f1, f2, f3⟩ := HC.out _ HBk.out
        by_cases hkl : k < L.length
        · have hkl' : (k : Int) < (L.length : Int) := by omega
          obtain ⟨b, o, rfl, c0, c1, c2⟩ := HOk.out.sk.get (Below.refl _ _) hkl
          have hfa : (L.getD k tk0).2.1 ≤ (W : Int) ∧ (C = 0 → (L.getD k tk0).1 = 0) := by rw [HL0.out] at hkl ⊢; exact tkl_at hkl
          obtain ⟨⟨t1, t2, t3⟩, ht⟩ : ∃ t, L.getD k tk0 = t := ⟨_, rfl⟩
          rw [ht] at c0 c1 c2 hfa
          simp only at c0 c1 c2 hfa
          clear ht
          have q1 : decide ((W : Int) < t2) = false := decide_eq_false (by omega)
          by_cases hC0 : C = 0
          · have qc : ((C : Int) == 0) = true := by simp [hC0]
            have h10 : t1 = 0 := hfa.2 hC0
            rw [h10] at c0
            clear hfa hC0 h10
            go_wp2
            go_quiet (fail)
            go_wp2
            go_roundw
            case rel => exact ⟨k + 1, by omega, by go_num, HOk.out.drewN _, below_drewN HBk.out _⟩
            case measure => simp [intOf]; omega
          · have qc : ((C : Int) == 0) = false := by simp; omega
            clear hfa hC0
            go_wp2
            go_quiet (fail)
            go_wp2
            go_roundw
            case rel => exact ⟨k + 1, by omega, by go_num, HOk.out.drewN _, below_drewN HBk.out _⟩
            case measure => simp [intOf]; omega
        · obtain rfl : k = L.length := by omega
          have hkl' : ¬ (L.length : Int) < (L.length : Int) := by omega
          have HTW := hide (twin_any _ L wr HOk.out.sk (by omega))
          clear f1 f2 f3 hk hkl
          go_wp2_with fail
          refine HTW.out.mono ?_
          rintro e w8 ⟨u8, rfl, o8, b8⟩
          obtain ⟨a8, c8, hu8, _⟩ := o8.shape
          subst hu8
          have HB8 := hide (HBk.out.trans (b8.mono HBk.out.size))
          have HO8 := hide (HOk.out.below b8 (Nat.le_refl _))
          have HE8 : Hid (xE (D.length : Int) L = 0) := by show _ = _; rw [xE_in (by omega) (by omega)]; exact HQ1.out
          have HL8 : Hid (xL (D.length : Int) L = D) := by show _ = _; unfold xL; rw [if_pos HE8.out]; exact HQ2.out
          have HEX := hide (expand_any _ L (D.length : Int) w8 o8.sk)
          rw [HE8.out, HL8.out] at HEX
          clear o8 b8 HTW HOk HBk
          go_wp2_with fail
          refine HEX.out.mono ?_
          rintro e w9 ⟨u9, rfl, o9, b9⟩
          obtain ⟨a9, c9, hu9, _, _⟩ := o9.top
          subst hu9
          have HB9 := hide (HB8.out.trans (b9.mono HB8.out.size))
          have HO9 := hide (HO8.out.below b9 (Nat.le_refl _))
          have HSM := hide (same_any _ _ D D w9 o9.sb (HSB.out _ HB9.out))
          rw [show eqB D D = true from decide_eq_true rfl] at HSM
          clear o9 b9 HEX HO8 HB8
          go_wp2_with fail
          refine HSM.out.mono ?_
          rintro e w10 ⟨rfl, n10, hw10⟩
          have HB10 : Hid (Below wb.heap.size wb w10) := by rw [hw10]; exact below_drewN HB9.out _
          have HO10 : Hid (OK w10 wb.heap.size (.slice ta L.length tc) L) := by rw [hw10]; exact HO9.out.drewN _
          clear hw10 HSM HO9 HB9
          by_cases hD0 : D.length = 0
          · have g0 : (D.length : Int) = 0 := by omega
            go_wp2
            go_ret
            exact ⟨rfl, HFI.out _ HB10.out⟩
          · have g0 : ¬ (D.length : Int) = 0 := by omega
            have HTW := hide (twin_any _ L w10 HO10.out.sk (by omega))
            go_wp2_with fail
            refine HTW.out.mono ?_
            rintro e w11 ⟨u11, rfl, o11, b11⟩
            obtain ⟨a11, c11, hu11, _⟩ := o11.shape
            subst hu11
            have HB11 := hide (HB10.out.trans (b11.mono HB10.out.size))
            have HE11 : Hid (xE ((D.length : Int) - 1) L = 92) := by
              show _ = _
              rw [xE_in (by omega) (by omega)]
              have := ex_less HQ1.out (by rw [HQ2.out]; omega)
              rw [HQ2.out] at this
              exact this
            have HL11 : Hid (xL ((D.length : Int) - 1) L = []) := xL_bad HE11.out (by omega)
            have HEX := hide (expand_any _ L ((D.length : Int) - 1) w11 o11.sk)
            rw [HE11.out, HL11.out] at HEX
            clear o11 b11 HTW HO10 HB10
            go_wp2_with fail
            refine HEX.out.mono ?_
            rintro e w12 ⟨u12, rfl, o12, b12⟩
            obtain ⟨a12, c12, hu12, _, _⟩ := o12.top
            subst hu12
            have HB12 := hide (HB11.out.trans (b12.mono HB11.out.size))
            clear o12 b12 HEX HB11
            go_wp2
            go_ret
            exact ⟨rfl, HFI.out _ HB12.out⟩
    · have HDD : Hid (dmn x y = false) := decide_eq_false h2
      rw [HDD.out]
      obtain ⟨r1, r2⟩ := tE_bad (D := D) (z := z) (x := x) (y := y) (fun q => h2 q.2)
      have hE0 : E = 1 := HE.out.trans r1
      have hL0 : L = [] := HL.out.trans r2
      subst hE0
      subst hL0
      clear h2 r1 r2
      go_wp2
      go_ret
      exact ⟨rfl, HFI.out _ HB6.out⟩
  · have g1 : (16777216 : Int) < (D.length : Int) := by omega
    obtain ⟨r1, r2⟩ := tE_bad (D := D) (z := z) (x := x) (y := y) (fun q => h1 q.1)
    have hE0 : E = 1 := HE.out.trans r1
    have hL0 : L = [] := HL.out.trans r2
    subst hE0
    subst hL0
    clear r1 r2
    go_wp2
    go_ret
    exact ⟨rfl, HFI.out _ HB5.out⟩
end Go.Proofs.Ytecimcpaoobknaa

