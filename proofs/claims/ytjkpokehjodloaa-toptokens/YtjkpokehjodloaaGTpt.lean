import Derived.Test.YtjkpokehjodloaaGTtw
import Derived.Test.YtjkpokehjodloaaGEx
import Derived.Test.YtjkpokehjodloaaGMn
import Derived.Test.YtjkpokehjodloaaGBn
import Derived.BigQuiet
import Derived.Deep.DeepCutAuto
import Derived.Deep.RegionWith
namespace Go.Proofs.Ytjkpokehjodloaa
open Go.RowKit Go.Maps
set_option maxRecDepth 20000
set_option linter.unusedVariables false

theorem tkl_lent {D : List Int} {W C : Nat} {z : Bool} : (tkl D W C z).length ≤ D.length := by
  have := tks_len (D := D) (W := W) (C := C) (z := z) D.length 0 (Nat.zero_le _)
  show (tks D W C z D.length 0).length ≤ _
  omega

theorem tkl_att {D : List Int} {W C : Nat} {z : Bool} {k : Nat} (hk : k < (tkl D W C z).length) : ((tkl D W C z).getD k tk0).2.1 ≤ (W : Int) := by
  refine (tkl_far (D := D) (W := W) (C := C) (z := z) ?_).1
  rw [List.getD_eq_getElem?_getD, List.getElem?_eq_getElem hk]
  exact List.getElem_mem hk

/-- New memory with the same bytes. -/
theorem vcopy_any (v : Value) (l : List Int) (w : World) (h : SB w v l) (hr : l.length ≤ 140737488355328) :
    Calls Try.prog 5 #[v] w fun e w' => ∃ a c, e = .returned (.slice a l.length c) ∧ OB w' w.heap.size (.slice a l.length c) l ∧ Below w.heap.size w w' := by
  have H := hide h
  obtain ⟨ao, cap, rfl, hlc, hcm, hnil, hcell⟩ := h
  unfold maxLen at hcm
  clear hnil hcell
  go_enter Try.func5, Try.ntmps5
  go_wp2_with (refine wpList_app rfl _ _ 22 rfl w.heap.size (.slice none 0 0) (.slice ao l.length cap) [] l rfl (World.ownsRow_nil _ _ _ _) rfl H.out.src (by simpa using hr) (Nat.le_refl _) ?_)
  intro v' w' hO hG
  obtain ⟨a, c, hu⟩ := hO.shape
  subst hu
  have HO := hide hO
  have HB : Hid (Below w.heap.size w w') := (Below.refl _ _).grown hG.by (Nat.le_refl _) (fun j hj => by cases hj)
  clear hO hG
  go_wp2
  go_ret
  exact ⟨_, _, rfl, HO.out, HB.out⟩

set_option maxHeartbeats 8000000 in
theorem topTokens_walk (v : Value) (D : List Int) (x y : Int) (z : Bool) (w : World) (h : SB w v D) (hB : Byt D) (hr : D.length ≤ 140737488351232) :
    Calls Try.prog 3 #[v, .agg #[.int .i64 x, .int .i64 y, .bool z]] w fun e w' => e = .returned (.bool true) ∧ Below w.heap.size w w' := by
  have HB : Hid (Below w.heap.size w (w.alloc (.cells #[.int .i64 x, .int .i64 y, .bool z] 24))) := (Below.refl _ _).alloc (Nat.le_refl _) _
  have HS := hide (h.below ((Below.refl _ _).alloc (Nat.le_refl _) (.cells #[.int .i64 x, .int .i64 y, .bool z] 24)))
  obtain ⟨wb, hwb⟩ : ∃ wb, w.alloc (.cells #[.int .i64 x, .int .i64 y, .bool z] 24) = wb := ⟨_, rfl⟩
  have hbl : w.heap.size < wb.heap.size := by rw [← hwb]; simp
  have d1 : wb.cell? ⟨w.heap.size, 0, none⟩ = some (.int .i64 x) := by rw [← hwb]; unfold World.cell?; simp only [heap_alloc_new]; rfl
  have d2 : wb.cell? ⟨w.heap.size, 1, none⟩ = some (.int .i64 y) := by rw [← hwb]; unfold World.cell?; simp only [heap_alloc_new]; rfl
  have d3 : wb.cell? ⟨w.heap.size, 2, none⟩ = some (.bool z) := by rw [← hwb]; unfold World.cell?; simp only [heap_alloc_new]; rfl
  rw [hwb] at HB HS
  have HBT := hide hB
  have HC : Hid (∀ wx, Below wb.heap.size wb wx → wx.cell? ⟨w.heap.size, 0, none⟩ = some (.int .i64 x) ∧ wx.cell? ⟨w.heap.size, 1, none⟩ = some (.int .i64 y) ∧ wx.cell? ⟨w.heap.size, 2, none⟩ = some (.bool z)) := fun wx q => ⟨(q.cell hbl).trans d1, (q.cell hbl).trans d2, (q.cell hbl).trans d3⟩
  have HFI : Hid (∀ wx, Below wb.heap.size wb wx → Below w.heap.size w wx) := fun wx q => HB.out.trans (q.mono HB.out.size)
  have HSB : Hid (∀ wx, Below wb.heap.size wb wx → SB wx v D) := fun wx q => HS.out.below q
  obtain ⟨ao, cap, rfl, hlc, hcm⟩ := h.open
  clear h hB
  have HCP := hide (vcopy_any _ D wb.drew (HS.out.below (Below.refl _ _).drew) (by omega))
  obtain ⟨L, HL⟩ : ∃ L, Hid (L = tL D x y z) := ⟨_, rfl⟩
  obtain ⟨E, HE⟩ : ∃ L, Hid (L = tE D x y) := ⟨_, rfl⟩
  have HTO : Hid (∀ wx u, SB wx u D → Calls Try.prog 4 #[u, .agg #[.int .i64 x, .int .i64 y, .bool z]] wx fun e w' => ∃ u, e = .returned (.tuple #[u, .int .i64 E]) ∧ OK w' wx.heap.size u L ∧ Below wx.heap.size wx w') := fun wx u q => by
    have := tokens_any u D x y z wx q HBT.out
    rw [← HL.out, ← HE.out] at this
    exact this
  have HB3D : Hid (Below wb.heap.size wb wb.drew) := (Below.refl _ _).drew
  have e1 : wb.drew.cell? ⟨w.heap.size, 0, none⟩ = some (.int .i64 x) := d1
  have e2 : wb.drew.cell? ⟨w.heap.size, 1, none⟩ = some (.int .i64 y) := d2
  have e3 : wb.drew.cell? ⟨w.heap.size, 2, none⟩ = some (.bool z) := d3
  go_enter Try.func3, Try.ntmps3
  go_wp2
  clear hwb d1 d2 d3
  go_cut [5, 6] (fun s5 s6 wx => ∃ ta tc, s5 = .slice ta L.length tc ∧ s6 = .int .i64 E ∧ tc ≤ 9223372036854775807 ∧ L.length ≤ tc ∧ Hid (OK wx wb.heap.size (.slice ta L.length tc) L) ∧ Hid (Below wb.heap.size wb wx))
  case first =>
    go_region_with (first
      | (go_at_call 5; refine HCP.out.mono ?_; rintro e w4 ⟨a4, c4, rfl, o4, b4⟩; have HO4 := hide o4.sb; have HB4 := hide (HB3D.out.trans (b4.mono HB3D.out.size)); obtain ⟨k1, k2, k3⟩ := HC.out _ HB4.out; clear o4 b4)
      | (go_at_call 4; refine (HTO.out _ _ HO4.out).mono ?_; rintro e w5 ⟨u5, rfl, o5, b5⟩; have HB5 := hide (HB4.out.trans (b5.mono HB4.out.size)); have HO5 : Hid (OK w5 wb.heap.size u5 L) := o5.base HB4.out.size; obtain ⟨a5, c5, hu5, hl5, hm5⟩ := o5.shape; subst hu5; clear o5 b5))
    all_goals
      go_wp2_with fail
      go_meet
      exact ⟨_, _, rfl, rfl, hm5, hl5, HO5, HB5⟩
  case rest =>
  obtain ⟨ta, tc, rfl, rfl, hm5, hl5, HO5, HB5⟩ := hcut
  clear e1 e2 e3 HTO HCP HB3D
  obtain ⟨f1, f2, f3⟩ := HC.out _ HB5.out
  by_cases h1 : (D.length : Int) ≤ 16777216
  · have g1 : ¬ (16777216 : Int) < (D.length : Int) := by omega
    by_cases h2 : Dmn x y
    · obtain ⟨r1, r2⟩ := tE_ok (D := D) (z := z) ⟨h1, h2⟩
      have hE0 : E = 0 := HE.out.trans r1
      have hL0 : L = tkl D x.toNat y.toNat z := HL.out.trans r2
      unfold Dmn at h2
      obtain ⟨W, rfl⟩ := Int.eq_ofNat_of_zero_le (show 0 ≤ x by omega)
      obtain ⟨C, rfl⟩ := Int.eq_ofNat_of_zero_le (show 0 ≤ y by omega)
      simp only [Int.toNat_natCast] at hL0
      have HL0 := hide hL0
      subst hE0
      have hLl : L.length ≤ D.length := by rw [hL0]; exact tkl_lent
      obtain ⟨q1, q2⟩ := tkl_all (D := D) (W := W) (C := C) (z := z) (by omega)
      rw [← hL0] at q1 q2
      have HQ1 := hide q1
      have HQ2 := hide q2
      have j1 : ¬ (W : Int) < 1 := by omega
      have j2 : ¬ (32768 : Int) < (W : Int) := by omega
      have j3 : ¬ (C : Int) < 0 := by omega
      have j4 : ¬ (4096 : Int) < (C : Int) := by omega
      have hLn : L.length ≤ 16777216 := by omega
      have HLN : Hid (∀ k, k ≤ L.length → (exT [] (L.take k)).length ≤ D.length) := fun k hk => by rw [← HQ2.out]; exact (pre_take L k).len
      clear h2 hL0 r1 r2 q1 q2 HL HE hLl
      go_wp2
      clear f1 f2 f3 j1 j2 j3 j4
      go_loopw [7, 8] (fun n i wr => ∃ k at' : Nat, k ≤ L.length ∧ i = .int .i64 (k : Int) ∧ n = .int .i64 (at' : Int) ∧ Hid (at' = (exT [] (L.take k)).length) ∧ Hid (OK wr wb.heap.size (.slice ta L.length tc) L) ∧ Hid (Below wb.heap.size wb wr)) (fun _ t _ => L.length - (intOf t).toNat)
      case atStart => exact ⟨0, 0, Nat.zero_le _, rfl, rfl, rfl, HO5, HB5⟩
      case round =>
        obtain ⟨k, at', hk, rfl, rfl, HAT, HOk, HBk⟩ := hrel
        obtain ⟨f1, f2, f3⟩ := HC.out _ HBk.out
        by_cases hkl : k < L.length
        · have hkl' : (k : Int) < (L.length : Int) := by omega
          obtain ⟨b, o, rfl, c0, c1, c2⟩ := HOk.out.sk.get (Below.refl _ _) hkl
          have hfa : (L.getD k tk0).2.1 ≤ (W : Int) := by rw [HL0.out] at hkl ⊢; exact tkl_att hkl
          obtain ⟨x1, x2⟩ := means_at HQ1.out hkl
          obtain ⟨hs, s2, s3⟩ := stE_zero x2
          have HNX : Hid ((exT [] (L.take (k + 1))).length = at' + says (L.getD k tk0)) := by show _ = _; rw [ext_at hkl, ptk_len hs, HAT.out]
          have hle1 := HLN.out (k + 1) (by omega)
          rw [HNX.out] at hle1
          rw [← HAT.out] at s2
          clear x1 x2 s3
          obtain ⟨r, hrr⟩ : ∃ r, r = L.getD k tk0 := ⟨_, rfl⟩
          rw [← hrr] at c0 c1 c2 hs s2 HNX hle1 hfa
          clear hrr
          obtain ⟨l, d, zz⟩ := r
          simp only at c0 c1 c2 s2 hfa
          obtain ⟨wa, hwa⟩ : ∃ wa, wr.alloc (.cells #[.int .i64 l, .int .i64 d, .int .u8 zz] 31) = wa := ⟨_, rfl⟩
          have HBa : Hid (Below wb.heap.size wb wa) := by show Below _ _ _; rw [← hwa]; exact HBk.out.alloc HBk.out.size _
          have HOa : Hid (OK wa wb.heap.size (.slice (some ⟨b, o, none⟩) L.length tc) L) := by show OK _ _ _ _; rw [← hwa]; exact HOk.out.below ((Below.refl _ _).alloc (Nat.le_refl _) _) (Nat.le_refl _)
          have e1 : wa.cell? ⟨wr.heap.size, 0, none⟩ = some (.int .i64 l) := by rw [← hwa]; unfold World.cell?; simp only [heap_alloc_new]; rfl
          have e2 : wa.cell? ⟨wr.heap.size, 1, none⟩ = some (.int .i64 d) := by rw [← hwa]; unfold World.cell?; simp only [heap_alloc_new]; rfl
          have e3 : wa.cell? ⟨wr.heap.size, 2, none⟩ = some (.int .u8 zz) := by rw [← hwa]; unfold World.cell?; simp only [heap_alloc_new]; rfl
          obtain ⟨p1, p2, p3⟩ := HC.out _ HBa.out
          clear f1 f2 f3 HBk HOk
          rcases snd_parts hs with ⟨q1, q2⟩ | ⟨n, m, q, q1, q2, q3, q4⟩
          · simp only at q1 q2
            subst q1
            subst q2
            have hs1 : says (0, 0, zz) = 1 := by unfold says; rfl
            rw [hs1] at HNX hle1
            clear hs hs1 s2 hfa
            go_wp2
            go_roundw
            case rel => exact ⟨k + 1, at' + 1, by omega, by go_num, by go_num, HNX.out.symm, HOa, HBa⟩
            case measure => simp [intOf]; omega
          · simp only [Prod.mk.injEq] at q
            obtain ⟨rfl, rfl, -⟩ := q
            have hs1 : says ((n : Int), (m : Int), zz) = n := by unfold says; simp only [Int.toNat_natCast]; omega
            rw [hs1] at HNX hle1
            have t1 : ((n : Int) == 0) = false := by simp; omega
            have t2 : ¬ (n : Int) < 3 := by omega
            have t3 : ¬ (258 : Int) < (n : Int) := by omega
            have t4 : ¬ (m : Int) < 1 := by omega
            have t5 : ¬ (at' : Int) < (m : Int) := by omega
            have t6 : ¬ (W : Int) < (m : Int) := by omega
            clear hs hs1 s2 hfa
            go_wp2
            go_roundw
            case rel => exact ⟨k + 1, at' + n, by omega, by go_num, by go_num, HNX.out.symm, HOa, HBa⟩
            case measure => simp [intOf]; omega
        · obtain rfl : k = L.length := by omega
          have hkl' : ¬ (L.length : Int) < (L.length : Int) := by omega
          have hat : at' = D.length := by have := HAT.out; rw [List.take_length, HQ2.out] at this; exact this
          subst hat
          have HE8 : Hid (xE (D.length : Int) L = 0) := by show _ = _; rw [xE_in (by omega) (by omega)]; exact HQ1.out
          have HL8 : Hid (xL (D.length : Int) L = D) := by show _ = _; unfold xL; rw [if_pos HE8.out]; exact HQ2.out
          have HEX := hide (expand_any _ L (D.length : Int) wr HOk.out.sk)
          rw [HE8.out, HL8.out] at HEX
          clear f1 f2 f3 hk hkl HAT
          go_wp2_with fail
          refine HEX.out.mono ?_
          rintro e w9 ⟨u9, rfl, o9, b9⟩
          obtain ⟨a9, c9, hu9, _, _⟩ := o9.top
          subst hu9
          have HB9 := hide (HBk.out.trans (b9.mono HBk.out.size))
          have HSM := hide (same_any _ _ D D w9 o9.sb (HSB.out _ HB9.out))
          rw [show eqB D D = true from decide_eq_true rfl] at HSM
          clear o9 b9 HEX HOk HBk
          go_wp2_with fail
          refine HSM.out.mono ?_
          rintro e w10 ⟨rfl, n10, hw10⟩
          have HB10 : Hid (Below wb.heap.size wb w10) := by rw [hw10]; exact below_drewN HB9.out _
          clear hw10 HSM HB9
          go_wp2
          go_ret
          exact ⟨rfl, HFI.out _ HB10.out⟩
    · obtain ⟨r1, r2⟩ := tE_bad (D := D) (z := z) (x := x) (y := y) (fun q => h2 q.2)
      have hE0 : E = 1 := HE.out.trans r1
      have hL0 : L = [] := HL.out.trans r2
      subst hE0
      subst hL0
      clear r1 r2
      have HX : Hid (Below w.heap.size w wc) := HFI.out _ HB5.out
      unfold Dmn at h2
      by_cases j1 : x < 1
      · clear h2
        go_wp2
        go_ret
        exact ⟨rfl, HX.out⟩
      · by_cases j2 : 32768 < x
        · clear h2
          go_wp2
          go_ret
          exact ⟨rfl, HX.out⟩
        · by_cases j3 : y < 0
          · clear h2
            go_wp2
            go_ret
            exact ⟨rfl, HX.out⟩
          · have j4 : 4096 < y := by omega
            clear h2
            go_wp2
            go_ret
            exact ⟨rfl, HX.out⟩
  · have g1 : (16777216 : Int) < (D.length : Int) := by omega
    obtain ⟨r1, r2⟩ := tE_bad (D := D) (z := z) (x := x) (y := y) (fun q => h1 q.1)
    have hE0 : E = 1 := HE.out.trans r1
    have hL0 : L = [] := HL.out.trans r2
    subst hE0
    subst hL0
    clear r1 r2
    go_wp2
    go_ret
    exact ⟨rfl, HFI.out _ HB5.out⟩
end Go.Proofs.Ytjkpokehjodloaa

