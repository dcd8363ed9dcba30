import Derived.Test.YtjdgeonlbjokaaaGMoa
namespace Go.Proofs.Ytjdgeonlbjokaaa
open Go.RowKit Go.Maps
set_option maxRecDepth 20000
set_option linter.unusedVariables false

def oth : List Int := [1, 2, 3, 1, 2, 3, 1]

theorem oth_byt : Byt oth := by
  intro i
  rcases i with _ | _ | _ | _ | _ | _ | _ | i
  all_goals first | decide | (unfold oth; simp)

/-- A byte list that a fresh block holds. -/
theorem oth_ob (w : World) : OB (w.alloc (.cells #[.int .u8 1, .int .u8 2, .int .u8 3, .int .u8 1, .int .u8 2, .int .u8 3, .int .u8 1] 5)) w.heap.size (.slice (some ⟨w.heap.size, 0, none⟩) 7 7) oth := by
  refine ⟨rfl, .inr ⟨w.heap.size, 7, _, rfl, Nat.le_refl _, heap_alloc_new w _, Nat.le_refl _, by unfold maxLen; omega, rfl, rfl⟩⟩

set_option maxHeartbeats 8000000 in
theorem asked9_walk (v : Value) (D : List Int) (x y : Int) (z : Bool) (w : World) (h : SB w v D) (hB : Byt D) (hl : (D.length : Int) ≤ 16777216) (hd : Dmn x y) :
    Calls Try.prog 12 #[v, .agg #[.int .i64 x, .int .i64 y, .bool z]] w fun e w' => e = .returned (.bool true) ∧ Below w.heap.size w w' := by
  have HB : Hid (Below w.heap.size w (w.alloc (.cells #[.int .i64 x, .int .i64 y, .bool z] 24))) := (Below.refl _ _).alloc (Nat.le_refl _) _
  have HS := hide (h.below ((Below.refl _ _).alloc (Nat.le_refl _) (.cells #[.int .i64 x, .int .i64 y, .bool z] 24)))
  obtain ⟨wb, hwb⟩ : ∃ wb, w.alloc (.cells #[.int .i64 x, .int .i64 y, .bool z] 24) = wb := ⟨_, rfl⟩
  have hbl : w.heap.size < wb.heap.size := by rw [← hwb]; simp
  have d1 : wb.cell? ⟨w.heap.size, 0, none⟩ = some (.int .i64 x) := by rw [← hwb]; unfold World.cell?; simp only [heap_alloc_new]; rfl
  have d2 : wb.cell? ⟨w.heap.size, 1, none⟩ = some (.int .i64 y) := by rw [← hwb]; unfold World.cell?; simp only [heap_alloc_new]; rfl
  have d3 : wb.cell? ⟨w.heap.size, 2, none⟩ = some (.bool z) := by rw [← hwb]; unfold World.cell?; simp only [heap_alloc_new]; rfl
  rw [hwb] at HB HS
  have HBT := hide hB
  have HC : Hid (∀ wx, Below wb.heap.size wb wx → wx.cell? ⟨w.heap.size, 0, none⟩ = some (.int .i64 x) ∧ wx.cell? ⟨w.heap.size, 1, none⟩ = some (.int .i64 y) ∧ wx.cell? ⟨w.heap.size, 2, none⟩ = some (.bool z)) := fun wx q => ⟨(q.cell hbl).trans d1, (q.cell hbl).trans d2, (q.cell hbl).trans d3⟩
  have HFI : Hid (∀ wx, Below wb.heap.size wb wx → Below w.heap.size w wx) := fun wx q => HB.out.trans (q.mono HB.out.size)
  have HSB : Hid (∀ wx, Below wb.heap.size wb wx → SB wx v D) := fun wx q => HS.out.below q
  obtain ⟨ao, cap, rfl, hlc, hcm⟩ := h.open
  clear h hB
  obtain ⟨L, HL⟩ : ∃ L, Hid (L = tL D x y z) := ⟨_, rfl⟩
  obtain ⟨M, HM⟩ : ∃ L, Hid (L = tL oth x y z) := ⟨_, rfl⟩
  obtain ⟨r1, r2⟩ := tE_ok (D := D) (z := z) ⟨hl, hd⟩
  obtain ⟨r3, r4⟩ := tE_ok (D := oth) (z := z) (x := x) (y := y) ⟨by decide, hd⟩
  have HTO : Hid (∀ wx u, SB wx u D → Calls Try.prog 5 #[u, .agg #[.int .i64 x, .int .i64 y, .bool z]] wx fun e w' => ∃ u, e = .returned (.tuple #[u, .int .i64 0]) ∧ OK w' wx.heap.size u L ∧ Below wx.heap.size wx w') := fun wx u q => by
    have := tokens_any u D x y z wx q HBT.out
    rw [← HL.out, r1] at this
    exact this
  have HTR : Hid (∀ wx u, SB wx u oth → Calls Try.prog 5 #[u, .agg #[.int .i64 x, .int .i64 y, .bool z]] wx fun e w' => ∃ u, e = .returned (.tuple #[u, .int .i64 0]) ∧ OK w' wx.heap.size u M ∧ Below wx.heap.size wx w') := fun wx u q => by
    have := tokens_any u oth x y z wx q oth_byt
    rw [← HM.out, r3] at this
    exact this
  have hLD : L = tkl D x.toNat y.toNat z := HL.out.trans r2
  have hLR : M = tkl oth x.toNat y.toNat z := HM.out.trans r4
  have hd' := hd
  unfold Dmn at hd'
  obtain ⟨q1, q2⟩ := tkl_all (D := D) (W := x.toNat) (C := y.toNat) (z := z) (by omega)
  obtain ⟨q3, q4⟩ := tkl_all (D := oth) (W := x.toNat) (C := y.toNat) (z := z) (by omega)
  rw [← hLD] at q1 q2
  rw [← hLR] at q3 q4
  have hLl : L.length ≤ D.length := by
    rw [hLD]
    have := tks_len (D := D) (W := x.toNat) (C := y.toNat) (z := z) D.length 0 (Nat.zero_le _)
    show (tks D x.toNat y.toNat z D.length 0).length ≤ _
    omega
  have hMl : M.length ≤ 7 := by
    rw [hLR]
    have := tks_len (D := oth) (W := x.toNat) (C := y.toNat) (z := z) oth.length 0 (Nat.zero_le _)
    show (tks oth x.toNat y.toNat z oth.length 0).length ≤ _
    simpa [oth] using this
  have hLn : L.length ≤ 16777216 := by omega
  have hDn : D.length ≤ 16777216 := by omega
  have HQ1 := hide q1
  have HQ2 := hide q2
  have HQ3 : Hid (exE 7 [] M = 0) := q3
  have HQ4 := hide q4
  have HEX : Hid (∀ wx u, SK wx u L → Calls Try.prog 9 #[u, .int .i64 (D.length : Int)] wx fun e w' => ∃ u, e = .returned (.tuple #[u, .int .i64 0]) ∧ OB w' wx.heap.size u D ∧ Below wx.heap.size wx w') := fun wx u q => by
    have hE : xE (D.length : Int) L = 0 := by rw [xE_in (by omega) (by omega)]; exact HQ1.out
    have hX : xL (D.length : Int) L = D := by unfold xL; rw [if_pos hE]; exact HQ2.out
    have := expand_any u L (D.length : Int) wx q
    rw [hE, hX] at this
    exact this
  have HEY : Hid (∀ wx u, SK wx u M → Calls Try.prog 9 #[u, .int .i64 7] wx fun e w' => ∃ u, e = .returned (.tuple #[u, .int .i64 0]) ∧ OB w' wx.heap.size u oth ∧ Below wx.heap.size wx w') := fun wx u q => by
    have hE : xE 7 M = 0 := by rw [xE_in (by omega) (by omega)]; exact HQ3.out
    have hX : xL 7 M = oth := by unfold xL; rw [if_pos hE]; exact HQ4.out
    have := expand_any u M 7 wx q
    rw [hE, hX] at this
    exact this
  clear r1 r2 r3 r4 hLD hLR hd hd' q1 q2 q3 q4 HL HM hLl
  have HO0 := hide (oth_ob wb)
  have HB0 : Hid (Below wb.heap.size wb (wb.alloc (.cells #[.int .u8 1, .int .u8 2, .int .u8 3, .int .u8 1, .int .u8 2, .int .u8 3, .int .u8 1] 5))) := (Below.refl _ _).alloc (Nat.le_refl _) _
  obtain ⟨w0, hw0⟩ : ∃ w0, wb.alloc (.cells #[.int .u8 1, .int .u8 2, .int .u8 3, .int .u8 1, .int .u8 2, .int .u8 3, .int .u8 1] 5) = w0 := ⟨_, rfl⟩
  rw [hw0] at HO0 HB0
  have HQ0 : Hid (Sq wb w0 [] [(.slice (some ⟨wb.heap.size, 0, none⟩) 7 7, oth)]) := (Sq.nil wb).addB HB0.out HO0.out
  obtain ⟨f1, f2, f3⟩ := HC.out _ HB0.out
  clear d1 d2 d3 HO0 HB0
  have HCA : Hid (∀ wx, Below wb.heap.size wb wx → Calls Try.prog 6 #[.slice ao D.length cap] wx.drew fun e w' => ∃ a c, e = .returned (.slice a D.length c) ∧ SB w' (.slice a D.length c) D ∧ Below wx.heap.size wx w') := fun wx q => (copied_any _ D wx.drew ((HSB.out wx q).below (Below.refl _ _).drew) (by omega)).mono fun e w' ⟨a, c, h1, h2, h3⟩ => ⟨a, c, h1, h2.sb, (Below.refl _ _).drew.trans h3⟩
  have HCB : Hid (∀ wx, SB wx (.slice (some ⟨wb.heap.size, 0, none⟩) 7 7) oth → Calls Try.prog 6 #[.slice (some ⟨wb.heap.size, 0, none⟩) 7 7] wx.drew fun e w' => ∃ a c, e = .returned (.slice a 7 c) ∧ SB w' (.slice a 7 c) oth ∧ Below wx.heap.size wx w') := fun wx q => (copied_any _ oth wx.drew (q.below (Below.refl _ _).drew) (by decide)).mono fun e w' ⟨a, c, h1, h2, h3⟩ => ⟨a, c, h1, h2.sb, (Below.refl _ _).drew.trans h3⟩
  go_enter Try.func12, Try.ntmps12
  go_wp2
  clear hw0 hwb
  have e1 : w0.drew.cell? ⟨w.heap.size, 0, none⟩ = some (.int .i64 x) := f1
  have e2 : w0.drew.cell? ⟨w.heap.size, 1, none⟩ = some (.int .i64 y) := f2
  have e3 : w0.drew.cell? ⟨w.heap.size, 2, none⟩ = some (.bool z) := f3
  have HWC : Hid (∀ wx, Below w0.heap.size w0 wx → wx.cell? ⟨w.heap.size, 0, none⟩ = some (.int .i64 x) ∧ wx.cell? ⟨w.heap.size, 1, none⟩ = some (.int .i64 y) ∧ wx.cell? ⟨w.heap.size, 2, none⟩ = some (.bool z)) := fun wx q => HC.out wx (HQ0.out.low.trans (q.mono HQ0.out.low.size))
  have HCP := hide (HCA.out w0 HQ0.out.low)
  go_cut [6, 7] (fun s5 s6 wx => ∃ ta tc, s5 = .slice ta L.length tc ∧ s6 = .int .i64 0 ∧ tc ≤ 9223372036854775807 ∧ L.length ≤ tc ∧ Hid (OK wx w0.heap.size (.slice ta L.length tc) L) ∧ Hid (Below w0.heap.size w0 wx))
  case first =>
    go_region_with (first
      | (go_at_call 6; refine HCP.out.mono ?_; rintro e w4 ⟨a4, c4, rfl, o4, b4⟩; have HO4 := hide o4; have HB4 := hide b4; obtain ⟨k1, k2, k3⟩ := HWC.out _ b4; clear o4 b4)
      | (go_at_call 5; refine (HTO.out _ _ HO4.out).mono ?_; rintro e w5 ⟨u5, rfl, o5, b5⟩; have HB5 := hide (HB4.out.trans (b5.mono HB4.out.size)); have HO5 : Hid (OK w5 w0.heap.size u5 L) := o5.base HB4.out.size; obtain ⟨a5, c5, hu5, hl5, hm5⟩ := o5.shape; subst hu5; clear o5 b5))
    all_goals
      go_wp2_with fail
      go_meet
      exact ⟨_, _, rfl, rfl, hm5, hl5, HO5, HB5⟩
  case rest =>
  obtain ⟨ta, tc, rfl, rfl, htm, htl, HO5, HB5⟩ := hcut
  obtain ⟨w1, rfl⟩ : ∃ w1, w1 = wc := ⟨_, rfl⟩
  have HQ1' := hide (HQ0.out.addT HB5.out HO5.out)
  clear e1 e2 e3 f1 f2 f3 HO5 HB5 HQ0 HWC HCP
  obtain ⟨f1, f2, f3⟩ := HC.out _ HQ1'.out.low
  have e1 : w1.drew.cell? ⟨w.heap.size, 0, none⟩ = some (.int .i64 x) := f1
  have e2 : w1.drew.cell? ⟨w.heap.size, 1, none⟩ = some (.int .i64 y) := f2
  have e3 : w1.drew.cell? ⟨w.heap.size, 2, none⟩ = some (.bool z) := f3
  have HWC : Hid (∀ wx, Below w1.heap.size w1 wx → wx.cell? ⟨w.heap.size, 0, none⟩ = some (.int .i64 x) ∧ wx.cell? ⟨w.heap.size, 1, none⟩ = some (.int .i64 y) ∧ wx.cell? ⟨w.heap.size, 2, none⟩ = some (.bool z)) := fun wx q => HC.out wx (HQ1'.out.low.trans (q.mono HQ1'.out.low.size))
  have HCP := hide (HCA.out w1 HQ1'.out.low)
  go_wp2_with fail
  go_cut [8, 9] (fun s5 s6 wx => ∃ ta tc, s5 = .slice ta L.length tc ∧ s6 = .int .i64 0 ∧ tc ≤ 9223372036854775807 ∧ L.length ≤ tc ∧ Hid (OK wx w1.heap.size (.slice ta L.length tc) L) ∧ Hid (Below w1.heap.size w1 wx))
  case first =>
    go_region_with (first
      | (go_at_call 6; refine HCP.out.mono ?_; rintro e w4 ⟨a4, c4, rfl, o4, b4⟩; have HO4 := hide o4; have HB4 := hide b4; obtain ⟨k1, k2, k3⟩ := HWC.out _ b4; clear o4 b4)
      | (go_at_call 5; refine (HTO.out _ _ HO4.out).mono ?_; rintro e w5 ⟨u5, rfl, o5, b5⟩; have HB5 := hide (HB4.out.trans (b5.mono HB4.out.size)); have HO5 : Hid (OK w5 w1.heap.size u5 L) := o5.base HB4.out.size; obtain ⟨a5, c5, hu5, hl5, hm5⟩ := o5.shape; subst hu5; clear o5 b5))
    all_goals
      go_wp2_with fail
      go_meet
      exact ⟨_, _, rfl, rfl, hm5, hl5, HO5, HB5⟩
  case rest =>
  obtain ⟨sa, sc, rfl, rfl, hsm, hsl, HO5, HB5⟩ := hcut
  have HQ2' := hide (HQ1'.out.addT HB5.out HO5.out)
  clear e1 e2 e3 f1 f2 f3 HO5 HB5 HQ1' HWC HCP
  obtain ⟨w2, hw2⟩ : ∃ w2, w2 = wc := ⟨_, rfl⟩
  rw [← hw2] at HQ2' ⊢
  clear hw2
  obtain ⟨f1, f2, f3⟩ := HC.out _ HQ2'.out.low
  have e1 : w2.drew.cell? ⟨w.heap.size, 0, none⟩ = some (.int .i64 x) := f1
  have e2 : w2.drew.cell? ⟨w.heap.size, 1, none⟩ = some (.int .i64 y) := f2
  have e3 : w2.drew.cell? ⟨w.heap.size, 2, none⟩ = some (.bool z) := f3
  have HWC : Hid (∀ wx, Below w2.heap.size w2 wx → wx.cell? ⟨w.heap.size, 0, none⟩ = some (.int .i64 x) ∧ wx.cell? ⟨w.heap.size, 1, none⟩ = some (.int .i64 y) ∧ wx.cell? ⟨w.heap.size, 2, none⟩ = some (.bool z)) := fun wx q => HC.out wx (HQ2'.out.low.trans (q.mono HQ2'.out.low.size))
  have HCP := hide (HCB.out w2 (HQ2'.out.ob 0 _ rfl).sb)
  go_wp2_with fail
  go_cut [10, 11] (fun s5 s6 wx => ∃ ta tc, s5 = .slice ta M.length tc ∧ s6 = .int .i64 0 ∧ tc ≤ 9223372036854775807 ∧ M.length ≤ tc ∧ Hid (OK wx w2.heap.size (.slice ta M.length tc) M) ∧ Hid (Below w2.heap.size w2 wx))
  case first =>
    go_region_with (first
      | (go_at_call 6; refine HCP.out.mono ?_; rintro e w4 ⟨a4, c4, rfl, o4, b4⟩; have HO4 := hide o4; have HB4 := hide b4; obtain ⟨k1, k2, k3⟩ := HWC.out _ b4; clear o4 b4)
      | (go_at_call 5; refine (HTR.out _ _ HO4.out).mono ?_; rintro e w5 ⟨u5, rfl, o5, b5⟩; have HB5 := hide (HB4.out.trans (b5.mono HB4.out.size)); have HO5 : Hid (OK w5 w2.heap.size u5 M) := o5.base HB4.out.size; obtain ⟨a5, c5, hu5, hl5, hm5⟩ := o5.shape; subst hu5; clear o5 b5))
    all_goals
      go_wp2_with fail
      go_meet
      exact ⟨_, _, rfl, rfl, hm5, hl5, HO5, HB5⟩
  case rest =>
  obtain ⟨ra, rc, rfl, rfl, hrm, hrl, HO5, HB5⟩ := hcut
  have HQ3' := hide (HQ2'.out.addT HB5.out HO5.out)
  clear e1 e2 e3 f1 f2 f3 HO5 HB5 HQ2' HWC HCP HTO HTR HCA HCB
  have hee : (0 : Int) = 0 := rfl
  have HM1 := hide (means_any _ _ L D (D.length : Int) wc (HQ3'.out.ot 0 _ rfl).sk (HSB.out _ HQ3'.out.low) HQ1.out HQ2.out.symm (by omega))
  go_wp2_with fail
  refine HM1.out.mono ?_
  rintro e w6 ⟨rfl, b6⟩
  have HQ6 := hide (HQ3'.out.go b6)
  have HM2 := hide (alike_any _ _ L L w6 (HQ6.out.ot 0 _ rfl).sk (HQ6.out.ot 1 _ rfl).sk)
  rw [show eqK L L = true from decide_eq_true rfl] at HM2
  clear b6 HM1 HQ3'
  go_wp2_with fail
  refine HM2.out.mono ?_
  rintro e w7 ⟨rfl, n7, hw7⟩
  have HQ7 := hide (HQ6.out.go (w' := w7) (by rw [hw7]; exact below_drewN (Below.refl _ _) _))
  have HM3 := hide (means_any _ _ M oth 7 w7 (HQ7.out.ot 2 _ rfl).sk (HQ7.out.ob 0 _ rfl).sb HQ3.out HQ4.out.symm (by decide))
  clear hw7 HM2 HQ6
  go_wp2_with fail
  refine HM3.out.mono ?_
  rintro e w8 ⟨rfl, b8⟩
  have HQ8 := hide (HQ7.out.go b8)
  clear b8 HM3 HQ7
  have HW1 := hide (twin_any _ L w8 (HQ8.out.ot 0 _ rfl).sk (by omega))
  go_wp2_with fail
  refine HW1.out.mono ?_
  rintro e w9 ⟨u9, rfl, o9, b9⟩
  obtain ⟨a9, c9, hu9, _, _⟩ := o9.shape
  subst hu9
  have HX1 := hide (HEX.out w9 _ o9.sk)
  have HQ9 := hide (HQ8.out.go b9)
  clear b9 o9 HW1 HQ8
  go_wp2_with fail
  refine HX1.out.mono ?_
  rintro e w10 ⟨u10, rfl, o10, b10⟩
  obtain ⟨xa, xc, hu10, hxl, hxm⟩ := o10.top
  subst hu10
  have HQ10 := hide (HQ9.out.addB b10 o10)
  clear b10 o10 HX1 HQ9
  have HW1 := hide (twin_any _ L w10 (HQ10.out.ot 0 _ rfl).sk (by omega))
  go_wp2_with fail
  refine HW1.out.mono ?_
  rintro e w11 ⟨u11, rfl, o11, b11⟩
  obtain ⟨a11, c11, hu11, _, _⟩ := o11.shape
  subst hu11
  have HX1 := hide (HEX.out w11 _ o11.sk)
  have HQ11 := hide (HQ10.out.go b11)
  clear b11 o11 HW1 HQ10
  go_wp2_with fail
  refine HX1.out.mono ?_
  rintro e w12 ⟨u12, rfl, o12, b12⟩
  obtain ⟨ya, yc, hu12, hyl, hym⟩ := o12.top
  subst hu12
  have HQ12 := hide (HQ11.out.addB b12 o12)
  clear b12 o12 HX1 HQ11
  have HW1 := hide (twin_any _ M w12 (HQ12.out.ot 2 _ rfl).sk (by omega))
  go_wp2_with fail
  refine HW1.out.mono ?_
  rintro e w13 ⟨u13, rfl, o13, b13⟩
  obtain ⟨a13, c13, hu13, _, _⟩ := o13.shape
  subst hu13
  have HX1 := hide (HEY.out w13 _ o13.sk)
  have HQ13 := hide (HQ12.out.go b13)
  clear b13 o13 HW1 HQ12
  go_wp2_with fail
  refine HX1.out.mono ?_
  rintro e w14 ⟨u14, rfl, o14, b14⟩
  obtain ⟨za, zc, hu14, hzl, hzm⟩ := o14.top
  have hu14' : u14 = .slice za 7 zc := hu14
  subst hu14'
  have HQ14 := hide (HQ13.out.addB b14 o14)
  clear b14 o14 HX1 HQ13 hu14
  have HS1 := hide (same_any _ _ D D w14 (HQ14.out.ob 1 _ rfl).sb (HSB.out _ HQ14.out.low))
  rw [show eqB D D = true from decide_eq_true rfl] at HS1
  go_wp2_with fail
  refine HS1.out.mono ?_
  rintro e w15 ⟨rfl, n15, hw15⟩
  have HQ15 := hide (HQ14.out.go (w' := w15) (by rw [hw15]; exact below_drewN (Below.refl _ _) _))
  have HS1 := hide (same_any _ _ D D w15 (HQ15.out.ob 2 _ rfl).sb (HSB.out _ HQ15.out.low))
  rw [show eqB D D = true from decide_eq_true rfl] at HS1
  clear hw15 HQ14
  go_wp2_with fail
  refine HS1.out.mono ?_
  rintro e w16 ⟨rfl, n16, hw16⟩
  have HQ16 := hide (HQ15.out.go (w' := w16) (by rw [hw16]; exact below_drewN (Below.refl _ _) _))
  have HS1 := hide (same_any _ _ oth oth w16 (HQ16.out.ob 3 _ rfl).sb (HQ16.out.ob 0 _ rfl).sb)
  rw [show eqB oth oth = true from decide_eq_true rfl] at HS1
  clear hw16 HQ15
  go_wp2_with fail
  refine HS1.out.mono ?_
  rintro e w17 ⟨rfl, n17, hw17⟩
  have HQ17 := hide (HQ16.out.go (w' := w17) (by rw [hw17]; exact below_drewN (Below.refl _ _) _))
  clear hw17 HQ16 HS1
  have HL3 := hide (HQ17.out.lists3B (n := 1) rfl rfl rfl ⟨by omega, by omega, by decide⟩ (O := .cells #[.slice xa D.length xc, .slice ya D.length yc, .slice za 7 zc] 22) (fun W hW => by unfold World.cell?; simp only [hW]; exact ⟨rfl, rfl, rfl⟩))
  have HBA := hide (bapart9_walk _ wb.heap.size w17.heap.size 3 (some ⟨w17.heap.size, 0, none⟩) _ HL3.out (fun _ => rfl))
  have hba : Below w17.heap.size w17 (w17.alloc (.cells #[.slice xa D.length xc, .slice ya D.length yc, .slice za 7 zc] 22)) := (Below.refl _ _).alloc (Nat.le_refl _) _
  have HBB := hide hba
  clear hba HL3
  go_wp2_with fail
  refine HBA.out.mono ?_
  rintro e w18 ⟨rfl, k18⟩
  have HQ18 := hide (HQ17.out.keptT HBB.out k18 (fun p hp => by
    simp only [List.mem_cons, List.not_mem_nil, or_false] at hp
    rcases hp with rfl | rfl | rfl <;> simp))
  clear k18 HBA HBB HQ17
  have HL3 := hide (HQ18.out.lists3T (n := 0) rfl rfl rfl ⟨by omega, by omega, by omega⟩ (O := .cells #[.slice ta L.length tc, .slice sa L.length sc, .slice ra M.length rc] 26) (fun W hW => by unfold World.cell?; simp only [hW]; exact ⟨rfl, rfl, rfl⟩))
  have HTA := hide (tapart_walk _ wb.heap.size w18.heap.size 3 (some ⟨w18.heap.size, 0, none⟩) _ HL3.out (fun _ => rfl))
  have HBB : Hid (Below w18.heap.size w18 (w18.alloc (.cells #[.slice ta L.length tc, .slice sa L.length sc, .slice ra M.length rc] 26))) := (Below.refl _ _).alloc (Nat.le_refl _) _
  clear HL3
  go_wp2_with fail
  refine HTA.out.mono ?_
  rintro e w19 ⟨rfl, k19⟩
  have HB19 := hide (HQ18.out.belowT HBB.out k19 (fun p hp => by
    simp only [List.mem_cons, List.not_mem_nil, or_false] at hp
    rcases hp with rfl | rfl | rfl <;> simp))
  clear k19 HTA HBB HQ18
  go_wp2
  go_ret
  exact ⟨rfl, HFI.out _ HB19.out⟩
end Go.Proofs.Ytjdgeonlbjokaaa

