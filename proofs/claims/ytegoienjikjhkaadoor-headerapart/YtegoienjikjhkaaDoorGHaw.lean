import Derived.Test.YtegoienjikjhkaaDoorGA41
import Derived.Test.YtegoienjikjhkaaDoorGA39
import Derived.Test.YtegoienjikjhkaaDoorGRhr
import Derived.Test.YtegoienjikjhkaaDoorGA28
import Derived.Test.YtegoienjikjhkaaDoorGA30
import Derived.Test.YtegoienjikjhkaaDoorGA40
import Derived.Test.YtegoienjikjhkaaDoorGA37
namespace Go.Proofs.YtegoienjikjhkaaDoor
open Go.RowKit Go.Maps
set_option maxRecDepth 20000
set_option linter.unusedVariables false
set_option linter.unusedSimpArgs false

theorem mkR_facts {l d : List Int} (h : mkE l d = 0) : xpE [] (mkR l d) = 0 ∧ xpL (mkR l d) = mkL l ++ mkD d ∧ 0 < (mkR l d).length := by
  obtain ⟨f1, f2, f3, f4, f5, f6, f7, f8, f9, f10⟩ := mk_facts h
  have hx := xp_rns (l := mkL l ++ mkD d) f7
  have e : mkR l d = rns (mkL l ++ mkD d) := rfl
  have hl : xpL (mkR l d) = mkL l ++ mkD d := by rw [e]; unfold xpL; rw [if_pos hx.1, hx.2]
  refine ⟨by rw [e]; exact hx.1, hl, ?_⟩
  cases q : mkR l d with
  | nil =>
    rw [← e, q] at hx
    have := hx.2
    simp only [lays] at this
    have h3 : (mkL l ++ mkD d).length = 0 := by rw [← this]; rfl
    rw [List.length_append] at h3
    omega
  | cons r R => simp

/-- One number of a list written over. -/
theorem Herd.mark {W w : World} {xs : List ((Nat → Nat) × Thing)} (H : Herd W w xs) (i : Nat) {K : Nat → Nat} {a : Option Addr} {n c k : Nat} {m : Int} {X : List Int} (hi : xs[i]? = some (K, ti (.slice a n c) (List.replicate k m ++ X.drop k))) (hk : k < X.length) :
    ∃ g, a = some ⟨g, 0, none⟩ ∧ (∃ u, w.cell? ⟨g, k, none⟩ = some u) ∧ w.frozen? ⟨g, k, none⟩ = false ∧ Herd W (w.setCell ⟨g, k, none⟩ (.int .i64 m)) (xs.set i (K, ti (.slice a n c) (List.replicate (k + 1) m ++ X.drop (k + 1)))) := by
  obtain ⟨g, c', hv, hc, hf, hh⟩ := H.iput i hi (k := k) (by simp; omega) m
  simp only [Value.slice.injEq] at hv
  obtain ⟨ha, -, -⟩ := hv
  refine ⟨g, ha, hc, hf, ?_⟩
  have e : (List.replicate k m ++ X.drop k).set k m = List.replicate (k + 1) m ++ X.drop (k + 1) := by
    rw [List.set_append_right _ _ (by simp)]
    have e1 : X.drop k = X[k] :: X.drop (k + 1) := List.drop_eq_getElem_cons hk
    have e2 : (X.drop k).set 0 m = m :: X.drop (k + 1) := by rw [e1]; rfl
    simp [List.replicate_succ', e2]
  rw [e] at hh
  exact hh

theorem ti_start {v : Value} {X : List Int} {m : Int} : ti v X = ti v (List.replicate 0 m ++ X.drop 0) := by simp

theorem ti_end {v : Value} {X : List Int} {m : Int} : ti v (List.replicate X.length m ++ X.drop X.length) = ti v (List.replicate X.length m) := by simp

theorem set_get {α : Type} {l : List α} {i : Nat} {x y : α} (h : l[i]? = some y) : (l.set i x)[i]? = some x := by
  rw [List.getElem?_set_self (List.getElem?_eq_some_iff.1 h).1]

theorem set_same {α : Type} {l : List α} {i : Nat} {x : α} (h : l[i]? = some x) : l.set i x = l := by
  apply List.ext_getElem?
  intro j
  by_cases e : i = j
  · subst e
    rw [List.getElem?_set_self (List.getElem?_eq_some_iff.1 h).1, h]
  · rw [List.getElem?_set_ne e]

set_option maxHeartbeats 8000000 in
theorem headerApart_walk (v1 v2 : Value) (l d : List Int) (w : World) (s1 : SI w v1 l) (s2 : SI w v2 d) (T : Tab w) (O : Odr w) :
    Calls Tryd.prog 3 #[v1, v2] w fun e w' => e = .returned (.bool true) ∧ Below w.heap.size w w' := by
  have H1 := hide s1
  have H2 := hide s2
  have HT := hide T
  have HO := hide O
  have HVD := hide (verdict_any _ _ l d w s1 s2)
  rw [← vd_mk] at HVD
  obtain ⟨a1, c1, rfl, -, -⟩ := s1.open
  obtain ⟨a2, c2, rfl, -, -⟩ := s2.open
  clear s1 s2 T O
  obtain ⟨E, HE⟩ : ∃ E, Hid (E = mkE l d) := ⟨_, rfl⟩
  rw [← HE.out] at HVD
  go_enter Tryd.func3, Tryd.ntmps3
  go_wp2_with fail
  refine HVD.out.mono ?_
  rintro e w1 ⟨rfl, hw1⟩
  rw [hw1]
  clear hw1 HVD
  by_cases e0 : E = 0
  case neg =>
    have e0' : (E != 0) = true := by simpa using e0
    go_wp2
    go_ret
    exact ⟨rfl, Below.refl _ _⟩
  subst e0
  have HM0 : Hid (mkE l d = 0) := HE.out.symm
  obtain ⟨f1, f2, f3, f4, f5, f6, f7, f8, f9, f10⟩ := mk_facts HM0.out
  obtain ⟨k1, k2, k3, k4, k5⟩ := mk_small HM0.out
  have HRF := hide (mkR_facts HM0.out)
  have hR0 := HRF.out.2.2
  have HMS : Hid (∀ wx va vb, Below w.heap.size w wx → SI wx va l → SI wx vb d → Calls Tryd.prog 7 #[va, vb] wx fun e w' => MkSp wx w' l d e ∧ Below wx.heap.size wx w') := fun wx va vb q s1 s2 => make_sep va vb l d wx s1 s2 (HT.out.mono q) (HO.out.mono q) HM0.out
  obtain ⟨L, HL⟩ : ∃ L, Hid (L = mkL l) := ⟨_, rfl⟩
  obtain ⟨D, HD⟩ : ∃ L, Hid (L = mkD d) := ⟨_, rfl⟩
  obtain ⟨C, HC⟩ : ∃ L, Hid (L = mkC l d) := ⟨_, rfl⟩
  obtain ⟨R, HR⟩ : ∃ L, Hid (L = mkR l d) := ⟨_, rfl⟩
  obtain ⟨Z, HZ⟩ : ∃ L, Hid (L = mkZ l d) := ⟨_, rfl⟩
  have hl1 : l.length ≤ 286 := f1
  have hd1 : d.length ≤ 30 := f2
  have hL1 : 257 ≤ L.length ∧ L.length ≤ 286 := by rw [HL.out]; exact ⟨f3, f4⟩
  have hD1 : 1 ≤ D.length ∧ D.length ≤ 30 := by rw [HD.out]; exact ⟨f5, f6⟩
  have HC19 : Hid (C.length = 19) := by show _ = _; rw [HC.out]; exact k1
  have hC1 : 1 ≤ C.length ∧ C.length ≤ 19 := by rw [HC19.out]; omega
  have hR1 : 0 < R.length ∧ R.length ≤ 316 := by rw [HR.out]; exact ⟨hR0, f9⟩
  clear f1 f2 f3 f4 f5 f6 f7 f8 f9 f10 k1 k2 k3 k4 k5 hR0
  have HRA := hide (roomy_any _ l w H1.out (by omega))
  go_wp2_with fail
  refine HRA.out.mono ?_
  rintro e w2 ⟨va, rfl, rfl, o2, p2, b2⟩
  have X2 := hide ((Herd.nil w).room b2 o2 p2)
  have HB2 := hide b2
  obtain ⟨ga, hga⟩ : ∃ g, w.heap.size = g := ⟨_, rfl⟩
  have HGA := hide hga
  have HRB := hide (roomy_any _ d w2 (H2.out.below b2) (by omega))
  rw [hga] at X2 ⊢
  clear o2 p2 b2 HRA hga
  go_wp2_with fail
  refine HRB.out.mono ?_
  rintro e w3 ⟨vb, rfl, rfl, o3, p3, b3⟩
  have X3 := hide (X2.out.room b3 o3 p3)
  obtain ⟨gb, hgb⟩ : ∃ g, w2.heap.size = g := ⟨_, rfl⟩
  rw [hgb] at X3 ⊢
  clear o3 p3 b3 HRB hgb X2 HB2
  have HNW := hide (hnewW X3.out)
  go_wp2_with fail
  refine HNW.out.mono ?_
  rintro e w4 ⟨gw, Kw, rfl, x4⟩
  have X4 := hide x4
  clear x4 HNW X3
  simp only [List.nil_append, List.cons_append] at X4
  obtain ⟨ka, hka⟩ : ∃ K, K = kOf (.slice (some ⟨ga, 0, none⟩) l.length (l.length + 9)) := ⟨_, rfl⟩
  obtain ⟨kb, hkb⟩ : ∃ K, K = kOf (.slice (some ⟨gb, 0, none⟩) d.length (d.length + 9)) := ⟨_, rfl⟩
  rw [← hka, ← hkb] at X4
  have HSA : Hid (∀ wx ys, Herd w wx ((ka, tro (.slice (some ⟨ga, 0, none⟩) l.length (l.length + 9)) l) :: (kb, tro (.slice (some ⟨gb, 0, none⟩) d.length (d.length + 9)) d) :: ys) → SI wx (.slice (some ⟨ga, 0, none⟩) l.length (l.length + 9)) l ∧ SI wx (.slice (some ⟨gb, 0, none⟩) d.length (d.length + 9)) d ∧ Spare wx (.slice (some ⟨ga, 0, none⟩) l.length (l.length + 9)) l.length ∧ Spare wx (.slice (some ⟨gb, 0, none⟩) d.length (d.length + 9)) d.length) := fun wx ys h => by
    have h0 := h.rep 0 _ rfl
    have h1 := h.rep 1 _ rfl
    exact ⟨h0.1.1.sb, h1.1.1.sb, h0.1.2, h1.1.2⟩
  clear hka hkb
  have HM1 := hide (HMS.out w4 _ _ X4.out.bel (HSA.out _ _ X4.out).1 (HSA.out _ _ X4.out).2.1)
  go_wp2_with fail
  refine HM1.out.mono ?_
  rintro e w5 ⟨⟨xL, xD, xC, xR, rfl, m5, p5⟩, b5⟩
  rw [← HL.out, ← HD.out, ← HC.out, ← HR.out] at m5
  rw [← HZ.out]
  obtain ⟨aL, cL, hxL⟩ := m5.l.shape
  obtain ⟨aD, cD, hxD⟩ := m5.d.shape
  obtain ⟨aC, cC, hxC⟩ := m5.c.shape
  obtain ⟨aR, cR, hxR, _, _⟩ := m5.r.shape
  subst hxL hxD hxC hxR
  have x5 := X4.out.make4 b5 m5 p5
  have x6 := x5.box #[.slice aL L.length cL, .slice aD D.length cD, .slice aC C.length cC, .slice aR R.length cR, .int .i64 Z] 29
  simp only [List.nil_append, List.cons_append] at x6
  obtain ⟨w6, hw6⟩ : ∃ w6, w5.alloc (.cells #[.slice aL L.length cL, .slice aD D.length cD, .slice aC C.length cC, .slice aR R.length cR, .int .i64 Z] 29) = w6 := ⟨_, rfl⟩
  rw [hw6] at x6
  obtain ⟨gx, hgx⟩ : ∃ g, w5.heap.size = g := ⟨_, rfl⟩
  have X6 := hide x6
  have HM2 := hide (HMS.out w6 _ _ x6.bel (HSA.out _ _ x6).1 (HSA.out _ _ x6).2.1)
  have HW6 := hide hw6
  have HGX := hide hgx
  clear m5 p5 b5 x5 x6 HM1 X4 hw6 hgx
  go_wp2_with fail
  rw [HW6.out]
  refine HM2.out.mono ?_
  rintro e w7 ⟨⟨yL, yD, yC, yR, rfl, m7, p7⟩, b7⟩
  rw [← HL.out, ← HD.out, ← HC.out, ← HR.out] at m7
  rw [← HZ.out]
  obtain ⟨bL, eL, hyL⟩ := m7.l.shape
  obtain ⟨bD, eD, hyD⟩ := m7.d.shape
  obtain ⟨bC, eC, hyC⟩ := m7.c.shape
  obtain ⟨bR, eR, hyR, _, _⟩ := m7.r.shape
  subst hyL hyD hyC hyR
  have x7 := X6.out.make4 b7 m7 p7
  have x8 := x7.box #[.slice bL L.length eL, .slice bD D.length eD, .slice bC C.length eC, .slice bR R.length eR, .int .i64 Z] 29
  simp only [List.nil_append, List.cons_append] at x8
  obtain ⟨w8, hw8⟩ : ∃ w8, w7.alloc (.cells #[.slice bL L.length eL, .slice bD D.length eD, .slice bC C.length eC, .slice bR R.length eR, .int .i64 Z] 29) = w8 := ⟨_, rfl⟩
  rw [hw8] at x8
  have HWR := hide (hwrite x8 2 rfl _ _ l d (HSA.out _ _ x8).1 (HSA.out _ _ x8).2.1 HT.out HO.out)
  obtain ⟨wf1, wf2, -⟩ := wr_facts (l := l) (d := d) (row := []) (by simp)
  rw [wf1, HM0.out, wf2 HM0.out, List.nil_append] at HWR
  simp only [List.set_cons_zero, List.set_cons_succ] at HWR
  have HW8 := hide hw8
  clear m7 p7 b7 x7 x8 HM2 X6 hw8 wf1 wf2
  go_wp2_with fail
  rw [HW8.out]
  refine HWR.out.mono ?_
  rintro e w9 ⟨rfl, K9, x9⟩
  have X9 := hide x9
  have HP1 := hide (spared_any _ l.length w9 (HSA.out _ _ x9).2.2.1 (by omega))
  have HP2 := hide (spared_any _ d.length w9 (HSA.out _ _ x9).2.2.2 (by omega))
  obtain ⟨y0, y1, y2, y3, -⟩ := x9.hx 7 rfl
  obtain ⟨z0, z1, z2, z3, -⟩ := x9.hx 12 rfl
  have qL : ((L.length : Int) == 0) = false := beq_eq_false_iff_ne.2 (by omega)
  have qD : ((D.length : Int) == 0) = false := beq_eq_false_iff_ne.2 (by omega)
  have qC : ((C.length : Int) == 0) = false := beq_eq_false_iff_ne.2 (by omega)
  have qR : ((R.length : Int) == 0) = false := beq_eq_false_iff_ne.2 (by omega)
  clear x9 HWR
  go_wp2_with fail
  refine HP1.out.mono ?_
  rintro e w10 ⟨rfl, hw10⟩
  rw [hw10]
  clear hw10 HP1
  go_wp2_with fail
  refine HP2.out.mono ?_
  rintro e w10 ⟨rfl, hw10⟩
  rw [hw10]
  clear hw10 HP2
  have HI1 := hide (ints_any _ L w9 (X9.out.isi 8 rfl) (by omega))
  go_wp2_with fail
  refine HI1.out.mono ?_
  rintro e w10 ⟨vl, rfl, rfl, o10, b10⟩
  have x10 := X9.out.il b10 o10
  simp only [List.nil_append, List.cons_append] at x10
  have X10 := hide x10
  obtain ⟨gl, hgl⟩ : ∃ g, w9.heap.size = g := ⟨_, rfl⟩
  rw [hgl] at X10 ⊢
  obtain ⟨z0, z1, z2, z3, -⟩ := x10.hx 12 rfl
  have HI1 := hide (ints_any _ D w10 (x10.isi 9 rfl) (by omega))
  clear o10 b10 x10 X9 hgl y0 y1 y2 y3
  go_wp2_with fail
  refine HI1.out.mono ?_
  rintro e w11 ⟨vd, rfl, rfl, o11, b11⟩
  have x11 := X10.out.il b11 o11
  simp only [List.nil_append, List.cons_append] at x11
  have X11 := hide x11
  obtain ⟨gd, hgd⟩ : ∃ g, w10.heap.size = g := ⟨_, rfl⟩
  rw [hgd] at X11 ⊢
  obtain ⟨z0, z1, z2, z3, -⟩ := x11.hx 12 rfl
  have HI1 := hide (ints_any _ C w11 (x11.isi 10 rfl) (by omega))
  clear o11 b11 x11 X10 hgd
  go_wp2_with fail
  refine HI1.out.mono ?_
  rintro e w12 ⟨vc, rfl, rfl, o12, b12⟩
  have x12 := X11.out.il b12 o12
  simp only [List.nil_append, List.cons_append] at x12
  have X12 := hide x12
  obtain ⟨gc, hgc⟩ : ∃ g, w11.heap.size = g := ⟨_, rfl⟩
  rw [hgc] at X12 ⊢
  obtain ⟨z0, z1, z2, z3, -⟩ := x12.hx 12 rfl
  have HRU := hide (lruns_any _ R w12 (x12.rep 11 _ rfl).1.sr (by omega))
  clear o12 b12 x12 X11 hgc HI1
  go_wp2_with fail
  refine HRU.out.mono ?_
  rintro e w13 ⟨rfl, o13, b13⟩
  have x13 := X12.out.rlist b13 o13
  simp only [List.nil_append, List.cons_append] at x13
  have X13 := hide x13
  obtain ⟨gp, hgp⟩ : ∃ g, w12.heap.size = g := ⟨_, rfl⟩
  rw [hgp] at X13 ⊢
  obtain ⟨J, HJ⟩ : ∃ J, Hid (J = mkL l ++ mkD d) := ⟨_, rfl⟩
  have HJl : Hid (J.length ≤ 316) := by show _ ≤ _; rw [HJ.out, List.length_append, ← HL.out, ← HD.out]; omega
  have HEX : Hid (∀ wx v, Below w.heap.size w wx → SR wx v R → Calls Tryd.prog 12 #[v] wx fun e w' => ∃ u, e = .returned (.tuple #[u, .int .i64 0]) ∧ OI w' wx.heap.size u J ∧ Below wx.heap.size wx w') := fun wx v q h => by
    have := expand_any v R wx h (HT.out.mono q) (by omega)
    rw [HR.out, HRF.out.1, HRF.out.2.1, ← HJ.out] at this
    exact this
  have HE1 := hide (HEX.out w13 _ x13.bel (by have h := (x13.rep 16 _ rfl).1.sr; rw [hgp] at h; exact h))
  clear o13 b13 x13 X12 hgp HRU z0 z1 z2 z3
  go_wp2_with fail
  refine HE1.out.mono ?_
  rintro e w14 ⟨vq, rfl, o14, b14⟩
  obtain ⟨aq, cq, hvq⟩ := o14.shape
  subst hvq
  have x14 := X13.out.il b14 o14
  simp only [List.nil_append, List.cons_append] at x14
  have X14 := hide x14
  have HE1 := hide (HEX.out w14 _ x14.bel (x14.rep 16 _ rfl).1.sr)
  clear o14 b14 x14 X13
  go_wp2_with fail
  refine HE1.out.mono ?_
  rintro e w15 ⟨vg, rfl, o15, b15⟩
  obtain ⟨ag, cg, hvg⟩ := o15.shape
  subst hvg
  have x15 := X14.out.il b15 o15
  simp only [List.nil_append, List.cons_append] at x15
  have X15 := hide x15
  have HI1 := hide (ints_any _ J w15 (x15.isi 18 rfl) (by have := HJl.out; omega))
  clear o15 b15 x15 X14 HE1 HEX
  go_wp2_with fail
  refine HI1.out.mono ?_
  rintro e w16 ⟨vk, rfl, rfl, o16, b16⟩
  have x16 := X15.out.il b16 o16
  simp only [List.nil_append, List.cons_append] at x16
  have X16 := hide x16
  obtain ⟨gk, hgk⟩ : ∃ g, w15.heap.size = g := ⟨_, rfl⟩
  rw [hgk] at X16 ⊢
  clear o16 b16 x16 X15 hgk HI1
  have x17 := (X16.out.weak 0 rfl (x' := ti (.slice (some ⟨ga, 0, none⟩) l.length (l.length + 9)) l) (fun h => ⟨h.1.1, h.2⟩)).weak 1 rfl (x' := ti (.slice (some ⟨gb, 0, none⟩) d.length (d.length + 9)) d) (fun h => ⟨h.1.1, h.2⟩)
  simp only [List.set_cons_zero, List.set_cons_succ] at x17
  obtain ⟨ys, hys, x18⟩ : ∃ ys, ys = _ ∧ Herd w _ ys := ⟨_, rfl, x17⟩
  have X17 := hide x18
  have HYS := hide hys
  have G0 : Hid (∃ K, ys[0]? = some (K, ti (.slice (some ⟨ga, 0, none⟩) l.length (l.length + 9)) l)) := ⟨_, by rw [hys]; rfl⟩
  have G1 : Hid (∃ K, ys[1]? = some (K, ti (.slice (some ⟨gb, 0, none⟩) d.length (d.length + 9)) d)) := ⟨_, by rw [hys]; rfl⟩
  have G2 : Hid (∃ K, ys[2]? = some (K, tw gw (mkB l d))) := ⟨_, by rw [hys]; rfl⟩
  have G3 : Hid (∃ K, ys[3]? = some (K, ti (.slice aL L.length cL) L)) := ⟨_, by rw [hys]; rfl⟩
  have G4 : Hid (∃ K, ys[4]? = some (K, ti (.slice aD D.length cD) D)) := ⟨_, by rw [hys]; rfl⟩
  have G5 : Hid (∃ K, ys[5]? = some (K, ti (.slice aC C.length cC) C)) := ⟨_, by rw [hys]; rfl⟩
  have G6 : Hid (∃ K, ys[6]? = some (K, trr (.slice aR R.length cR) R)) := ⟨_, by rw [hys]; rfl⟩
  have G7 : Hid (∃ K, ys[7]? = some (K, tb w5.heap.size (.cells #[.slice aL L.length cL, .slice aD D.length cD, .slice aC C.length cC, .slice aR R.length cR, .int .i64 Z] 29 (0, 0)))) := ⟨_, by rw [hys]; rfl⟩
  have G8 : Hid (∃ K, ys[8]? = some (K, ti (.slice bL L.length eL) L)) := ⟨_, by rw [hys]; rfl⟩
  have G9 : Hid (∃ K, ys[9]? = some (K, ti (.slice bD D.length eD) D)) := ⟨_, by rw [hys]; rfl⟩
  have G10 : Hid (∃ K, ys[10]? = some (K, ti (.slice bC C.length eC) C)) := ⟨_, by rw [hys]; rfl⟩
  have G11 : Hid (∃ K, ys[11]? = some (K, trr (.slice bR R.length eR) R)) := ⟨_, by rw [hys]; rfl⟩
  have G12 : Hid (∃ K, ys[12]? = some (K, tb w7.heap.size (.cells #[.slice bL L.length eL, .slice bD D.length eD, .slice bC C.length eC, .slice bR R.length eR, .int .i64 Z] 29 (0, 0)))) := ⟨_, by rw [hys]; rfl⟩
  have G13 : Hid (∃ K, ys[13]? = some (K, ti (.slice (some ⟨gl, 0, none⟩) L.length L.length) L)) := ⟨_, by rw [hys]; rfl⟩
  have G14 : Hid (∃ K, ys[14]? = some (K, ti (.slice (some ⟨gd, 0, none⟩) D.length D.length) D)) := ⟨_, by rw [hys]; rfl⟩
  have G15 : Hid (∃ K, ys[15]? = some (K, ti (.slice (some ⟨gc, 0, none⟩) C.length C.length) C)) := ⟨_, by rw [hys]; rfl⟩
  have G16 : Hid (∃ K, ys[16]? = some (K, trr (.slice (some ⟨gp, 0, none⟩) R.length R.length) R)) := ⟨_, by rw [hys]; rfl⟩
  have G17 : Hid (∃ K, ys[17]? = some (K, ti (.slice aq J.length cq) J)) := ⟨_, by rw [hys]; rfl⟩
  have G18 : Hid (∃ K, ys[18]? = some (K, ti (.slice ag J.length cg) J)) := ⟨_, by rw [hys]; rfl⟩
  have G19 : Hid (∃ K, ys[19]? = some (K, ti (.slice (some ⟨gk, 0, none⟩) J.length J.length) J)) := ⟨_, by rw [hys]; rfl⟩
  have HLN : Hid (ys.length = 20) := by show _ = _; rw [hys]; rfl
  clear x17 x18 X16 hys
  go_wp2
  obtain ⟨K0, g0⟩ := G0.out
  have HG0 := hide g0
  clear g0
  go_loopw [21] (fun i wr => ∃ k : Nat, i = .int .i64 (k : Int) ∧ k ≤ l.length ∧ Hid (Herd w wr (ys.set 0 (K0, ti (.slice (some ⟨ga, 0, none⟩) l.length (l.length + 9)) (List.replicate k (-1) ++ l.drop k))))) (fun i _ => l.length - (intOf i).toNat)
  case atStart => exact ⟨0, rfl, Nat.zero_le _, by show Herd _ _ _; rw [← ti_start, set_same HG0.out]; exact X17.out⟩
  case round =>
    clear X17
    obtain ⟨k, rfl, hk, HX⟩ := hrel
    by_cases hlt : k < l.length
    · have hlt' : (k : Int) < (l.length : Int) := by omega
      obtain ⟨g, hg, ⟨u, hc⟩, hf, hh⟩ := HX.out.mark 0 (set_get HG0.out) hlt
      simp only [Option.some.injEq, Addr.mk.injEq] at hg
      obtain ⟨rfl, -, -⟩ := hg
      rw [List.set_set] at hh
      have HN := hide hh
      clear hh
      go_wp2
      go_roundw
      case rel => exact ⟨k + 1, by go_num, by omega, HN⟩
      case measure => simp [intOf]; omega
    · obtain rfl : k = l.length := by omega
      have hlt0 : ¬ (l.length : Int) < (l.length : Int) := by omega
      obtain ⟨ys1, hs, xx⟩ : ∃ zs, zs = ys.set 0 (K0, ti (.slice (some ⟨ga, 0, none⟩) l.length (l.length + 9)) (List.replicate l.length (-1))) ∧ Herd w wr zs := ⟨_, rfl, by have h := HX.out; rw [ti_end] at h; exact h⟩
      have Y1 := hide xx
      have G0 := hide (ex_put hs HG0.out)
      have G1 := hide (ex_keep (i := 1) hs (by decide) G1.out)
      have G2 := hide (ex_keep (i := 2) hs (by decide) G2.out)
      have G3 := hide (ex_keep (i := 3) hs (by decide) G3.out)
      have G4 := hide (ex_keep (i := 4) hs (by decide) G4.out)
      have G5 := hide (ex_keep (i := 5) hs (by decide) G5.out)
      have G6 := hide (ex_keep (i := 6) hs (by decide) G6.out)
      have G7 := hide (ex_keep (i := 7) hs (by decide) G7.out)
      have G8 := hide (ex_keep (i := 8) hs (by decide) G8.out)
      have G9 := hide (ex_keep (i := 9) hs (by decide) G9.out)
      have G10 := hide (ex_keep (i := 10) hs (by decide) G10.out)
      have G11 := hide (ex_keep (i := 11) hs (by decide) G11.out)
      have G12 := hide (ex_keep (i := 12) hs (by decide) G12.out)
      have G13 := hide (ex_keep (i := 13) hs (by decide) G13.out)
      have G14 := hide (ex_keep (i := 14) hs (by decide) G14.out)
      have G15 := hide (ex_keep (i := 15) hs (by decide) G15.out)
      have G16 := hide (ex_keep (i := 16) hs (by decide) G16.out)
      have G17 := hide (ex_keep (i := 17) hs (by decide) G17.out)
      have G18 := hide (ex_keep (i := 18) hs (by decide) G18.out)
      have G19 := hide (ex_keep (i := 19) hs (by decide) G19.out)
      have HLN : Hid (ys1.length = 20) := by show _ = _; rw [hs, List.length_set]; exact HLN.out
      clear xx hs HX hk hlt HG0
      go_wp2
      clear hlt0
      obtain ⟨K1, g1⟩ := G1.out
      have HG1 := hide g1
      clear g1
      go_loopw [22] (fun i wr => ∃ k : Nat, i = .int .i64 (k : Int) ∧ k ≤ d.length ∧ Hid (Herd w wr (ys1.set 1 (K1, ti (.slice (some ⟨gb, 0, none⟩) d.length (d.length + 9)) (List.replicate k (-2) ++ d.drop k))))) (fun i _ => d.length - (intOf i).toNat)
      case atStart => exact ⟨0, rfl, Nat.zero_le _, by show Herd _ _ _; rw [← ti_start, set_same HG1.out]; exact Y1.out⟩
      case round =>
        clear Y1
        obtain ⟨k, rfl, hk, HX⟩ := hrel
        by_cases hlt : k < d.length
        · have hlt' : (k : Int) < (d.length : Int) := by omega
          obtain ⟨g, hg, ⟨u, hc⟩, hf, hh⟩ := HX.out.mark 1 (set_get HG1.out) hlt
          simp only [Option.some.injEq, Addr.mk.injEq] at hg
          obtain ⟨rfl, -, -⟩ := hg
          rw [List.set_set] at hh
          have HN := hide hh
          clear hh
          go_wp2
          go_roundw
          case rel => exact ⟨k + 1, by go_num, by omega, HN⟩
          case measure => simp [intOf]; omega
        · obtain rfl : k = d.length := by omega
          have hlt1 : ¬ (d.length : Int) < (d.length : Int) := by omega
          obtain ⟨ys2, hs, xx⟩ : ∃ zs, zs = ys1.set 1 (K1, ti (.slice (some ⟨gb, 0, none⟩) d.length (d.length + 9)) (List.replicate d.length (-2))) ∧ Herd w wr zs := ⟨_, rfl, by have h := HX.out; rw [ti_end] at h; exact h⟩
          have Y2 := hide xx
          have G0 := hide (ex_keep (i := 0) hs (by decide) G0.out)
          have G1 := hide (ex_put hs HG1.out)
          have G2 := hide (ex_keep (i := 2) hs (by decide) G2.out)
          have G3 := hide (ex_keep (i := 3) hs (by decide) G3.out)
          have G4 := hide (ex_keep (i := 4) hs (by decide) G4.out)
          have G5 := hide (ex_keep (i := 5) hs (by decide) G5.out)
          have G6 := hide (ex_keep (i := 6) hs (by decide) G6.out)
          have G7 := hide (ex_keep (i := 7) hs (by decide) G7.out)
          have G8 := hide (ex_keep (i := 8) hs (by decide) G8.out)
          have G9 := hide (ex_keep (i := 9) hs (by decide) G9.out)
          have G10 := hide (ex_keep (i := 10) hs (by decide) G10.out)
          have G11 := hide (ex_keep (i := 11) hs (by decide) G11.out)
          have G12 := hide (ex_keep (i := 12) hs (by decide) G12.out)
          have G13 := hide (ex_keep (i := 13) hs (by decide) G13.out)
          have G14 := hide (ex_keep (i := 14) hs (by decide) G14.out)
          have G15 := hide (ex_keep (i := 15) hs (by decide) G15.out)
          have G16 := hide (ex_keep (i := 16) hs (by decide) G16.out)
          have G17 := hide (ex_keep (i := 17) hs (by decide) G17.out)
          have G18 := hide (ex_keep (i := 18) hs (by decide) G18.out)
          have G19 := hide (ex_keep (i := 19) hs (by decide) G19.out)
          have HLN : Hid (ys2.length = 20) := by show _ = _; rw [hs, List.length_set]; exact HLN.out
          clear xx hs HX hk hlt HG1
          go_wp2
          clear hlt1
          obtain ⟨K3, g3⟩ := G3.out
          have HG3 := hide g3
          clear g3
          go_loopw [23] (fun i wr => ∃ k : Nat, i = .int .i64 (k : Int) ∧ k ≤ L.length ∧ Hid (Herd w wr (ys2.set 3 (K3, ti (.slice aL L.length cL) (List.replicate k (-3) ++ L.drop k))))) (fun i _ => L.length - (intOf i).toNat)
          case atStart => exact ⟨0, rfl, Nat.zero_le _, by show Herd _ _ _; rw [← ti_start, set_same HG3.out]; exact Y2.out⟩
          case round =>
            clear Y2
            obtain ⟨k, rfl, hk, HX⟩ := hrel
            obtain ⟨KB, gB⟩ := G7.out
            obtain ⟨t0, t1, t2, t3, -⟩ := HX.out.hx 7 (by rw [List.getElem?_set_ne (by decide)]; exact gB)
            by_cases hlt : k < L.length
            · have hlt' : (k : Int) < (L.length : Int) := by omega
              obtain ⟨g, hg, ⟨u, hc⟩, hf, hh⟩ := HX.out.mark 3 (set_get HG3.out) hlt
              obtain rfl := hg
              rw [List.set_set] at hh
              have HN := hide hh
              clear hh
              go_wp2
              go_roundw
              case rel => exact ⟨k + 1, by go_num, by omega, HN⟩
              case measure => simp [intOf]; omega
            · obtain rfl : k = L.length := by omega
              have hlt2 : ¬ (L.length : Int) < (L.length : Int) := by omega
              obtain ⟨ys3, hs, xx⟩ : ∃ zs, zs = ys2.set 3 (K3, ti (.slice aL L.length cL) (List.replicate L.length (-3))) ∧ Herd w wr zs := ⟨_, rfl, by have h := HX.out; rw [ti_end] at h; exact h⟩
              have Y3 := hide xx
              have G0 := hide (ex_keep (i := 0) hs (by decide) G0.out)
              have G1 := hide (ex_keep (i := 1) hs (by decide) G1.out)
              have G2 := hide (ex_keep (i := 2) hs (by decide) G2.out)
              have G3 := hide (ex_put hs HG3.out)
              have G4 := hide (ex_keep (i := 4) hs (by decide) G4.out)
              have G5 := hide (ex_keep (i := 5) hs (by decide) G5.out)
              have G6 := hide (ex_keep (i := 6) hs (by decide) G6.out)
              have G7 := hide (ex_keep (i := 7) hs (by decide) G7.out)
              have G8 := hide (ex_keep (i := 8) hs (by decide) G8.out)
              have G9 := hide (ex_keep (i := 9) hs (by decide) G9.out)
              have G10 := hide (ex_keep (i := 10) hs (by decide) G10.out)
              have G11 := hide (ex_keep (i := 11) hs (by decide) G11.out)
              have G12 := hide (ex_keep (i := 12) hs (by decide) G12.out)
              have G13 := hide (ex_keep (i := 13) hs (by decide) G13.out)
              have G14 := hide (ex_keep (i := 14) hs (by decide) G14.out)
              have G15 := hide (ex_keep (i := 15) hs (by decide) G15.out)
              have G16 := hide (ex_keep (i := 16) hs (by decide) G16.out)
              have G17 := hide (ex_keep (i := 17) hs (by decide) G17.out)
              have G18 := hide (ex_keep (i := 18) hs (by decide) G18.out)
              have G19 := hide (ex_keep (i := 19) hs (by decide) G19.out)
              have HLN : Hid (ys3.length = 20) := by show _ = _; rw [hs, List.length_set]; exact HLN.out
              clear xx hs HX hk hlt HG3 gB
              go_wp2
              clear t0 t1 t2 t3
              clear hlt2
              obtain ⟨K4, g4⟩ := G4.out
              have HG4 := hide g4
              clear g4
              go_loopw [24] (fun i wr => ∃ k : Nat, i = .int .i64 (k : Int) ∧ k ≤ D.length ∧ Hid (Herd w wr (ys3.set 4 (K4, ti (.slice aD D.length cD) (List.replicate k (-4) ++ D.drop k))))) (fun i _ => D.length - (intOf i).toNat)
              case atStart => exact ⟨0, rfl, Nat.zero_le _, by show Herd _ _ _; rw [← ti_start, set_same HG4.out]; exact Y3.out⟩
              case round =>
                clear Y3
                obtain ⟨k, rfl, hk, HX⟩ := hrel
                obtain ⟨KB, gB⟩ := G7.out
                obtain ⟨t0, t1, t2, t3, -⟩ := HX.out.hx 7 (by rw [List.getElem?_set_ne (by decide)]; exact gB)
                by_cases hlt : k < D.length
                · have hlt' : (k : Int) < (D.length : Int) := by omega
                  obtain ⟨g, hg, ⟨u, hc⟩, hf, hh⟩ := HX.out.mark 4 (set_get HG4.out) hlt
                  obtain rfl := hg
                  rw [List.set_set] at hh
                  have HN := hide hh
                  clear hh
                  go_wp2
                  go_roundw
                  case rel => exact ⟨k + 1, by go_num, by omega, HN⟩
                  case measure => simp [intOf]; omega
                · obtain rfl : k = D.length := by omega
                  have hlt3 : ¬ (D.length : Int) < (D.length : Int) := by omega
                  obtain ⟨ys4, hs, xx⟩ : ∃ zs, zs = ys3.set 4 (K4, ti (.slice aD D.length cD) (List.replicate D.length (-4))) ∧ Herd w wr zs := ⟨_, rfl, by have h := HX.out; rw [ti_end] at h; exact h⟩
                  have Y4 := hide xx
                  have G0 := hide (ex_keep (i := 0) hs (by decide) G0.out)
                  have G1 := hide (ex_keep (i := 1) hs (by decide) G1.out)
                  have G2 := hide (ex_keep (i := 2) hs (by decide) G2.out)
                  have G3 := hide (ex_keep (i := 3) hs (by decide) G3.out)
                  have G4 := hide (ex_put hs HG4.out)
                  have G5 := hide (ex_keep (i := 5) hs (by decide) G5.out)
                  have G6 := hide (ex_keep (i := 6) hs (by decide) G6.out)
                  have G7 := hide (ex_keep (i := 7) hs (by decide) G7.out)
                  have G8 := hide (ex_keep (i := 8) hs (by decide) G8.out)
                  have G9 := hide (ex_keep (i := 9) hs (by decide) G9.out)
                  have G10 := hide (ex_keep (i := 10) hs (by decide) G10.out)
                  have G11 := hide (ex_keep (i := 11) hs (by decide) G11.out)
                  have G12 := hide (ex_keep (i := 12) hs (by decide) G12.out)
                  have G13 := hide (ex_keep (i := 13) hs (by decide) G13.out)
                  have G14 := hide (ex_keep (i := 14) hs (by decide) G14.out)
                  have G15 := hide (ex_keep (i := 15) hs (by decide) G15.out)
                  have G16 := hide (ex_keep (i := 16) hs (by decide) G16.out)
                  have G17 := hide (ex_keep (i := 17) hs (by decide) G17.out)
                  have G18 := hide (ex_keep (i := 18) hs (by decide) G18.out)
                  have G19 := hide (ex_keep (i := 19) hs (by decide) G19.out)
                  have HLN : Hid (ys4.length = 20) := by show _ = _; rw [hs, List.length_set]; exact HLN.out
                  clear xx hs HX hk hlt HG4 gB
                  go_wp2
                  clear t0 t1 t2 t3
                  clear hlt3
                  obtain ⟨K5, g5⟩ := G5.out
                  have HG5 := hide g5
                  clear g5
                  go_loopw [25] (fun i wr => ∃ k : Nat, i = .int .i64 (k : Int) ∧ k ≤ C.length ∧ Hid (Herd w wr (ys4.set 5 (K5, ti (.slice aC C.length cC) (List.replicate k (-5) ++ C.drop k))))) (fun i _ => C.length - (intOf i).toNat)
                  case atStart => exact ⟨0, rfl, Nat.zero_le _, by show Herd _ _ _; rw [← ti_start, set_same HG5.out]; exact Y4.out⟩
                  case round =>
                    clear Y4
                    obtain ⟨k, rfl, hk, HX⟩ := hrel
                    obtain ⟨KB, gB⟩ := G7.out
                    obtain ⟨t0, t1, t2, t3, -⟩ := HX.out.hx 7 (by rw [List.getElem?_set_ne (by decide)]; exact gB)
                    by_cases hlt : k < C.length
                    · have hlt' : (k : Int) < (C.length : Int) := by omega
                      obtain ⟨g, hg, ⟨u, hc⟩, hf, hh⟩ := HX.out.mark 5 (set_get HG5.out) hlt
                      obtain rfl := hg
                      rw [List.set_set] at hh
                      have HN := hide hh
                      clear hh
                      go_wp2
                      go_roundw
                      case rel => exact ⟨k + 1, by go_num, by omega, HN⟩
                      case measure => simp [intOf]; omega
                    · obtain rfl : k = C.length := by omega
                      have hlt4 : ¬ (C.length : Int) < (C.length : Int) := by omega
                      obtain ⟨ys5, hs, xx⟩ : ∃ zs, zs = ys4.set 5 (K5, ti (.slice aC C.length cC) (List.replicate C.length (-5))) ∧ Herd w wr zs := ⟨_, rfl, by have h := HX.out; rw [ti_end] at h; exact h⟩
                      have Y5 := hide xx
                      have G0 := hide (ex_keep (i := 0) hs (by decide) G0.out)
                      have G1 := hide (ex_keep (i := 1) hs (by decide) G1.out)
                      have G2 := hide (ex_keep (i := 2) hs (by decide) G2.out)
                      have G3 := hide (ex_keep (i := 3) hs (by decide) G3.out)
                      have G4 := hide (ex_keep (i := 4) hs (by decide) G4.out)
                      have G5 := hide (ex_put hs HG5.out)
                      have G6 := hide (ex_keep (i := 6) hs (by decide) G6.out)
                      have G7 := hide (ex_keep (i := 7) hs (by decide) G7.out)
                      have G8 := hide (ex_keep (i := 8) hs (by decide) G8.out)
                      have G9 := hide (ex_keep (i := 9) hs (by decide) G9.out)
                      have G10 := hide (ex_keep (i := 10) hs (by decide) G10.out)
                      have G11 := hide (ex_keep (i := 11) hs (by decide) G11.out)
                      have G12 := hide (ex_keep (i := 12) hs (by decide) G12.out)
                      have G13 := hide (ex_keep (i := 13) hs (by decide) G13.out)
                      have G14 := hide (ex_keep (i := 14) hs (by decide) G14.out)
                      have G15 := hide (ex_keep (i := 15) hs (by decide) G15.out)
                      have G16 := hide (ex_keep (i := 16) hs (by decide) G16.out)
                      have G17 := hide (ex_keep (i := 17) hs (by decide) G17.out)
                      have G18 := hide (ex_keep (i := 18) hs (by decide) G18.out)
                      have G19 := hide (ex_keep (i := 19) hs (by decide) G19.out)
                      have HLN : Hid (ys5.length = 20) := by show _ = _; rw [hs, List.length_set]; exact HLN.out
                      clear xx hs HX hk hlt HG5 gB
                      go_wp2
                      clear t0 t1 t2 t3
                      clear hlt4
                      obtain ⟨K6, g6⟩ := G6.out
                      have HG6 := hide g6
                      clear g6
                      go_loopw [26] (fun i wr => ∃ k : Nat, i = .int .i64 (k : Int) ∧ k ≤ R.length ∧ Hid (Herd w wr (ys5.set 6 (K6, trr (.slice aR R.length cR) (List.replicate k (-6, -6) ++ R.drop k))))) (fun i _ => R.length - (intOf i).toNat)
                      case atStart => exact ⟨0, rfl, Nat.zero_le _, by show Herd _ _ _; rw [List.replicate_zero, List.nil_append, List.drop_zero, set_same HG6.out]; exact Y5.out⟩
                      case round =>
                        clear Y5
                        obtain ⟨k, rfl, hk, HX⟩ := hrel
                        obtain ⟨KB, gB⟩ := G7.out
                        obtain ⟨t0, t1, t2, t3, -⟩ := HX.out.hx 7 (by rw [List.getElem?_set_ne (by decide)]; exact gB)
                        by_cases hlt : k < R.length
                        · have hlt' : (k : Int) < (R.length : Int) := by omega
                          obtain ⟨g, hg, ⟨u, hc⟩, ⟨u2, hc2⟩, hf, hh⟩ := HX.out.rmark 6 (set_get HG6.out) (k := k) (by simp; omega) (-6, -6)
                          have hf1 := hf (k * 2)
                          have hf2 := hf (k * 2 + 1)
                          rw [set_midr _ R k hlt] at hh
                          obtain rfl := hg
                          rw [List.set_set] at hh
                          have HN := hide hh
                          clear hh hf
                          go_wp2
                          go_roundw
                          case rel => exact ⟨k + 1, by go_num, by omega, HN⟩
                          case measure => simp [intOf]; omega
                        · obtain rfl : k = R.length := by omega
                          have hlt5 : ¬ (R.length : Int) < (R.length : Int) := by omega
                          obtain ⟨ys6, hs, xx⟩ : ∃ zs, zs = ys5.set 6 (K6, trr (.slice aR R.length cR) (List.replicate R.length (-6, -6))) ∧ Herd w wr zs := ⟨_, rfl, by have h := HX.out; rw [show List.replicate R.length ((-6, -6) : Rn) ++ R.drop R.length = List.replicate R.length (-6, -6) by simp] at h; exact h⟩
                          have Y6 := hide xx
                          have G0 := hide (ex_keep (i := 0) hs (by decide) G0.out)
                          have G1 := hide (ex_keep (i := 1) hs (by decide) G1.out)
                          have G2 := hide (ex_keep (i := 2) hs (by decide) G2.out)
                          have G3 := hide (ex_keep (i := 3) hs (by decide) G3.out)
                          have G4 := hide (ex_keep (i := 4) hs (by decide) G4.out)
                          have G5 := hide (ex_keep (i := 5) hs (by decide) G5.out)
                          have G6 := hide (ex_put hs HG6.out)
                          have G7 := hide (ex_keep (i := 7) hs (by decide) G7.out)
                          have G8 := hide (ex_keep (i := 8) hs (by decide) G8.out)
                          have G9 := hide (ex_keep (i := 9) hs (by decide) G9.out)
                          have G10 := hide (ex_keep (i := 10) hs (by decide) G10.out)
                          have G11 := hide (ex_keep (i := 11) hs (by decide) G11.out)
                          have G12 := hide (ex_keep (i := 12) hs (by decide) G12.out)
                          have G13 := hide (ex_keep (i := 13) hs (by decide) G13.out)
                          have G14 := hide (ex_keep (i := 14) hs (by decide) G14.out)
                          have G15 := hide (ex_keep (i := 15) hs (by decide) G15.out)
                          have G16 := hide (ex_keep (i := 16) hs (by decide) G16.out)
                          have G17 := hide (ex_keep (i := 17) hs (by decide) G17.out)
                          have G18 := hide (ex_keep (i := 18) hs (by decide) G18.out)
                          have G19 := hide (ex_keep (i := 19) hs (by decide) G19.out)
                          have HLN : Hid (ys6.length = 20) := by show _ = _; rw [hs, List.length_set]; exact HLN.out
                          clear xx hs HX hk hlt HG6 gB
                          go_wp2
                          clear t0 t1 t2 t3
                          clear hlt5
                          have hJ1 := HJl.out
                          obtain ⟨K17, g17⟩ := G17.out
                          have HG17 := hide g17
                          clear g17
                          go_loopw [27] (fun i wr => ∃ k : Nat, i = .int .i64 (k : Int) ∧ k ≤ J.length ∧ Hid (Herd w wr (ys6.set 17 (K17, ti (.slice aq J.length cq) (List.replicate k (-7) ++ J.drop k))))) (fun i _ => J.length - (intOf i).toNat)
                          case atStart => exact ⟨0, rfl, Nat.zero_le _, by show Herd _ _ _; rw [← ti_start, set_same HG17.out]; exact Y6.out⟩
                          case round =>
                            clear Y6
                            obtain ⟨k, rfl, hk, HX⟩ := hrel
                            by_cases hlt : k < J.length
                            · have hlt' : (k : Int) < (J.length : Int) := by omega
                              obtain ⟨g, hg, ⟨u, hc⟩, hf, hh⟩ := HX.out.mark 17 (set_get HG17.out) hlt
                              obtain rfl := hg
                              rw [List.set_set] at hh
                              have HN := hide hh
                              clear hh
                              go_wp2
                              go_roundw
                              case rel => exact ⟨k + 1, by go_num, by omega, HN⟩
                              case measure => simp [intOf]; omega
                            · obtain rfl : k = J.length := by omega
                              have hlt6 : ¬ (J.length : Int) < (J.length : Int) := by omega
                              obtain ⟨ys7, hs, xx⟩ : ∃ zs, zs = ys6.set 17 (K17, ti (.slice aq J.length cq) (List.replicate J.length (-7))) ∧ Herd w wr zs := ⟨_, rfl, by have h := HX.out; rw [ti_end] at h; exact h⟩
                              have Y7 := hide xx
                              have G0 := hide (ex_keep (i := 0) hs (by decide) G0.out)
                              have G1 := hide (ex_keep (i := 1) hs (by decide) G1.out)
                              have G2 := hide (ex_keep (i := 2) hs (by decide) G2.out)
                              have G3 := hide (ex_keep (i := 3) hs (by decide) G3.out)
                              have G4 := hide (ex_keep (i := 4) hs (by decide) G4.out)
                              have G5 := hide (ex_keep (i := 5) hs (by decide) G5.out)
                              have G6 := hide (ex_keep (i := 6) hs (by decide) G6.out)
                              have G7 := hide (ex_keep (i := 7) hs (by decide) G7.out)
                              have G8 := hide (ex_keep (i := 8) hs (by decide) G8.out)
                              have G9 := hide (ex_keep (i := 9) hs (by decide) G9.out)
                              have G10 := hide (ex_keep (i := 10) hs (by decide) G10.out)
                              have G11 := hide (ex_keep (i := 11) hs (by decide) G11.out)
                              have G12 := hide (ex_keep (i := 12) hs (by decide) G12.out)
                              have G13 := hide (ex_keep (i := 13) hs (by decide) G13.out)
                              have G14 := hide (ex_keep (i := 14) hs (by decide) G14.out)
                              have G15 := hide (ex_keep (i := 15) hs (by decide) G15.out)
                              have G16 := hide (ex_keep (i := 16) hs (by decide) G16.out)
                              have G17 := hide (ex_put hs HG17.out)
                              have G18 := hide (ex_keep (i := 18) hs (by decide) G18.out)
                              have G19 := hide (ex_keep (i := 19) hs (by decide) G19.out)
                              have HLN : Hid (ys7.length = 20) := by show _ = _; rw [hs, List.length_set]; exact HLN.out
                              clear xx hs HX hk hlt HG17
                              obtain ⟨K12, g12⟩ := G12.out
                              have HG12 := hide g12
                              obtain ⟨K2, g2⟩ := G2.out
                              have HG2 := hide g2
                              obtain ⟨K7, g7⟩ := G7.out
                              have HG7 := hide g7
                              obtain ⟨z0, z1, z2, z3, -⟩ := Y7.out.hx 12 g12
                              have HQ := hide (heq7 Y7.out G8.out G13.out)
                              clear g12 g2 g7
                              go_wp2_with fail
                              refine HQ.out.mono ?_
                              rintro e wA ⟨rfl, xA⟩
                              have XA := hide xA
                              obtain ⟨z0, z1, z2, z3, -⟩ := xA.hx 12 HG12.out
                              have HQ := hide (heq7 xA G9.out G14.out)
                              clear xA Y7
                              go_wp2_with fail
                              refine HQ.out.mono ?_
                              rintro e wB ⟨rfl, xB⟩
                              have XB := hide xB
                              obtain ⟨z0, z1, z2, z3, -⟩ := xB.hx 12 HG12.out
                              have HQ := hide (heq7 xB G10.out G15.out)
                              clear xB XA
                              go_wp2_with fail
                              refine HQ.out.mono ?_
                              rintro e wC ⟨rfl, xC⟩
                              have XC := hide xC
                              obtain ⟨z0, z1, z2, z3, -⟩ := xC.hx 12 HG12.out
                              have HQ := hide (halike7 xC G11.out G16.out)
                              clear xC XB
                              go_wp2_with fail
                              refine HQ.out.mono ?_
                              rintro e wD ⟨rfl, xD⟩
                              have XD := hide xD
                              have HQ := hide (heq7 xD G18.out G19.out)
                              clear xD XC z0 z1 z2 z3
                              go_wp2_with fail
                              refine HQ.out.mono ?_
                              rintro e wE ⟨rfl, xE⟩
                              have XE := hide xE
                              have HBT : Hid (Bit (mkB l d)) := (xE.bit 2 HG2.out).1
                              have HRD := hide (rd0 HM0.out HBT.out)
                              rw [← HL.out, ← HD.out] at HRD
                              obtain ⟨Pk, HPk⟩ : ∃ P, Hid (P = pack (mkB l d)) := ⟨_, rfl⟩
                              have HPB : Hid (Byt Pk) := by show Byt _; rw [HPk.out]; exact (unpack_pack HBT.out).2
                              have HPl : Hid (Pk.length ≤ 33554432) := by show _ ≤ _; rw [HPk.out, length_pack HBT.out]; have := (mkB_len HM0.out).2; omega
                              rw [← HPk.out] at HRD
                              have HBY := hide (hbytes xE 2 HG2.out)
                              rw [← HPk.out] at HBY
                              clear xE XD HQ
                              go_wp2_with fail
                              refine HBY.out.mono ?_
                              rintro e wF ⟨af, cf, KF, rfl, xF⟩
                              obtain ⟨za, ha, xF'⟩ : ∃ zs, zs = _ ∧ Herd w _ zs := ⟨_, rfl, xF⟩
                              have XF := hide xF'
                              have GA : Hid (∃ K, za[20]? = some (K, tl (.slice af Pk.length cf) Pk)) := by obtain ⟨K, h⟩ := ex_last (K := KF) (t := tl (.slice af Pk.length cf) Pk) HLN.out; exact ⟨K, by rw [ha]; exact h⟩
                              have hla : za.length = 21 := by rw [ha, List.length_append, HLN.out]; rfl
                              have HLA := hide hla
                              have G0 := hide (show ∃ K, za[0]? = some (K, _) by rw [ha]; exact ex_app G0.out)
                              have G1 := hide (show ∃ K, za[1]? = some (K, _) by rw [ha]; exact ex_app G1.out)
                              have G2 := hide (show ∃ K, za[2]? = some (K, _) by rw [ha]; exact ex_app G2.out)
                              have G3 := hide (show ∃ K, za[3]? = some (K, _) by rw [ha]; exact ex_app G3.out)
                              have G4 := hide (show ∃ K, za[4]? = some (K, _) by rw [ha]; exact ex_app G4.out)
                              have G5 := hide (show ∃ K, za[5]? = some (K, _) by rw [ha]; exact ex_app G5.out)
                              have G7 := hide (show ∃ K, za[7]? = some (K, _) by rw [ha]; exact ex_app G7.out)
                              have G8 := hide (show ∃ K, za[8]? = some (K, _) by rw [ha]; exact ex_app G8.out)
                              have G9 := hide (show ∃ K, za[9]? = some (K, _) by rw [ha]; exact ex_app G9.out)
                              have G10 := hide (show ∃ K, za[10]? = some (K, _) by rw [ha]; exact ex_app G10.out)
                              have G12 := hide (show ∃ K, za[12]? = some (K, _) by rw [ha]; exact ex_app G12.out)
                              have G13 := hide (show ∃ K, za[13]? = some (K, _) by rw [ha]; exact ex_app G13.out)
                              have G14 := hide (show ∃ K, za[14]? = some (K, _) by rw [ha]; exact ex_app G14.out)
                              have G17 := hide (show ∃ K, za[17]? = some (K, _) by rw [ha]; exact ex_app G17.out)
                              have G18 := hide (show ∃ K, za[18]? = some (K, _) by rw [ha]; exact ex_app G18.out)
                              obtain ⟨KA, gA⟩ := GA.out
                              have HNR := hide (hnewR xF' _ Pk (xF'.rep 20 _ gA).1.sb HPB.out HPl.out)
                              clear xF xF' ha hla gA HBY XE
                              go_wp2_with fail
                              refine HNR.out.mono ?_
                              rintro e wG ⟨gr, KG, rfl, xG⟩
                              obtain ⟨zb, ha, xG'⟩ : ∃ zs, zs = _ ∧ Herd w _ zs := ⟨_, rfl, xG⟩
                              have XG := hide xG'
                              have HLB : Hid (zb.length = 22) := by show _ = _; rw [ha, List.length_append, HLA.out]; rfl
                              have G21 : Hid (∃ K, zb[21]? = some (K, tr gr (unpack Pk) 0)) := by show ∃ K, _; rw [ha]; exact ex_last HLA.out
                              have G0 := hide (show ∃ K, zb[0]? = some (K, _) by rw [ha]; exact ex_app G0.out)
                              have G1 := hide (show ∃ K, zb[1]? = some (K, _) by rw [ha]; exact ex_app G1.out)
                              have G2 := hide (show ∃ K, zb[2]? = some (K, _) by rw [ha]; exact ex_app G2.out)
                              have G3 := hide (show ∃ K, zb[3]? = some (K, _) by rw [ha]; exact ex_app G3.out)
                              have G4 := hide (show ∃ K, zb[4]? = some (K, _) by rw [ha]; exact ex_app G4.out)
                              have G5 := hide (show ∃ K, zb[5]? = some (K, _) by rw [ha]; exact ex_app G5.out)
                              have G7 := hide (show ∃ K, zb[7]? = some (K, _) by rw [ha]; exact ex_app G7.out)
                              have G8 := hide (show ∃ K, zb[8]? = some (K, _) by rw [ha]; exact ex_app G8.out)
                              have G9 := hide (show ∃ K, zb[9]? = some (K, _) by rw [ha]; exact ex_app G9.out)
                              have G10 := hide (show ∃ K, zb[10]? = some (K, _) by rw [ha]; exact ex_app G10.out)
                              have G12 := hide (show ∃ K, zb[12]? = some (K, _) by rw [ha]; exact ex_app G12.out)
                              have G13 := hide (show ∃ K, zb[13]? = some (K, _) by rw [ha]; exact ex_app G13.out)
                              have G14 := hide (show ∃ K, zb[14]? = some (K, _) by rw [ha]; exact ex_app G14.out)
                              have G17 := hide (show ∃ K, zb[17]? = some (K, _) by rw [ha]; exact ex_app G17.out)
                              have G18 := hide (show ∃ K, zb[18]? = some (K, _) by rw [ha]; exact ex_app G18.out)
                              obtain ⟨K2, g2⟩ := G2.out
                              have HBY := hide (hbytes xG' 2 g2)
                              rw [← HPk.out] at HBY
                              clear xG xG' ha HNR XF g2
                              go_wp2_with fail
                              refine HBY.out.mono ?_
                              rintro e wH ⟨ah, ch, KH, rfl, xH⟩
                              obtain ⟨zc, ha, xH'⟩ : ∃ zs, zs = _ ∧ Herd w _ zs := ⟨_, rfl, xH⟩
                              have XH := hide xH'
                              have HLC : Hid (zc.length = 23) := by show _ = _; rw [ha, List.length_append, HLB.out]; rfl
                              have GH : Hid (∃ K, zc[22]? = some (K, tl (.slice ah Pk.length ch) Pk)) := by show ∃ K, _; rw [ha]; exact ex_last HLB.out
                              have G0 := hide (show ∃ K, zc[0]? = some (K, _) by rw [ha]; exact ex_app G0.out)
                              have G1 := hide (show ∃ K, zc[1]? = some (K, _) by rw [ha]; exact ex_app G1.out)
                              have G2 := hide (show ∃ K, zc[2]? = some (K, _) by rw [ha]; exact ex_app G2.out)
                              have G3 := hide (show ∃ K, zc[3]? = some (K, _) by rw [ha]; exact ex_app G3.out)
                              have G4 := hide (show ∃ K, zc[4]? = some (K, _) by rw [ha]; exact ex_app G4.out)
                              have G5 := hide (show ∃ K, zc[5]? = some (K, _) by rw [ha]; exact ex_app G5.out)
                              have G7 := hide (show ∃ K, zc[7]? = some (K, _) by rw [ha]; exact ex_app G7.out)
                              have G8 := hide (show ∃ K, zc[8]? = some (K, _) by rw [ha]; exact ex_app G8.out)
                              have G9 := hide (show ∃ K, zc[9]? = some (K, _) by rw [ha]; exact ex_app G9.out)
                              have G10 := hide (show ∃ K, zc[10]? = some (K, _) by rw [ha]; exact ex_app G10.out)
                              have G12 := hide (show ∃ K, zc[12]? = some (K, _) by rw [ha]; exact ex_app G12.out)
                              have G13 := hide (show ∃ K, zc[13]? = some (K, _) by rw [ha]; exact ex_app G13.out)
                              have G14 := hide (show ∃ K, zc[14]? = some (K, _) by rw [ha]; exact ex_app G14.out)
                              have G17 := hide (show ∃ K, zc[17]? = some (K, _) by rw [ha]; exact ex_app G17.out)
                              have G18 := hide (show ∃ K, zc[18]? = some (K, _) by rw [ha]; exact ex_app G18.out)
                              have G21 := hide (show ∃ K, zc[21]? = some (K, _) by rw [ha]; exact ex_app G21.out)
                              obtain ⟨KA, gA⟩ := GH.out
                              have HNR := hide (hnewR xH' _ Pk (xH'.rep 22 _ gA).1.sb HPB.out HPl.out)
                              clear xH xH' ha gA HBY XG
                              go_wp2_with fail
                              refine HNR.out.mono ?_
                              rintro e wI ⟨gs, KI, rfl, xI⟩
                              obtain ⟨zd, ha, xI'⟩ : ∃ zs, zs = _ ∧ Herd w _ zs := ⟨_, rfl, xI⟩
                              have XI := hide xI'
                              have HLD : Hid (zd.length = 24) := by show _ = _; rw [ha, List.length_append, HLC.out]; rfl
                              have G23 : Hid (∃ K, zd[23]? = some (K, tr gs (unpack Pk) 0)) := by show ∃ K, _; rw [ha]; exact ex_last HLC.out
                              have G0 := hide (show ∃ K, zd[0]? = some (K, _) by rw [ha]; exact ex_app G0.out)
                              have G1 := hide (show ∃ K, zd[1]? = some (K, _) by rw [ha]; exact ex_app G1.out)
                              have G2 := hide (show ∃ K, zd[2]? = some (K, _) by rw [ha]; exact ex_app G2.out)
                              have G3 := hide (show ∃ K, zd[3]? = some (K, _) by rw [ha]; exact ex_app G3.out)
                              have G4 := hide (show ∃ K, zd[4]? = some (K, _) by rw [ha]; exact ex_app G4.out)
                              have G5 := hide (show ∃ K, zd[5]? = some (K, _) by rw [ha]; exact ex_app G5.out)
                              have G7 := hide (show ∃ K, zd[7]? = some (K, _) by rw [ha]; exact ex_app G7.out)
                              have G8 := hide (show ∃ K, zd[8]? = some (K, _) by rw [ha]; exact ex_app G8.out)
                              have G9 := hide (show ∃ K, zd[9]? = some (K, _) by rw [ha]; exact ex_app G9.out)
                              have G10 := hide (show ∃ K, zd[10]? = some (K, _) by rw [ha]; exact ex_app G10.out)
                              have G12 := hide (show ∃ K, zd[12]? = some (K, _) by rw [ha]; exact ex_app G12.out)
                              have G13 := hide (show ∃ K, zd[13]? = some (K, _) by rw [ha]; exact ex_app G13.out)
                              have G14 := hide (show ∃ K, zd[14]? = some (K, _) by rw [ha]; exact ex_app G14.out)
                              have G17 := hide (show ∃ K, zd[17]? = some (K, _) by rw [ha]; exact ex_app G17.out)
                              have G18 := hide (show ∃ K, zd[18]? = some (K, _) by rw [ha]; exact ex_app G18.out)
                              have G21 := hide (show ∃ K, zd[21]? = some (K, _) by rw [ha]; exact ex_app G21.out)
                              obtain ⟨K21, g21⟩ := G21.out
                              have HRE := hide (hread xI' 21 g21 HT.out HO.out)
                              rw [HRD.out] at HRE
                              simp only [] at HRE
                              clear xI xI' ha g21 HNR XH
                              go_wp2_with fail
                              refine HRE.out.mono ?_
                              rintro e wJ ⟨aj, cj, aj2, cj2, qj, KJ, KJ2, rfl, -, xJ⟩
                              obtain ⟨ze, ha, xJ'⟩ : ∃ zs, zs = _ ∧ Herd w _ zs := ⟨_, rfl, xJ⟩
                              have XJ := hide xJ'
                              have hl24 : (zd.set 21 (K21, tr gr (unpack Pk) qj)).length = 24 := by rw [List.length_set, HLD.out]
                              have hl25 : (zd.set 21 (K21, tr gr (unpack Pk) qj) ++ [(KJ, ti (.slice aj L.length cj) L)]).length = 25 := by rw [List.length_append, hl24]; rfl
                              have HLE : Hid (ze.length = 26) := by show _ = _; rw [ha, List.length_append, hl25]; rfl
                              have G24 : Hid (∃ K, ze[24]? = some (K, ti (.slice aj L.length cj) L)) := by show ∃ K, _; rw [ha]; exact ex_app (ex_last hl24)
                              have G25 : Hid (∃ K, ze[25]? = some (K, ti (.slice aj2 D.length cj2) D)) := by show ∃ K, _; rw [ha]; exact ex_last hl25
                              have G0 := hide (show ∃ K, ze[0]? = some (K, _) by rw [ha]; exact ex_app (ex_app (ex_keep (j := 21) rfl (by decide) G0.out)))
                              have G1 := hide (show ∃ K, ze[1]? = some (K, _) by rw [ha]; exact ex_app (ex_app (ex_keep (j := 21) rfl (by decide) G1.out)))
                              have G3 := hide (show ∃ K, ze[3]? = some (K, _) by rw [ha]; exact ex_app (ex_app (ex_keep (j := 21) rfl (by decide) G3.out)))
                              have G4 := hide (show ∃ K, ze[4]? = some (K, _) by rw [ha]; exact ex_app (ex_app (ex_keep (j := 21) rfl (by decide) G4.out)))
                              have G5 := hide (show ∃ K, ze[5]? = some (K, _) by rw [ha]; exact ex_app (ex_app (ex_keep (j := 21) rfl (by decide) G5.out)))
                              have G7 := hide (show ∃ K, ze[7]? = some (K, _) by rw [ha]; exact ex_app (ex_app (ex_keep (j := 21) rfl (by decide) G7.out)))
                              have G8 := hide (show ∃ K, ze[8]? = some (K, _) by rw [ha]; exact ex_app (ex_app (ex_keep (j := 21) rfl (by decide) G8.out)))
                              have G9 := hide (show ∃ K, ze[9]? = some (K, _) by rw [ha]; exact ex_app (ex_app (ex_keep (j := 21) rfl (by decide) G9.out)))
                              have G10 := hide (show ∃ K, ze[10]? = some (K, _) by rw [ha]; exact ex_app (ex_app (ex_keep (j := 21) rfl (by decide) G10.out)))
                              have G12 := hide (show ∃ K, ze[12]? = some (K, _) by rw [ha]; exact ex_app (ex_app (ex_keep (j := 21) rfl (by decide) G12.out)))
                              have G13 := hide (show ∃ K, ze[13]? = some (K, _) by rw [ha]; exact ex_app (ex_app (ex_keep (j := 21) rfl (by decide) G13.out)))
                              have G14 := hide (show ∃ K, ze[14]? = some (K, _) by rw [ha]; exact ex_app (ex_app (ex_keep (j := 21) rfl (by decide) G14.out)))
                              have G17 := hide (show ∃ K, ze[17]? = some (K, _) by rw [ha]; exact ex_app (ex_app (ex_keep (j := 21) rfl (by decide) G17.out)))
                              have G18 := hide (show ∃ K, ze[18]? = some (K, _) by rw [ha]; exact ex_app (ex_app (ex_keep (j := 21) rfl (by decide) G18.out)))
                              have G23 := hide (show ∃ K, ze[23]? = some (K, _) by rw [ha]; exact ex_app (ex_app (ex_keep (j := 21) rfl (by decide) G23.out)))
                              obtain ⟨K23, g23⟩ := G23.out
                              have HRE := hide (hread xJ' 23 g23 HT.out HO.out)
                              rw [HRD.out] at HRE
                              simp only [] at HRE
                              clear xJ xJ' ha g23 XI hl24 hl25
                              go_wp2_with fail
                              refine HRE.out.mono ?_
                              rintro e wK ⟨ak, ck, ak2, ck2, qk, KK, KK2, rfl, -, xK⟩
                              obtain ⟨zf, ha, xK'⟩ : ∃ zs, zs = _ ∧ Herd w _ zs := ⟨_, rfl, xK⟩
                              have XK := hide xK'
                              have hl26 : (ze.set 23 (K23, tr gs (unpack Pk) qk)).length = 26 := by rw [List.length_set, HLE.out]
                              have hl27 : (ze.set 23 (K23, tr gs (unpack Pk) qk) ++ [(KK, ti (.slice ak L.length ck) L)]).length = 27 := by rw [List.length_append, hl26]; rfl
                              have G26 : Hid (∃ K, zf[26]? = some (K, ti (.slice ak L.length ck) L)) := by show ∃ K, _; rw [ha]; exact ex_app (ex_last hl26)
                              have G27 : Hid (∃ K, zf[27]? = some (K, ti (.slice ak2 D.length ck2) D)) := by show ∃ K, _; rw [ha]; exact ex_last hl27
                              have G0 := hide (show ∃ K, zf[0]? = some (K, _) by rw [ha]; exact ex_app (ex_app (ex_keep (j := 23) rfl (by decide) G0.out)))
                              have G1 := hide (show ∃ K, zf[1]? = some (K, _) by rw [ha]; exact ex_app (ex_app (ex_keep (j := 23) rfl (by decide) G1.out)))
                              have G3 := hide (show ∃ K, zf[3]? = some (K, _) by rw [ha]; exact ex_app (ex_app (ex_keep (j := 23) rfl (by decide) G3.out)))
                              have G4 := hide (show ∃ K, zf[4]? = some (K, _) by rw [ha]; exact ex_app (ex_app (ex_keep (j := 23) rfl (by decide) G4.out)))
                              have G5 := hide (show ∃ K, zf[5]? = some (K, _) by rw [ha]; exact ex_app (ex_app (ex_keep (j := 23) rfl (by decide) G5.out)))
                              have G7 := hide (show ∃ K, zf[7]? = some (K, _) by rw [ha]; exact ex_app (ex_app (ex_keep (j := 23) rfl (by decide) G7.out)))
                              have G8 := hide (show ∃ K, zf[8]? = some (K, _) by rw [ha]; exact ex_app (ex_app (ex_keep (j := 23) rfl (by decide) G8.out)))
                              have G9 := hide (show ∃ K, zf[9]? = some (K, _) by rw [ha]; exact ex_app (ex_app (ex_keep (j := 23) rfl (by decide) G9.out)))
                              have G10 := hide (show ∃ K, zf[10]? = some (K, _) by rw [ha]; exact ex_app (ex_app (ex_keep (j := 23) rfl (by decide) G10.out)))
                              have G12 := hide (show ∃ K, zf[12]? = some (K, _) by rw [ha]; exact ex_app (ex_app (ex_keep (j := 23) rfl (by decide) G12.out)))
                              have G13 := hide (show ∃ K, zf[13]? = some (K, _) by rw [ha]; exact ex_app (ex_app (ex_keep (j := 23) rfl (by decide) G13.out)))
                              have G14 := hide (show ∃ K, zf[14]? = some (K, _) by rw [ha]; exact ex_app (ex_app (ex_keep (j := 23) rfl (by decide) G14.out)))
                              have G17 := hide (show ∃ K, zf[17]? = some (K, _) by rw [ha]; exact ex_app (ex_app (ex_keep (j := 23) rfl (by decide) G17.out)))
                              have G18 := hide (show ∃ K, zf[18]? = some (K, _) by rw [ha]; exact ex_app (ex_app (ex_keep (j := 23) rfl (by decide) G18.out)))
                              have G24 := hide (show ∃ K, zf[24]? = some (K, _) by rw [ha]; exact ex_app (ex_app (ex_keep (j := 23) rfl (by decide) G24.out)))
                              have G25 := hide (show ∃ K, zf[25]? = some (K, _) by rw [ha]; exact ex_app (ex_app (ex_keep (j := 23) rfl (by decide) G25.out)))
                              have HQ := hide (heq7 xK' G24.out G26.out)
                              clear xK xK' ha XJ hl26 hl27 HRE
                              go_wp2_with fail
                              refine HQ.out.mono ?_
                              rintro e wL ⟨rfl, xL⟩
                              have HQ := hide (heq7 xL G25.out G27.out)
                              clear xL
                              go_wp2_with fail
                              refine HQ.out.mono ?_
                              rintro e wM ⟨rfl, xM⟩
                              have HQ := hide (heq7 xM G24.out G13.out)
                              clear xM
                              go_wp2_with fail
                              refine HQ.out.mono ?_
                              rintro e wN ⟨rfl, xN⟩
                              have HQ := hide (heq7 xN G25.out G14.out)
                              clear xN
                              go_wp2_with fail
                              refine HQ.out.mono ?_
                              rintro e wO ⟨rfl, xO⟩
                              have XO := hide xO
                              obtain ⟨K7, g7⟩ := G7.out
                              obtain ⟨K12, g12⟩ := G12.out
                              obtain ⟨t0, t1, t2, t3, -⟩ := xO.hx 7 g7
                              obtain ⟨z0, z1, z2, z3, -⟩ := xO.hx 12 g12
                              clear xO g7 g12 HQ XK
                              obtain ⟨ls, hls⟩ : ∃ ls : List (Value × List Int), ls = [(.slice aj L.length cj, L), (.slice aj2 D.length cj2, D), (.slice ak L.length ck, L), (.slice ak2 D.length ck2, D), (.slice aL L.length cL, List.replicate L.length (-3)), (.slice aD D.length cD, List.replicate D.length (-4)), (.slice aC C.length cC, List.replicate C.length (-5)), (.slice bL L.length eL, L), (.slice bD D.length eD, D), (.slice bC C.length eC, C), (.slice aq J.length cq, List.replicate J.length (-7)), (.slice ag J.length cg, J)] := ⟨_, rfl⟩
                              have hix : ∀ (j : Nat) (p : Value × List Int), ls[j]? = some p → ∃ i K, ([24, 25, 26, 27, 3, 4, 5, 8, 9, 10, 17, 18] : List Nat)[j]? = some i ∧ zf[i]? = some (K, ti p.1 p.2) := fun j p hp => by
                                rw [hls] at hp
                                rcases j with _ | _ | _ | _ | _ | _ | _ | _ | _ | _ | _ | _ | j
                                · simp only [List.getElem?_cons_zero, List.getElem?_cons_succ, Option.some.injEq] at hp; subst hp; obtain ⟨K, h⟩ := G24.out; exact ⟨24, K, rfl, h⟩
                                · simp only [List.getElem?_cons_zero, List.getElem?_cons_succ, Option.some.injEq] at hp; subst hp; obtain ⟨K, h⟩ := G25.out; exact ⟨25, K, rfl, h⟩
                                · simp only [List.getElem?_cons_zero, List.getElem?_cons_succ, Option.some.injEq] at hp; subst hp; obtain ⟨K, h⟩ := G26.out; exact ⟨26, K, rfl, h⟩
                                · simp only [List.getElem?_cons_zero, List.getElem?_cons_succ, Option.some.injEq] at hp; subst hp; obtain ⟨K, h⟩ := G27.out; exact ⟨27, K, rfl, h⟩
                                · simp only [List.getElem?_cons_zero, List.getElem?_cons_succ, Option.some.injEq] at hp; subst hp; obtain ⟨K, h⟩ := G3.out; exact ⟨3, K, rfl, h⟩
                                · simp only [List.getElem?_cons_zero, List.getElem?_cons_succ, Option.some.injEq] at hp; subst hp; obtain ⟨K, h⟩ := G4.out; exact ⟨4, K, rfl, h⟩
                                · simp only [List.getElem?_cons_zero, List.getElem?_cons_succ, Option.some.injEq] at hp; subst hp; obtain ⟨K, h⟩ := G5.out; exact ⟨5, K, rfl, h⟩
                                · simp only [List.getElem?_cons_zero, List.getElem?_cons_succ, Option.some.injEq] at hp; subst hp; obtain ⟨K, h⟩ := G8.out; exact ⟨8, K, rfl, h⟩
                                · simp only [List.getElem?_cons_zero, List.getElem?_cons_succ, Option.some.injEq] at hp; subst hp; obtain ⟨K, h⟩ := G9.out; exact ⟨9, K, rfl, h⟩
                                · simp only [List.getElem?_cons_zero, List.getElem?_cons_succ, Option.some.injEq] at hp; subst hp; obtain ⟨K, h⟩ := G10.out; exact ⟨10, K, rfl, h⟩
                                · simp only [List.getElem?_cons_zero, List.getElem?_cons_succ, Option.some.injEq] at hp; subst hp; obtain ⟨K, h⟩ := G17.out; exact ⟨17, K, rfl, h⟩
                                · simp only [List.getElem?_cons_zero, List.getElem?_cons_succ, Option.some.injEq] at hp; subst hp; obtain ⟨K, h⟩ := G18.out; exact ⟨18, K, rfl, h⟩
                                · simp at hp
                              have HIX := hide hix
                              have HLL := hide (XO.out.lists ls [24, 25, 26, 27, 3, 4, 5, 8, 9, 10, 17, 18] (by rw [hls]; rfl) hix (by decide) (by rw [hls]; simp) (fun p hp => by
                                rw [hls] at hp
                                simp only [List.mem_cons, List.not_mem_nil, or_false] at hp
                                have h1 := hL1.2
                                have h2 := hD1.2
                                have h3 := hC1.2
                                have h4 := HJl.out
                                rcases hp with rfl | rfl | rfl | rfl | rfl | rfl | rfl | rfl | rfl | rfl | rfl | rfl <;> (simp only [List.length_replicate]; omega)) (O := .cells #[.slice aj L.length cj, .slice aj2 D.length cj2, .slice ak L.length ck, .slice ak2 D.length ck2, .slice aL L.length cL, .slice aD D.length cD, .slice aC C.length cC, .slice bL L.length eL, .slice bD D.length eD, .slice bC C.length eC, .slice aq J.length cq, .slice ag J.length cg] 22) (fun j p hp => by
                                rw [hls] at hp
                                have hal := heap_alloc_new wO (.cells #[.slice aj L.length cj, .slice aj2 D.length cj2, .slice ak L.length ck, .slice ak2 D.length ck2, .slice aL L.length cL, .slice aD D.length cD, .slice aC C.length cC, .slice bL L.length eL, .slice bD D.length eD, .slice bC C.length eC, .slice aq J.length cq, .slice ag J.length cg] 22)
                                rcases j with _ | _ | _ | _ | _ | _ | _ | _ | _ | _ | _ | _ | j
                                · simp only [List.getElem?_cons_zero, List.getElem?_cons_succ, Option.some.injEq] at hp; subst hp; unfold World.cell?; simp only [hal]; rfl
                                · simp only [List.getElem?_cons_zero, List.getElem?_cons_succ, Option.some.injEq] at hp; subst hp; unfold World.cell?; simp only [hal]; rfl
                                · simp only [List.getElem?_cons_zero, List.getElem?_cons_succ, Option.some.injEq] at hp; subst hp; unfold World.cell?; simp only [hal]; rfl
                                · simp only [List.getElem?_cons_zero, List.getElem?_cons_succ, Option.some.injEq] at hp; subst hp; unfold World.cell?; simp only [hal]; rfl
                                · simp only [List.getElem?_cons_zero, List.getElem?_cons_succ, Option.some.injEq] at hp; subst hp; unfold World.cell?; simp only [hal]; rfl
                                · simp only [List.getElem?_cons_zero, List.getElem?_cons_succ, Option.some.injEq] at hp; subst hp; unfold World.cell?; simp only [hal]; rfl
                                · simp only [List.getElem?_cons_zero, List.getElem?_cons_succ, Option.some.injEq] at hp; subst hp; unfold World.cell?; simp only [hal]; rfl
                                · simp only [List.getElem?_cons_zero, List.getElem?_cons_succ, Option.some.injEq] at hp; subst hp; unfold World.cell?; simp only [hal]; rfl
                                · simp only [List.getElem?_cons_zero, List.getElem?_cons_succ, Option.some.injEq] at hp; subst hp; unfold World.cell?; simp only [hal]; rfl
                                · simp only [List.getElem?_cons_zero, List.getElem?_cons_succ, Option.some.injEq] at hp; subst hp; unfold World.cell?; simp only [hal]; rfl
                                · simp only [List.getElem?_cons_zero, List.getElem?_cons_succ, Option.some.injEq] at hp; subst hp; unfold World.cell?; simp only [hal]; rfl
                                · simp only [List.getElem?_cons_zero, List.getElem?_cons_succ, Option.some.injEq] at hp; subst hp; unfold World.cell?; simp only [hal]; rfl
                                · simp at hp))
                              have hlen12 : ls.length = 12 := by rw [hls]; rfl
                              have HOW := hide (own7_walk _ 0 wO.heap.size 12 (some ⟨wO.heap.size, 0, none⟩) ls HLL.out (fun _ => rfl))
                              rw [hlen12] at HOW
                              clear hls hix HLL hlen12
                              go_wp2_with fail
                              refine HOW.out.mono ?_
                              rintro e wP ⟨rfl, kP⟩
                              obtain ⟨K0, g0⟩ := G0.out
                              obtain ⟨K1, g1⟩ := G1.out
                              obtain ⟨sA, bP⟩ := XO.out.kept7 HIX.out kP g0 (by decide)
                              obtain ⟨sB, -⟩ := XO.out.kept7 HIX.out kP g1 (by decide)
                              have HSA2 := hide sA
                              have HSB2 := hide sB
                              have HBP := hide bP
                              clear kP g0 g1 sA sB bP HOW HIX t0 t1 t2 t3 z0 z1 z2 z3
                              obtain ⟨A, HA⟩ : ∃ A, Hid (A = List.replicate l.length (-1 : Int)) := ⟨_, rfl⟩
                              obtain ⟨B, HBB⟩ : ∃ A, Hid (A = List.replicate d.length (-2 : Int)) := ⟨_, rfl⟩
                              rw [← HA.out] at HSA2
                              rw [← HBB.out] at HSB2
                              obtain ⟨E', HE'⟩ : ∃ E, Hid (E = mkE A B) := ⟨_, rfl⟩
                              have HMK : Hid (∀ wx v u, Below w.heap.size w wx → SI wx v A → SI wx u B → Calls Tryd.prog 7 #[v, u] wx fun e w' => Mrs wx w' A B e ∧ Below wx.heap.size wx w') := fun wx v u q s1 s2 => (make_any v u A B wx s1 s2 (HT.out.mono q) (HO.out.mono q)).mono fun e w' ⟨h1, h2⟩ => ⟨mrs_of h1, h2⟩
                              have HM1 := hide (HMK.out wP _ _ HBP.out HSA2.out HSB2.out)
                              go_wp2_with fail
                              refine HM1.out.mono ?_
                              rintro e wQ ⟨⟨p1, p2, p3, p4, p5, p6, p7, p8, L1, D1, C1, R1, Z1, hrl, rfl, -⟩, bQ⟩
                              rw [← HE'.out]
                              have HBQ := hide (HBP.out.trans (bQ.mono HBP.out.size))
                              obtain ⟨wR, hwR⟩ : ∃ wR, wQ.alloc (.cells #[.slice p1 L1.length p2, .slice p3 D1.length p4, .slice p5 C1.length p6, .slice p7 R1.length p8, .int .i64 Z1] 29) = wR := ⟨_, rfl⟩
                              have bR : Below wQ.heap.size wQ wR := by rw [← hwR]; exact (Below.refl _ _).alloc (Nat.le_refl _) _
                              have HBR := hide (HBQ.out.trans (bR.mono HBQ.out.size))
                              have HSR := hide (HSA2.out.below (bQ.trans (bR.mono bQ.size)))
                              have HSRb := hide (HSB2.out.below (bQ.trans (bR.mono bQ.size)))
                              have hAl : A.length ≤ 286 := by rw [HA.out, List.length_replicate]; omega
                              have hBl : B.length ≤ 30 := by rw [HBB.out, List.length_replicate]; omega
                              have HIa := hide (ints_any _ A wR HSR.out (by omega))
                              have HWR := hide hwR
                              clear bQ bR hwR hrl HM1 HSA2 HSB2 HBP
                              go_wp2_with fail
                              rw [HWR.out]
                              refine HIa.out.mono ?_
                              rintro e wS ⟨vs, rfl, rfl, oS, bS⟩
                              have HBS := hide (HBR.out.trans (bS.mono HBR.out.size))
                              have HOS := hide oS.sb
                              have HIb := hide (ints_any _ B wS (HSRb.out.below bS) (by omega))
                              clear oS bS HIa
                              go_wp2_with fail
                              refine HIb.out.mono ?_
                              rintro e wT ⟨vt, rfl, rfl, oT, bT⟩
                              have HBTT := hide (HBS.out.trans (bT.mono HBS.out.size))
                              have HM1 := hide (HMK.out wT _ _ HBTT.out (HOS.out.below bT) oT.sb)
                              clear oT bT HIb
                              go_wp2_with fail
                              refine HM1.out.mono ?_
                              rintro e wU ⟨⟨q1, q2, q3, q4, q5, q6, q7, q8, L2, D2, C2, R2, Z2, hrl, rfl, -⟩, bU⟩
                              rw [← HE'.out]
                              have HBU := hide (HBTT.out.trans (bU.mono HBTT.out.size))
                              obtain ⟨wV, hwV⟩ : ∃ wV, wU.alloc (.cells #[.slice q1 L2.length q2, .slice q3 D2.length q4, .slice q5 C2.length q6, .slice q7 R2.length q8, .int .i64 Z2] 29) = wV := ⟨_, rfl⟩
                              have HBV : Hid (Below w.heap.size w wV) := by show Below _ _ _; rw [← hwV]; exact HBU.out.alloc HBU.out.size _
                              have qee : (E' == E') = true := by simp
                              clear bU hrl HM1 HMK
                              by_cases h0 : l.length = 0
                              · have h0' : ((l.length : Int) == 0) = true := by rw [h0]; rfl
                                clear h0
                                go_wp2
                                go_ret
                                exact ⟨rfl, HBV.out⟩
                              · have h0' : ((l.length : Int) == 0) = false := beq_eq_false_iff_ne.2 (by omega)
                                have hne : (E' != 0) = true := by
                                  have hw : wthb A = false := by
                                    cases q : wthb A with
                                    | false => rfl
                                    | true =>
                                      have h1 := wth_iff.1 q (-1) (by rw [HA.out]; exact List.mem_replicate.2 ⟨h0, rfl⟩)
                                      omega
                                  have h1 : mkE A B = 1 := by unfold mkE; rw [if_pos (.inr (.inr (.inl hw)))]
                                  rw [HE'.out, h1]
                                  rfl
                                clear h0
                                go_wp2
                                go_ret
                                exact ⟨rfl, HBV.out⟩
end Go.Proofs.YtegoienjikjhkaaDoor

