import Derived.Test.YtjdgeonlbjokaaaGTtw
import Derived.Test.YtjdgeonlbjokaaaGEx
import Derived.Test.YtjdgeonlbjokaaaGMn
import Derived.Test.YtjdgeonlbjokaaaGBn
import Derived.Test.YtjdgeonlbjokaaaGLnb
import Derived.Test.YtjdgeonlbjokaaaGBbw
import Derived.Test.YtjdgeonlbjokaaaGTby
import Derived.Test.YtjdgeonlbjokaaaGTaw
import Derived.BigQuiet
import Derived.Deep.DeepCutAuto
import Derived.Deep.RegionWith
namespace Go.Proofs.Ytjdgeonlbjokaaa
open Go.RowKit Go.Maps
set_option maxRecDepth 20000
set_option linter.unusedVariables false

theorem exE_len (lim : Int) : ∀ (r : List Tk) (x y : List Int), x.length = y.length → exE lim x r = exE lim y r ∧ (exE lim x r = 0 → (exT x r).length = (exT y r).length)
  | [], x, y, h => ⟨rfl, fun _ => h⟩
  | t :: r, x, y, h => by
    have hs : stE lim x t = stE lim y t := by unfold stE; rw [h]
    simp only [exE, exT]
    rw [hs]
    by_cases q : stE lim y t = 0
    · rw [if_pos q, if_pos q]
      have hp : (ptk x t).length = (ptk y t).length := by rw [ptk_len (stE_zero q).1, ptk_len (stE_zero q).1, h]
      exact exE_len lim r _ _ hp
    · rw [if_neg q, if_neg q]
      exact ⟨rfl, fun h => absurd h q⟩

/-- The first token of a text is a literal; another one in its place can be read too. -/
theorem ex_flip {lim : Int} {R : List Tk} (h : exE lim [] R = 0) (hR : 0 < R.length) : (R.getD 0 tk0).1 = 0 ∧ (R.getD 0 tk0).2.1 = 0 ∧ ∀ z, exE lim [] (R.set 0 (0, 0, z)) = 0 ∧ (exT [] (R.set 0 (0, 0, z))).length = (exT [] R).length := by
  cases R with
  | nil => simp at hR
  | cons t r =>
    simp only [exE] at h
    by_cases q : stE lim [] t = 0
    · rw [if_pos q] at h
      obtain ⟨h1, h2, h3⟩ := stE_zero q
      simp only [List.length_nil] at h2 h3
      have ht : t.1 = 0 ∧ t.2.1 = 0 := by
        rcases snd_parts h1 with p | ⟨l, d, rfl, p1, p2, p3, p4⟩
        · exact p
        · simp only at h2; omega
      refine ⟨ht.1, ht.2, fun z => ?_⟩
      simp only [List.set_cons_zero, exE, exT]
      have hs : says t = 1 := by unfold says; rw [ht.1]; rfl
      have q' : stE lim [] ((0, 0, z) : Tk) = 0 := stE_mk (by unfold Snd; simp) (by simp) (by rw [hs] at h3; simpa [says] using h3)
      have hl : (ptk [] ((0, 0, z) : Tk)).length = (ptk [] t).length := by rw [ptk_len h1, ptk_len (stE_zero q').1, hs]; rfl
      rw [if_pos q']
      obtain ⟨e1, e2⟩ := exE_len lim r _ _ hl
      exact ⟨e1.trans h, e2 (e1.trans h)⟩
    · rw [if_neg q] at h; exact absurd h q

theorem rv_step {D : List Int} {k : Nat} (h : k < D.length) : (D.reverse.take k ++ D.drop k).set k (D.getD (D.length - 1 - k) 0) = D.reverse.take (k + 1) ++ D.drop (k + 1) := by
  have hl : (D.reverse.take k).length = k := by rw [List.length_take, List.length_reverse]; omega
  rw [List.set_append_right _ _ (by omega), hl, Nat.sub_self]
  have e : D.drop k = D[k] :: D.drop (k + 1) := List.drop_eq_getElem_cons h
  rw [e, List.set_cons_zero, List.take_succ_eq_append_getElem (by rw [List.length_reverse]; exact h), List.append_assoc]
  congr 1
  simp only [List.singleton_append, List.cons.injEq, and_true]
  rw [List.getElem_reverse]
  simp [List.getD]
  rw [List.getElem?_eq_getElem (by omega)]
  rfl

theorem rv_byt {D : List Int} (h : Byt D) : Byt D.reverse := by
  intro i
  by_cases q : i < D.length
  · have : D.reverse.getD i 0 = D.getD (D.length - 1 - i) 0 := by
      simp only [List.getD_eq_getElem?_getD]
      rw [List.getElem?_reverse q]
    rw [this]
    exact h _
  · rw [List.getD_eq_getElem?_getD, List.getElem?_eq_none (by rw [List.length_reverse]; omega)]
    decide

theorem OK.low {w w' : World} {B B' : Nat} {v : Value} {l : List Tk} (h : OK w B v l) (hb : Below B' w w') (hs : w.heap.size ≤ B') : OK w' B v l := h.below (hb.mono hs) (Nat.le_refl _)

theorem fr3_lit (A B : List Tk) (s : Tk) (z : Int) : (fr3 (A ++ s :: B)).set (A.length * 3 + 2) (.int .u8 z) = fr3 (A ++ (s.1, s.2.1, z) :: B) := by
  rw [fr3_mid, fr3_mid, ← fr3_len A]
  simp [List.set_append_right]

/-- The first token's literal written over. -/
theorem ok_lit {w : World} {base b p : Nat} {L : List Tk} (z : Int) (h : OK w base (.slice (some ⟨b, 0, none⟩) L.length p) L) (hj : 0 < L.length) :
    OK (w.setCell ⟨b, 2, none⟩ (.int .u8 z)) base (.slice (some ⟨b, 0, none⟩) L.length p) (L.set 0 ((L.getD 0 tk0).1, (L.getD 0 tk0).2.1, z)) := by
  obtain ⟨A, s, B, hL, hA, hS⟩ := split_at hj
  obtain rfl : A = [] := List.eq_nil_of_length_eq_zero hA
  have hg : L.getD 0 tk0 = s := by rw [hL]; rfl
  rcases h.2 with ⟨hx, _⟩ | ⟨g, cap, cur, he, h1, h2, h3, h4, h5, h6⟩
  · simp at hx
  · simp only [Value.slice.injEq, Option.some.injEq, Addr.mk.injEq] at he
    obtain ⟨⟨rfl, -, -⟩, -, rfl⟩ := he
    have q1 := heap_setCell_same w b 2 _ _ (.int .u8 z) h2
    refine ⟨fr3_len _, .inr ⟨b, p, _, by simp, h1, q1, by simpa using h3, h4, by simpa using h5, ?_⟩⟩
    rw [List.length_set]
    simp only [Array.toList_setIfInBounds]
    rw [List.take_set, h6, hS, hg]
    rw [hL]
    exact fr3_lit [] B s z

theorem set_keep {w : World} {base b : Nat} {v : Value} {L : List Tk} {o : Nat} {u : Value} (h : OK w base v L) (hb : b < base) : OK (w.setCell ⟨b, o, none⟩ u) base v L :=
  h.move fun k hk => setCell_others w b o u k (by have := (h.lt k hk).1; omega)

theorem bst_at9 {D : List Int} {A x y : Nat} : (bst D A x y = (0, 0)) ∨ ∃ j, j < A ∧ bst D A x y = (rno D j A, A - j) ∧ 0 < rno D j A := by
  rcases bst_facts (D := D) (i := A) (W := x) (C := y) with h | ⟨j, h1, h2, h3, h4, h5, h6⟩
  · exact .inl h
  · exact .inr ⟨j, h1, h5, by omega⟩

set_option maxHeartbeats 8000000 in
theorem again9_walk (v : Value) (D : List Int) (x y : Int) (z : Bool) (w : World) (h : SB w v D) (hB : Byt D) (hl : (D.length : Int) ≤ 16777216) (hd : Dmn x y) :
    Calls Try.prog 13 #[v, .agg #[.int .i64 x, .int .i64 y, .bool z]] w fun e w' => e = .returned (.bool true) ∧ Below w.heap.size w w' := by
  have HB : Hid (Below w.heap.size w (w.alloc (.cells #[.int .i64 x, .int .i64 y, .bool z] 24))) := (Below.refl _ _).alloc (Nat.le_refl _) _
  have HS := hide (h.below ((Below.refl _ _).alloc (Nat.le_refl _) (.cells #[.int .i64 x, .int .i64 y, .bool z] 24)))
  obtain ⟨wb, hwb⟩ : ∃ wb, w.alloc (.cells #[.int .i64 x, .int .i64 y, .bool z] 24) = wb := ⟨_, rfl⟩
  have hbl : w.heap.size < wb.heap.size := by rw [← hwb]; simp
  have d1 : wb.cell? ⟨w.heap.size, 0, none⟩ = some (.int .i64 x) := by rw [← hwb]; unfold World.cell?; simp only [heap_alloc_new]; rfl
  have d2 : wb.cell? ⟨w.heap.size, 1, none⟩ = some (.int .i64 y) := by rw [← hwb]; unfold World.cell?; simp only [heap_alloc_new]; rfl
  have d3 : wb.cell? ⟨w.heap.size, 2, none⟩ = some (.bool z) := by rw [← hwb]; unfold World.cell?; simp only [heap_alloc_new]; rfl
  rw [hwb] at HB HS
  have HBT := hide hB
  have HBR := hide (rv_byt hB)
  have HC : Hid (∀ wx, Below wb.heap.size wb wx → wx.cell? ⟨w.heap.size, 0, none⟩ = some (.int .i64 x) ∧ wx.cell? ⟨w.heap.size, 1, none⟩ = some (.int .i64 y) ∧ wx.cell? ⟨w.heap.size, 2, none⟩ = some (.bool z)) := fun wx q => ⟨(q.cell hbl).trans d1, (q.cell hbl).trans d2, (q.cell hbl).trans d3⟩
  have HFI : Hid (∀ wx, Below wb.heap.size wb wx → Below w.heap.size w wx) := fun wx q => HB.out.trans (q.mono HB.out.size)
  have HSB : Hid (∀ wx, Below wb.heap.size wb wx → SB wx v D) := fun wx q => HS.out.below q
  obtain ⟨ao, cap, rfl, hlc, hcm⟩ := h.open
  clear h hB
  have HCP := hide (copied_any _ D wb HS.out (by omega))
  obtain ⟨L, HL⟩ : ∃ L, Hid (L = tL D x y z) := ⟨_, rfl⟩
  obtain ⟨L2, HL2⟩ : ∃ L, Hid (L = tL D.reverse x y z) := ⟨_, rfl⟩
  obtain ⟨R, HR⟩ : ∃ R, Hid (R = D.reverse) := ⟨_, rfl⟩
  have HRl : Hid (R.length = D.length) := by show _ = _; rw [HR.out, List.length_reverse]
  rw [← HR.out] at HL2 HBR
  obtain ⟨r1, r2⟩ := tE_ok (D := D) (z := z) ⟨hl, hd⟩
  obtain ⟨r3, r4⟩ := tE_ok (D := R) (z := z) (x := x) (y := y) ⟨by rw [HRl.out]; exact hl, hd⟩
  have HTO : Hid (∀ wx u, SB wx u D → Calls Try.prog 5 #[u, .agg #[.int .i64 x, .int .i64 y, .bool z]] wx fun e w' => ∃ u, e = .returned (.tuple #[u, .int .i64 0]) ∧ OK w' wx.heap.size u L ∧ Below wx.heap.size wx w') := fun wx u q => by
    have := tokens_any u D x y z wx q HBT.out
    rw [← HL.out, r1] at this
    exact this
  have HTR : Hid (∀ wx u, SB wx u R → Calls Try.prog 5 #[u, .agg #[.int .i64 x, .int .i64 y, .bool z]] wx fun e w' => ∃ u, e = .returned (.tuple #[u, .int .i64 0]) ∧ OK w' wx.heap.size u L2 ∧ Below wx.heap.size wx w') := fun wx u q => by
    have := tokens_any u R x y z wx q HBR.out
    rw [← HL2.out, r3] at this
    exact this
  have hLD : L = tkl D x.toNat y.toNat z := HL.out.trans r2
  have hLR : L2 = tkl R x.toNat y.toNat z := HL2.out.trans r4
  have hd' := hd
  unfold Dmn at hd'
  obtain ⟨q1, q2⟩ := tkl_all (D := D) (W := x.toNat) (C := y.toNat) (z := z) (by omega)
  obtain ⟨q3, q4⟩ := tkl_all (D := R) (W := x.toNat) (C := y.toNat) (z := z) (by omega)
  rw [← hLD] at q1 q2
  rw [← hLR] at q3 q4
  have hLl : L.length ≤ D.length := by
    rw [hLD]
    have := tks_len (D := D) (W := x.toNat) (C := y.toNat) (z := z) D.length 0 (Nat.zero_le _)
    show (tks D x.toNat y.toNat z D.length 0).length ≤ _
    omega
  have hLn : L.length ≤ 16777216 := by omega
  have hDn : D.length ≤ 16777216 := by omega
  have HQ1 := hide q1
  have HQ2 := hide q2
  have HQ3 := hide q3
  have HQ4 := hide q4
  have HDM := hide hd
  clear r1 r2 r3 r4 hLD hLR hd hd' q1 q2 q3 q4 HL HL2 hLl
  obtain ⟨A, hA⟩ : ∃ A, D.length / 2 = A := ⟨_, rfl⟩
  have hdv : (D.length : Int).tdiv 2 = (A : Int) := by rw [Int.tdiv_eq_ediv_of_nonneg (by omega)]; omega
  have hAn : A ≤ D.length := by omega
  have HAD := hide hA
  clear hA
  obtain ⟨lb, HLB⟩ : ∃ l, Hid (l = bL D A x y) := ⟨_, rfl⟩
  obtain ⟨db, HDB⟩ : ∃ l, Hid (l = bD D A x y) := ⟨_, rfl⟩
  obtain ⟨eb, HEB⟩ : ∃ l, Hid (l = bE D A x y) := ⟨_, rfl⟩
  obtain ⟨lr, HLR⟩ : ∃ l, Hid (l = bL R A x y) := ⟨_, rfl⟩
  obtain ⟨dr, HDR⟩ : ∃ l, Hid (l = bD R A x y) := ⟨_, rfl⟩
  obtain ⟨er, HER⟩ : ∃ l, Hid (l = bE R A x y) := ⟨_, rfl⟩
  have HBE : Hid (∀ wx u, SB wx u D → Calls Try.prog 22 #[u, .int .i64 (A : Int), .agg #[.int .i64 x, .int .i64 y, .bool z]] wx fun e w' => e = .returned (.tuple #[.int .i64 (lb : Int), .int .i64 (db : Int), .int .i64 eb]) ∧ Below wx.heap.size wx w') := fun wx u q => by
    have := best_any u D A x y z wx q HBT.out
    rw [← HLB.out, ← HDB.out, ← HEB.out] at this
    exact this
  have HBF : Hid (∀ wx u, SB wx u R → Calls Try.prog 22 #[u, .int .i64 (A : Int), .agg #[.int .i64 x, .int .i64 y, .bool z]] wx fun e w' => e = .returned (.tuple #[.int .i64 (lr : Int), .int .i64 (dr : Int), .int .i64 er]) ∧ Below wx.heap.size wx w') := fun wx u q => by
    have := best_any u R A x y z wx q HBR.out
    rw [← HLR.out, ← HDR.out, ← HER.out] at this
    exact this
  go_enter Try.func13, Try.ntmps13
  go_wp2_with fail
  refine HCP.out.mono ?_
  rintro e w1 ⟨a1, c1, rfl, o1, b1⟩
  have HO1 := hide o1
  have HB1 := hide b1
  obtain ⟨f1, f2, f3⟩ := HC.out _ b1
  have hc1 : D.length ≤ c1 ∧ c1 ≤ 9223372036854775807 := by
    obtain ⟨a9, c9, h9, h8, h7, _⟩ := o1.sb
    simp only [Value.slice.injEq] at h9
    obtain ⟨-, -, rfl⟩ := h9
    unfold maxLen at h7
    exact ⟨h8, h7⟩
  obtain ⟨hc1, hc1m⟩ := hc1
  clear o1 b1 HCP hwb d1 d2 d3
  go_wp2_with fail
  refine (HTO.out w1 _ HO1.out.sb).mono ?_
  rintro e w2 ⟨u2, rfl, o2, b2⟩
  obtain ⟨ta, tc, hu2, hl2, hm2⟩ := o2.shape
  subst hu2
  have HT2 := hide o2
  have HO2 := hide (HO1.out.below b2 (Nat.le_refl _))
  have HB2 := hide (HB1.out.trans (b2.mono HB1.out.size))
  have hw12 : wb.heap.size ≤ w1.heap.size := HB1.out.size
  have HG1 : Hid (∀ k, (Value.slice a1 D.length c1).ownBlock = some k → wb.heap.size ≤ k ∧ k < w1.heap.size) := HO1.out.lt
  clear o2 b2 f1 f2 f3 HO1 HTO
  obtain ⟨f1, f2, f3⟩ := HC.out _ HB2.out
  go_wp2_with fail
  refine (HBE.out w2 _ HO2.out.sb).mono ?_
  rintro e w3 ⟨rfl, b3⟩
  have HT3 := hide (HT2.out.below b3 (Nat.le_refl _))
  have HO3 := hide (HO2.out.below b3 (Nat.le_refl _))
  have HB3 := hide (HB2.out.trans (b3.mono HB2.out.size))
  clear b3 f1 f2 f3 HO2 HT2 HB2 HBE
  go_wp2
  go_loopw [12] (fun i wr => ∃ k : Nat, k ≤ D.length ∧ i = .int .i64 (k : Int) ∧ Hid (OB wr wb.heap.size (.slice a1 D.length c1) (D.reverse.take k ++ D.drop k)) ∧ Hid (OK wr w1.heap.size (.slice ta L.length tc) L) ∧ Hid (Below wb.heap.size wb wr)) (fun t _ => D.length - (intOf t).toNat)
  case atStart => exact ⟨0, Nat.zero_le _, rfl, HO3, HT3, HB3⟩
  case round =>
    obtain ⟨k, hk, rfl, HOk, HTk, HBk⟩ := hrel
    clear HO3 HT3 HB3
    by_cases hkl : k < D.length
    · have hkl' : (k : Int) < (D.length : Int) := by omega
      obtain ⟨C, HCC⟩ : ∃ C, Hid (C = D.reverse.take k ++ D.drop k) := ⟨_, rfl⟩
      have HCl : Hid (C.length = D.length) := by show _ = _; rw [HCC.out, List.length_append, List.length_take, List.length_reverse, List.length_drop]; omega
      rw [← HCC.out] at HOk
      have HOk' : Hid (OB wr wb.heap.size (.slice a1 C.length c1) C) := by show OB _ _ _ _; rw [HCl.out]; exact HOk.out
      obtain ⟨g, p, hgp, _, _⟩ := HOk'.out.some (by rw [HCl.out]; omega)
      simp only [Value.slice.injEq] at hgp
      obtain ⟨rfl, -, rfl⟩ := hgp
      obtain ⟨m, hm⟩ : ∃ m, D.length - 1 - k = m := ⟨_, rfl⟩
      have hmi : (D.length : Int) - 1 - (k : Int) = (m : Int) := by omega
      have hml : m < D.length := by omega
      obtain ⟨vb, vo, rfl, cd⟩ := (HSB.out _ HBk.out).byte (Below.refl _ _) hml
      obtain ⟨ck, cf⟩ := HOk'.out.cellAt (j := k) (by rw [HCl.out]; omega)
      obtain ⟨q, HQq⟩ : ∃ q, Hid (q = D.getD m 0) := ⟨_, rfl⟩
      rw [← HQq.out] at cd
      obtain ⟨hg1, hg2⟩ := HG1.out g rfl
      have HON : Hid (OB (wr.setCell ⟨g, k, none⟩ (.int .u8 q)) wb.heap.size (.slice (some ⟨g, 0, none⟩) D.length c1) (D.reverse.take (k + 1) ++ D.drop (k + 1))) := by
        show OB _ _ _ _
        have := HOk'.out.setAt (j := k) q
        rw [HCC.out, HQq.out, ← hm, rv_step hkl] at this
        rw [← HCC.out, HCl.out] at this
        rw [HQq.out, ← hm]
        exact this
      have HTN : Hid (OK (wr.setCell ⟨g, k, none⟩ (.int .u8 q)) w1.heap.size (.slice ta L.length tc) L) := set_keep HTk.out hg2
      have HBN : Hid (Below wb.heap.size wb (wr.setCell ⟨g, k, none⟩ (.int .u8 q))) := HBk.out.setCell (p := ⟨g, k, none⟩) hg1 _
      have HM := hide hm
      clear HOk HOk' HTk HBk hm hg1 hg2
      go_wp2
      go_roundw
      case rel => exact ⟨k + 1, by omega, by go_num, HON, HTN, HBN⟩
      case measure => simp [intOf]; omega
    · obtain rfl : k = D.length := by omega
      have hkl' : ¬ (D.length : Int) < (D.length : Int) := by omega
      have HOR : Hid (OB wr wb.heap.size (.slice a1 D.length c1) R) := by
        show OB _ _ _ _
        have := HOk.out
        rw [List.take_of_length_le (by rw [List.length_reverse]; exact Nat.le_refl _), List.drop_length, List.append_nil, ← HR.out] at this
        exact this
      obtain ⟨f1, f2, f3⟩ := HC.out _ HBk.out
      clear HOk hk hkl
      go_wp2_with fail
      refine (HTR.out wr _ HOR.out.sb).mono ?_
      rintro e w4 ⟨u4, rfl, o4, b4⟩
      obtain ⟨sa, sc, hu4, hl4, hm4⟩ := o4.shape
      subst hu4
      have HU4 := hide o4
      have HO4 := hide (HOR.out.below b4 (Nat.le_refl _))
      have HT4 := hide (HTk.out.below b4 (Nat.le_refl _))
      have HB4 := hide (HBk.out.trans (b4.mono HBk.out.size))
      clear o4 b4 f1 f2 f3 HOR HTR HTk HBk
      obtain ⟨f1, f2, f3⟩ := HC.out _ HB4.out
      go_wp2_with fail
      refine (HBF.out w4 _ HO4.out.sb).mono ?_
      rintro e w5 ⟨rfl, b5⟩
      have HU5 := hide (HU4.out.below b5 (Nat.le_refl _))
      have HT5 := hide (HT4.out.below b5 (Nat.le_refl _))
      have HO5 := hide (HO4.out.below b5 (Nat.le_refl _))
      have HB5 := hide (HB4.out.trans (b5.mono HB4.out.size))
      clear b5 f1 f2 f3 HU4 HT4 HO4 HB4
      obtain ⟨f1, f2, f3⟩ := HC.out _ HB5.out
      have e1 : w5.drew.cell? ⟨w.heap.size, 0, none⟩ = some (.int .i64 x) := f1
      have e2 : w5.drew.cell? ⟨w.heap.size, 1, none⟩ = some (.int .i64 y) := f2
      have e3 : w5.drew.cell? ⟨w.heap.size, 2, none⟩ = some (.bool z) := f3
      have HCQ := hide (copied_any _ R w5.drew (HO5.out.sb.below (Below.refl _ _).drew) (by rw [HRl.out]; omega))
      have HB5D : Hid (Below w5.heap.size w5 w5.drew) := (Below.refl _ _).drew
      have HCW : Hid (∀ wx, Below w5.heap.size w5 wx → wx.cell? ⟨w.heap.size, 0, none⟩ = some (.int .i64 x) ∧ wx.cell? ⟨w.heap.size, 1, none⟩ = some (.int .i64 y) ∧ wx.cell? ⟨w.heap.size, 2, none⟩ = some (.bool z)) := fun wx q => HC.out wx (HB5.out.trans (q.mono HB5.out.size))
      go_wp2
      go_cut [18, 19, 20] (fun s18 s19 s20 wx => s18 = .int .i64 (lr : Int) ∧ s19 = .int .i64 (dr : Int) ∧ s20 = .int .i64 er ∧ Hid (Below w5.heap.size w5 wx))
      case first =>
        go_region_with (first
          | (go_at_call 6; refine HCQ.out.mono ?_; rintro e w6 ⟨a6, c6, rfl, o6, b6⟩; have HO6 := hide o6.sb; have HB6 := hide (HB5D.out.trans (b6.mono HB5D.out.size)); obtain ⟨k1, k2, k3⟩ := HCW.out _ HB6.out; clear o6 b6)
          | (go_at_call 22; refine (HBF.out _ _ HO6.out).mono ?_; rintro e w7 ⟨rfl, b7⟩; have HB7 := hide (HB6.out.trans (b7.mono HB6.out.size)); clear b7))
        all_goals
          go_wp2_with fail
          go_meet
          exact ⟨rfl, rfl, rfl, HB7⟩
      case rest =>
      obtain ⟨rfl, rfl, rfl, HB7⟩ := hcut
      clear e1 e2 e3 f1 f2 f3 HCQ HB5D HCW HBF
      have HU7 := hide (HU5.out.below HB7.out (Nat.le_refl _))
      have HT7 := hide (HT5.out.below HB7.out (Nat.le_refl _))
      have HO7 := hide (HO5.out.below HB7.out (Nat.le_refl _))
      have HB7' := hide (HB5.out.trans (HB7.out.mono HB5.out.size))
      clear HU5 HT5 HO5 HB5 HB7
      have HMA := hide (means_any _ _ L D (D.length : Int) wc HT7.out.sk (HSB.out _ HB7'.out) HQ1.out HQ2.out.symm (by omega))
      go_wp2_with fail
      refine HMA.out.mono ?_
      rintro e w8 ⟨rfl, b8⟩
      have HU8 := hide (HU7.out.below b8 (Nat.le_refl _))
      have HT8 := hide (HT7.out.below b8 (Nat.le_refl _))
      have HO8 := hide (HO7.out.below b8 (Nat.le_refl _))
      have HB8 := hide (HB7'.out.trans (b8.mono HB7'.out.size))
      clear b8 HU7 HT7 HO7 HB7' HMA
      have HMB := hide (means_any _ _ L2 R (R.length : Int) w8 HU8.out.sk HO8.out.sb HQ3.out HQ4.out.symm (by rw [HRl.out]; omega))
      have n1 : ((lr : Int) != (lr : Int)) = false := by simp
      have n2 : ((dr : Int) != (dr : Int)) = false := by simp
      have n3 : (er != er) = false := by simp
      go_wp2_with fail
      refine HMB.out.mono ?_
      rintro e w9 ⟨rfl, b9⟩
      have HT9 := hide (HT8.out.below b9 (Nat.le_refl _))
      have HB9 := hide (HB8.out.trans (b9.mono HB8.out.size))
      clear b9 HU8 HT8 HO8 HB8 HMB
      go_upto_region 14 with fail
      clear n1 n2 n3
      go_cut [138] (fun s138 wx => s138 = .bool false ∧ Hid (∃ n, wx = w9.drewN n))
      case first =>
        by_cases hin : A < D.length
        · obtain ⟨t1, t2, t3⟩ := bE_ok (D := D) (a := (A : Int)) (x := x) (y := y) ⟨hl, HDM.out, by omega, by omega⟩
          rw [← HEB.out] at t1
          rw [← HLB.out, Int.toNat_natCast] at t2
          rw [← HDB.out, Int.toNat_natCast] at t3
          subst t1
          rcases bst_at9 (D := D) (A := A) (x := x.toNat) (y := y.toNat) with hb | ⟨j, hj, hb, hp⟩
          · rw [hb] at t2 t3
            simp only at t2 t3
            clear HLB HDB HEB hb
            subst t2 t3
            go_wp2
            go_meet
            exact ⟨rfl, 0, rfl⟩
          · rw [hb] at t2 t3
            simp only at t2 t3
            have HRN := hide (lrun_any _ D j A w9 (HSB.out _ HB9.out) hj hin (by omega))
            rw [← t2] at HRN hp
            have m1 : (0 : Int) < (lb : Int) := by omega
            have m2 : ¬ (A : Int) < (db : Int) := by omega
            have m3 : (A : Int) - (db : Int) = (j : Int) := by omega
            have m4 : ((lb : Int) != (lb : Int)) = false := by simp
            have m5 : (db : Int) ≤ 16777216 := by omega
            clear HLB HDB HEB hb t2 t3 hp
            go_wp2_with fail
            refine HRN.out.mono ?_
            rintro e w10 ⟨rfl, n10, hw10⟩
            rw [hw10]
            clear hw10
            go_wp2
            go_meet
            exact ⟨rfl, n10, rfl⟩
        · obtain ⟨t1, t2, t3⟩ := bE_bad (D := D) (a := (A : Int)) (x := x) (y := y) (fun q => hin (by have := q.2.2.2; omega))
          rw [← HEB.out] at t1
          subst t1
          clear t2 t3 HLB HDB HEB
          go_wp2
          go_meet
          exact ⟨rfl, 0, rfl⟩
      case rest =>
      obtain ⟨rfl, ⟨n10, hw10⟩⟩ := hcut
      have HT10 : Hid (OK wc w1.heap.size (.slice ta L.length tc) L) := by show OK _ _ _ _; rw [hw10]; exact HT9.out.drewN _
      have HB10 : Hid (Below wb.heap.size wb wc) := by show Below _ _ _; rw [hw10]; exact below_drewN HB9.out _
      clear hw10 HT9 HB9
      by_cases hL0 : L.length = 0
      · have g0 : (L.length : Int) = 0 := by omega
        go_wp2
        go_ret
        exact ⟨rfl, HFI.out _ HB10.out⟩
      have g0 : ¬ (L.length : Int) = 0 := by omega
      have hL1 : 0 < L.length := by omega
      have HTW := hide (twin_any _ L wc HT10.out.sk (by omega))
      go_wp2_with fail
      refine HTW.out.mono ?_
      rintro e w11 ⟨u11, rfl, o11, b11⟩
      obtain ⟨sg, sp, hu11, hsp, hspm⟩ := o11.some hL1
      subst hu11
      have HK11 := hide o11
      have HB11 := hide (HB10.out.trans (b11.mono HB10.out.size))
      have hge : wb.heap.size ≤ sg := Nat.le_trans HB10.out.size (o11.lt sg rfl).1
      have HE8 : Hid (xE (D.length : Int) L = 0) := by show _ = _; rw [xE_in (by omega) (by omega)]; exact HQ1.out
      have HL8 : Hid (xL (D.length : Int) L = D) := by show _ = _; unfold xL; rw [if_pos HE8.out]; exact HQ2.out
      have HEX := hide (expand_any _ L (D.length : Int) w11 o11.sk)
      rw [HE8.out, HL8.out] at HEX
      clear o11 b11 HTW HT10 HB10
      go_wp2_with fail
      refine HEX.out.mono ?_
      rintro e w12 ⟨u12, rfl, o12, b12⟩
      obtain ⟨a12, c12, hu12, _, _⟩ := o12.top
      subst hu12
      have HB12 := hide (HB11.out.trans (b12.mono HB11.out.size))
      have HK12 := hide (HK11.out.below b12 (Nat.le_refl _))
      have HX12 := hide o12
      have hlt12 : sg < w11.heap.size := (HK11.out.lt sg rfl).2
      clear o12 b12 HEX HK11 HB11
      obtain ⟨k1, k2, k3, k4⟩ := HK12.out.cellAt3 (j := 0) hL1
      have k5 := k4 2
      obtain ⟨fl1, fl2, fl3⟩ := ex_flip HQ1.out hL1
      simp only [Nat.zero_mul, Nat.zero_add] at k1 k2 k3
      obtain ⟨zz, HZZ⟩ : ∃ zz, Hid (zz = (L.getD 0 tk0).2.2) := ⟨_, rfl⟩
      rw [← HZZ.out] at k3
      have HEY : Hid (∀ q, Calls Try.prog 9 #[.slice (some ⟨sg, 0, none⟩) L.length sp, .int .i64 (D.length : Int)] (w12.setCell ⟨sg, 2, none⟩ (.int .u8 q)) fun e w' => ∃ u, e = .returned (.tuple #[u, .int .i64 0]) ∧ ∃ R' Y, SK w' (.slice (some ⟨sg, 0, none⟩) L.length sp) R' ∧ SB w' u Y ∧ exE (D.length : Int) [] R' = 0 ∧ Y = exT [] R' ∧ Y.length = D.length ∧ Below wb.heap.size wb w' ∧ SB w' (.slice a12 D.length c12) D) := fun q => by
        have ho := ok_lit q HK12.out hL1
        rw [fl1, fl2] at ho
        have hbel : Below wb.heap.size wb (w12.setCell ⟨sg, 2, none⟩ (.int .u8 q)) := HB12.out.setCell (p := ⟨sg, 2, none⟩) hge _
        have hx : SB (w12.setCell ⟨sg, 2, none⟩ (.int .u8 q)) (.slice a12 D.length c12) D := HX12.out.sb.same fun k hk => setCell_others w12 sg 2 _ k (by have := (HX12.out.lt k hk).1; omega)
        obtain ⟨t1, t2⟩ := fl3 q
        rw [HQ2.out] at t2
        have hE : xE (D.length : Int) (L.set 0 (0, 0, q)) = 0 := by rw [xE_in (by omega) (by omega)]; exact t1
        have hX : xL (D.length : Int) (L.set 0 (0, 0, q)) = exT [] (L.set 0 (0, 0, q)) := by unfold xL; rw [if_pos hE]
        refine (expand_any _ (L.set 0 (0, 0, q)) (D.length : Int) _ ho.sk).mono ?_
        rintro e w' ⟨u, rfl, hu, hb⟩
        rw [hE]
        rw [hX] at hu
        exact ⟨u, rfl, _, _, ho.sk.below hb, hu.sb, t1, rfl, t2, hbel.trans (hb.mono hbel.size), hx.below hb⟩
      clear fl1 fl2 fl3 HK12 k4
      go_wp2_with fail
      refine (HEY.out _).mono ?_
      rintro e w13 ⟨u13, rfl, R', Y, p1, p2, p3, p4, p5, p6, p7⟩
      obtain ⟨ya, yc, hy⟩ := p2.len
      have HP1 := hide p1
      have HP2 := hide p2
      have HP3 := hide p3
      have HP4 := hide p4
      have HP5 := hide p5
      have HP6 := hide p6
      subst hy
      have HSM := hide (same_any _ _ D D w13 p7 (HSB.out _ p6))
      rw [show eqB D D = true from decide_eq_true rfl] at HSM
      clear p1 p2 p3 p4 p5 p6 p7 HEY HB12 HX12 k1 k2 k3 k5
      go_wp2_with fail
      refine HSM.out.mono ?_
      rintro e w14 ⟨rfl, n14, hw14⟩
      have HB14 : Hid (Below w13.heap.size w13 w14) := by show Below _ _ _; rw [hw14]; exact below_drewN (Below.refl _ _) _
      have HB14' : Hid (Below wb.heap.size wb w14) := HP6.out.trans (HB14.out.mono HP6.out.size)
      have HMZ := hide (means_any _ _ R' Y (D.length : Int) w14 (HP1.out.below HB14.out) (HP2.out.below HB14.out) HP3.out HP4.out (by rw [HP5.out]; omega))
      clear hw14 HSM
      go_wp2_with fail
      refine HMZ.out.mono ?_
      rintro e w15 ⟨rfl, b15⟩
      have HB15 := hide (HB14'.out.trans (b15.mono HB14'.out.size))
      clear b15 HMZ
      go_wp2
      go_ret
      exact ⟨rfl, HFI.out _ HB15.out⟩
end Go.Proofs.Ytjdgeonlbjokaaa

