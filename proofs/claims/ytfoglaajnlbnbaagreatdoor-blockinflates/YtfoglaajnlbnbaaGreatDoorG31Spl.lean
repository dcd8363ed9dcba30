import Derived.Test.YtfoglaajnlbnbaaGreatDoorG23Drr
import Derived.Test.YtfoglaajnlbnbaaGreatDoorG21Mk4
import Derived.Test.YtfoglaajnlbnbaaGreatDoorG26Dcd
import Derived.Test.YtfoglaajnlbnbaaGreatDoorG30HerdJ
namespace Go.Proofs.YtfoglaajnlbnbaaGreatDoor
open Go.RowKit Go.Maps
set_option maxRecDepth 20000
set_option linter.unusedVariables false

theorem hput_ok {W w : World} {xs : List ((Nat → Nat) × Thing)} (H : Herd W w xs) (i : Nat) {K : Nat → Nat} {g : Nat} {row : List Int} (hi : xs[i]? = some (K, tw g row)) (v n : Int) (ok : putOk row v n) (hv : 0 ≤ v) (hv1 : v < 4294967296) :
    Calls Tryz.prog 17 #[.pointer (some ⟨g, 0, none⟩), .int .u32 v, .int .i64 n] w fun e w' => e = .returned (.int .i64 0) ∧ ∃ K', Herd W w' (xs.set i (K', tw g (row ++ bts v n.toNat))) := by
  have h := hput H i hi v n hv hv1
  unfold putE putRow at h
  rw [if_pos ok, if_pos ok] at h
  exact h

theorem Herd.init {W w : World} {xs : List ((Nat → Nat) × Thing)} {x : (Nat → Nat) × Thing} (h : Herd W w (xs ++ [x])) : Herd W w xs := by
  have up : ∀ (i : Nat) d, xs[i]? = some d → (xs ++ [x])[i]? = some d := fun i d hd => by
    rw [List.getElem?_append_left (List.getElem?_eq_some_iff.1 hd).1]; exact hd
  exact ⟨h.bel, fun i d hd => h.rep i d (up i d hd), fun i d hd => h.up i d (up i d hd), fun i j d e hd he => h.sep i j d e (up i d hd) (up j e he)⟩

theorem Herd.boxed {W w : World} {xs : List ((Nat → Nat) × Thing)} (h : Herd W w xs) (o : Obj) : ∃ K, Herd W (w.alloc o) (xs ++ [(K, tb w.heap.size o)]) := by
  refine ⟨fun k => if k = w.heap.size then 1 else 0, h.push ((Below.refl _ _).alloc (Nat.le_refl _) _) ⟨heap_alloc_new w _, by simp, fun k hk => ?_⟩ fun k hk => ?_⟩
  · by_cases e : k = w.heap.size
    · subst e; simp
    · simp [e] at hk
  · by_cases e : k = w.heap.size
    · omega
    · simp [e] at hk

theorem okr_fit {s : Nat} {c : Int} (h : Okr ((s : Int), c)) : 0 ≤ c - lst s ∧ c - lst s < 2 ^ frt s ∧ frt s ≤ 7 ∧ 0 ≤ c ∧ c ≤ 138 := by
  obtain ⟨h1, h2, h3, h4⟩ := h
  simp only at h1 h2 h3 h4
  by_cases q : s < 16
  · have e1 : lst s = 1 := by unfold lst; rw [if_pos (by omega)]
    have e2 : frt s = 0 := by unfold frt; rw [if_pos (by omega)]
    have e3 : mst s = 1 := by unfold mst; rw [if_pos (by omega)]
    rw [e1] at h3
    rw [e3] at h4
    rw [e1, e2]
    exact ⟨by omega, by show c - 1 < 1; omega, by omega, by omega, by omega⟩
  · obtain q | q | q : s = 16 ∨ s = 17 ∨ s = 18 := by omega
    · subst q
      have h3' : (3 : Int) ≤ c := h3
      have h4' : c ≤ 6 := h4
      exact ⟨by show 0 ≤ c - 3; omega, by show c - 3 < 4; omega, by decide, by omega, by omega⟩
    · subst q
      have h3' : (3 : Int) ≤ c := h3
      have h4' : c ≤ 10 := h4
      exact ⟨by show 0 ≤ c - 3; omega, by show c - 3 < 8; omega, by decide, by omega, by omega⟩
    · subst q
      have h3' : (11 : Int) ≤ c := h3
      have h4' : c ≤ 138 := h4
      exact ⟨by show 0 ≤ c - 11; omega, by show c - 11 < 128; omega, by decide, by omega, by omega⟩

theorem heput_ok {W w : World} {xs : List ((Nat → Nat) × Thing)} (H : Herd W w xs) (i j : Nat) {K Kw : Nat → Nat} {g r : Nat} {l row : List Int} (hi : xs[i]? = some (K, te g l)) (hj : xs[j]? = some (Kw, tw r row)) (s : Nat) (hs : s < 19) (hl : l.length = 19) (h1 : 0 < l.getD s 0) (h2 : l.getD s 0 ≤ 7) (hr : row.length ≤ 100000) :
    Calls Tryz.prog 56 #[.pointer (some ⟨g, 0, none⟩), .pointer (some ⟨r, 0, none⟩), .int .i64 s] w fun e w' => e = .returned (.int .i64 0) ∧ ∃ K', Herd W w' (xs.set j (K', tw r (row ++ (bts (wd l s) (ln l s)).reverse))) := by
  have h := heput H i j hi hj (s : Int) (by omega) (by omega)
  have e0 : lnI l (s : Int) = ln l s := by unfold lnI; rw [if_pos ⟨by omega, by omega⟩]; rfl
  have e1 : ln l s ≠ 0 ∧ ln l s ≤ 7 := by unfold ln; omega
  have e2 : epE l row s = 0 := by unfold epE; rw [e0, if_neg e1.1, if_pos (by omega)]
  have e3 : epR l row s = row ++ (bts (wd l s) (ln l s)).reverse := by unfold epR; rw [if_pos e2]; rfl
  rw [e2, e3] at h
  exact h

theorem Herd.two {W w : World} {a b c d : (Nat → Nat) × Thing} (h : Herd W w (List.set [a, b, c] 0 d)) : Herd W w [d, b] := Herd.init (xs := [d, b]) (x := c) h

theorem spl_last {W w : World} {K6 KE : Nat → Nat} {B : (Nat → Nat) × Thing} {g gE : Nat} {C q6 q' : List Int} (H : Herd W w [(K6, tw g q6), (KE, te gE C), B]) {c A : Int} {F : Nat} (f1 : 0 ≤ c - A) (f2 : c - A < 2 ^ F) (f3 : F ≤ 7) (hA : 1 ≤ A ∧ A ≤ 11) (f5 : c ≤ 138) (hq : q6.length ≤ 20000) (hq' : q' = q6 ++ bts (c - A) F) :
    Calls Tryz.prog 17 #[.pointer (some ⟨g, 0, none⟩), .int .u32 (IntKind.u32.wrap (IntKind.i64.wrap (c - A))), .int .i64 (F : Nat)] w.drew fun e w' => e = .returned (.int .i64 0) ∧ ∃ K', Herd W w' [(K', tw g q'), (KE, te gE C)] := by
  have e1 : IntKind.i64.wrap (c - A) = c - A := by rw [IntKind.wrap_i64]; omega
  rw [e1, IntWalk.u32_in (c - A) ⟨by omega, by omega⟩, hq']
  have H1 : Herd W w.drew [(K6, tw g q6), (KE, te gE C), B] := H.drewN 1
  have h := hput_ok H1 0 rfl (c - A) (F : Nat) ⟨⟨⟨by omega, by omega⟩, by rw [Int.toNat_natCast]; exact f2⟩, by omega⟩ (by omega) (by omega)
  rw [Int.toNat_natCast] at h
  exact h.mono fun e w' ⟨he, K', h'⟩ => ⟨he, K', Herd.two h'⟩

set_option maxHeartbeats 4000000 in
theorem spell_any (aL aD aC aR : Option Addr) (cL cD cC cR : Nat) (Z : Int) (L D C : List Int) (R : List Rn) (w : World) (hC : SI w (.slice aC C.length cC) C) (hR : SR w (.slice aR R.length cR) R) (T : Tab w) (O : Odr w) (h19 : C.length = 19) (hb : ∀ s, 0 ≤ C.getD s 0 ∧ C.getD s 0 ≤ 7) (hok : ∀ r ∈ R, Okr r) (hnz : ∀ r ∈ R, C.getD r.1.toNat 0 ≠ 0) (hbk : bkE C = 0) (hn : R.length ≤ 316) (l1 : 257 ≤ L.length) (l2 : L.length ≤ 286) (d1 : 1 ≤ D.length) (d2 : D.length ≤ 30) :
    Calls Tryz.prog 97 #[.agg #[.slice aL L.length cL, .slice aD D.length cD, .slice aC C.length cC, .slice aR R.length cR, .int .i64 Z]] w fun e w' => ∃ g K, e = .returned (.pointer (some ⟨g, 0, none⟩)) ∧ Wp w' K g (hdB L D C R) ∧ (∀ k, K k ≠ 0 → w.heap.size ≤ k) ∧ Below w.heap.size w w' := by
  have HC := hide hC
  have HR := hide hR
  have HT := hide T
  have HO := hide O
  have HOK := hide hok
  have HNZ := hide hnz
  have HBD := hide hb
  have HBK := hide hbk
  have H19 := hide h19
  have HC0 : Hid (∀ W, Below w.heap.size w W → ∀ k, k < 19 → ∃ b o, aC = some ⟨b, o, none⟩ ∧ W.cell? ⟨b, o + k, none⟩ = some (.int .i64 (C.getD k 0))) := fun W hW k hk => HC.out.get hW (by rw [H19.out]; exact hk)
  have HW0 : Hid (∀ W, Below w.heap.size w W → Calls Tryz.prog 148 #[.slice aC 19 cC] W fun e w' => e = .returned (.int .i64 (wrt C : Nat)) ∧ w' = W) := fun W hW => by
    have := written_any _ C W (HC.out.below hW) (HO.out.mono hW) H19.out
    rwa [H19.out] at this
  have HSC : Hid (SI w (.slice aC 19 cC) C) := by rw [← H19.out]; exact hide hC
  rw [h19]
  clear hC hR T O hok hnz hb hbk h19
  obtain ⟨wb, hwb⟩ : ∃ wb, w.alloc (.cells #[.slice aL L.length cL, .slice aD D.length cD, .slice aC 19 cC, .slice aR R.length cR, .int .i64 Z] 129) = wb := ⟨_, rfl⟩
  have hb0 : Below w.heap.size w wb := by rw [← hwb]; exact (Below.refl _ _).alloc (Nat.le_refl _) _
  have hbx : Hbox wb w.heap.size (.slice aL L.length cL) (.slice aD D.length cD) (.slice aC 19 cC) (.slice aR R.length cR) (.int .i64 Z) := by rw [← hwb]; exact heap_alloc_new w _
  have HB0 := hide hb0
  have HBX := hide hbx
  have HWB := hide hwb
  have hw4 := wrt_ge C
  have hw19 := wrt_le C
  clear hwb hb0 hbx
  go_enter Tryz.func97, Tryz.ntmps97
  go_wp2_with fail
  rw [HWB.out]
  refine (hnewW (Herd.nil wb)).mono ?_
  rintro e w1 ⟨g, K1, rfl, H1⟩
  have HH1 := hide H1
  have HB1 := hide (HB0.out.trans (H1.bel.mono HB0.out.size))
  obtain ⟨x0, x1, x2, x3, x4⟩ := (HBX.out.below H1.bel).cells
  obtain ⟨W, HW⟩ : ∃ W, Hid (W = wrt C) := ⟨_, rfl⟩
  have HWR := hide (HW0.out w1 HB1.out)
  rw [← HW.out] at HWR hw4 hw19
  clear H1
  go_wp2_with fail
  refine HWR.out.mono ?_
  rintro e w2 ⟨rfl, hw2⟩
  rw [hw2]
  clear hw2
  have HP1 := hide (hput_ok HH1.out 0 rfl ((L.length : Int) - 257) 5 ⟨by unfold Fit Cnt; exact ⟨by omega, by show _ < (2 : Int) ^ 5; omega⟩, by simp⟩ (by omega) (by omega))
  go_wp2_with fail
  refine HP1.out.mono ?_
  rintro e w3 ⟨rfl, K2, H2⟩
  obtain ⟨q1, HQ1⟩ : ∃ q1, Hid (q1 = ([] : List Int) ++ bts ((L.length : Int) - 257) 5) := ⟨_, rfl⟩
  have HH2 : Hid (Herd wb w3 [(K2, tw g q1)]) := by rw [HQ1.out]; exact hide H2
  have hq1 : q1.length = 5 := by rw [HQ1.out, List.length_append, length_bts]; rfl
  have HB2 := hide (HB0.out.trans (H2.bel.mono HB0.out.size))
  clear x0 x1 x2 x3 x4
  obtain ⟨x0, x1, x2, x3, x4⟩ := (HBX.out.below H2.bel).cells
  clear H2
  have HP2 := hide (hput_ok HH2.out 0 rfl ((D.length : Int) - 1) 5 ⟨by unfold Fit Cnt; exact ⟨by omega, by show _ < (2 : Int) ^ 5; omega⟩, by rw [hq1]; omega⟩ (by omega) (by omega))
  go_wp2_with fail
  refine HP2.out.mono ?_
  rintro e w4 ⟨rfl, K3, H3⟩
  obtain ⟨q2, HQ2⟩ : ∃ q2, Hid (q2 = q1 ++ bts ((D.length : Int) - 1) 5) := ⟨_, rfl⟩
  have HH3 : Hid (Herd wb w4 [(K3, tw g q2)]) := by rw [HQ2.out]; exact hide H3
  have hq2 : q2.length = 10 := by rw [HQ2.out, List.length_append, length_bts]; omega
  have HB3 := hide (HB0.out.trans (H3.bel.mono HB0.out.size))
  clear x0 x1 x2 x3 x4
  obtain ⟨x0, x1, x2, x3, x4⟩ := (HBX.out.below H3.bel).cells
  clear H3
  have HP3 := hide (hput_ok HH3.out 0 rfl ((W : Int) - 4) 4 ⟨by unfold Fit Cnt; exact ⟨by omega, by show _ < (2 : Int) ^ 4; omega⟩, by rw [hq2]; omega⟩ (by omega) (by omega))
  go_wp2_with fail
  refine HP3.out.mono ?_
  rintro e w5 ⟨rfl, K4, H4⟩
  obtain ⟨q3, HQ3⟩ : ∃ q3, Hid (q3 = q2 ++ bts ((W : Int) - 4) 4) := ⟨_, rfl⟩
  have HH4 : Hid (Herd wb w5 [(K4, tw g q3)]) := by rw [HQ3.out]; exact hide H4
  have hq3 : q3.length = 14 := by rw [HQ3.out, List.length_append, length_bts]; omega
  have HB4 := hide (HB0.out.trans (H4.bel.mono HB0.out.size))
  clear x0 x1 x2 x3 x4
  obtain ⟨x0, x1, x2, x3, x4⟩ := (HBX.out.below H4.bel).cells
  clear H4
  go_wp2
  go_loopw [34] (fun i wr => ∃ (k : Nat) (K : Nat → Nat), k ≤ W ∧ i = .int .i64 k ∧ Hid (Herd wb wr [(K, tw g (q3 ++ hdS C k))])) (fun i _ => W - (intOf i).toNat)
  case atStart => exact ⟨0, K4, Nat.zero_le _, rfl, by show Herd _ _ _; simp only [hdS, List.append_nil]; exact HH4.out⟩
  case round =>
    obtain ⟨k, K, hk, rfl, HHk⟩ := hrel
    have HBk := hide (HB0.out.trans (HHk.out.bel.mono HB0.out.size))
    obtain ⟨y0, y1, y2, y3, y4⟩ := (HBX.out.below HHk.out.bel).cells
    by_cases hlt : k < W
    · have hlt' : (k : Int) < (W : Int) := by omega
      have hk19 : (k : Int) < 19 := by omega
      have o1 := (HO.out.mono HBk.out).get k (by omega)
      have o2 := zor_at k (by omega)
      have HST : Hid (hdS C (k + 1) = hdS C k ++ bts (C.getD (zor.getD k 0).toNat 0) 3) := rfl
      obtain ⟨z', hz⟩ : ∃ z', z' = zor.getD k 0 := ⟨_, rfl⟩
      rw [← hz] at o1 o2 HST
      obtain ⟨z, rfl⟩ := Int.eq_ofNat_of_zero_le o2.1
      rw [Int.toNat_natCast] at HST
      have hz19 : z < 19 := by omega
      have hz19' : (z : Int) < 19 := by omega
      obtain ⟨bC, qC, eC, cz⟩ := HC0.out _ HBk.out z hz19
      subst eC
      have h7 := HBD.out z
      obtain ⟨Y, HY⟩ : ∃ Y, Hid (Y = C.getD z 0) := ⟨_, rfl⟩
      rw [← HY.out] at cz h7 HST
      have hy1 : 0 ≤ Y := h7.1
      have hy2 : Y ≤ 7 := h7.2
      have hrl : (q3 ++ hdS C k).length ≤ 100 := by rw [List.length_append, hdS_len, hq3]; omega
      have HPK : Hid (Calls Tryz.prog 17 #[.pointer (some ⟨g, 0, none⟩), .int .u32 (IntKind.u32.wrap Y), .int .i64 3] wr.drew fun e w' => e = .returned (.int .i64 0) ∧ ∃ K', Herd wb w' [(K', tw g (q3 ++ hdS C (k + 1)))]) := by
        rw [HST.out, ← List.append_assoc, IntWalk.u32_in Y ⟨by omega, by omega⟩]
        exact hide (hput_ok (HHk.out.drewN 1) 0 rfl Y 3 ⟨by unfold Fit Cnt; exact ⟨by omega, by show _ < (2 : Int) ^ 3; omega⟩, by omega⟩ (by omega) (by omega))
      clear hz o2 h7
      go_wp2
      go_region_with (go_at_call 17; refine HPK.out.mono ?_; rintro e w9 ⟨rfl, K9, H9⟩; have HH9 := hide H9; clear H9)
      all_goals
        go_wp2
        go_roundw
        case rel => exact ⟨k + 1, K9, by omega, by go_num, HH9⟩
        case measure => simp [intOf]; omega
    · obtain rfl : W = k := by omega
      have hlt' : ¬ (W : Int) < (W : Int) := by omega
      obtain ⟨q4, HQ4⟩ : ∃ q4, Hid (q4 = q3 ++ hdS C W) := ⟨_, rfl⟩
      rw [← HQ4.out] at HHk
      have hq4 : q4.length ≤ 100 := by rw [HQ4.out, List.length_append, hdS_len, hq3]; omega
      have HEN := hide (hencode HHk.out _ C (HSC.out.below HBk.out))
      clear x0 x1 x2 x3 x4
      go_wp2_with fail
      refine HEN.out.mono ?_
      rintro e w10 (⟨hne, _⟩ | ⟨_, gE, KE, rfl, HE⟩)
      · exact absurd HBK.out hne
      have HHE : Hid (Herd wb w10 [(K, tw g q4), (KE, te gE C)]) := hide HE
      have HBE := hide (HB0.out.trans (HE.bel.mono HB0.out.size))
      obtain ⟨x0, x1, x2, x3, x4⟩ := (HBX.out.below HE.bel).cells
      clear y0 y1 y2 y3 y4 HE
      have HHI : Hid (Herd wb w10 [(K, tw g (q4 ++ hdR C (R.take 0))), (KE, te gE C)]) := by show Herd _ _ _; simp only [List.take_zero, hdR, List.append_nil]; exact HHE.out
      go_wp2
      go_loopw [57] (fun i wr => ∃ (k : Nat) (K : Nat → Nat), k ≤ R.length ∧ i = .int .i64 k ∧ Hid (Herd wb wr [(K, tw g (q4 ++ hdR C (R.take k))), (KE, te gE C)])) (fun i _ => R.length - (intOf i).toNat)
      case atStart => exact ⟨0, K, Nat.zero_le _, rfl, HHI⟩
      case round =>
        obtain ⟨k, K5, hk, rfl, HHk2⟩ := hrel
        have HBk2 := hide (HB0.out.trans (HHk2.out.bel.mono HB0.out.size))
        clear x0 x1 x2 x3 x4
        by_cases hlt : k < R.length
        · have hlt' : (k : Int) < (R.length : Int) := by omega
          obtain ⟨b, o, hab, c1, c2⟩ := HR.out.get HBk2.out hlt
          subst hab
          have hmem : R.getD k rn0 ∈ R := by rw [show R.getD k rn0 = R[k] by simp [hlt]]; exact List.getElem_mem hlt
          have ok : Okr (R.getD k rn0) := HOK.out _ hmem
          have hnz := HNZ.out _ hmem
          have HSN : Hid (R.take (k + 1) = R.take k ++ [R.getD k rn0]) := by show _ = _; rw [List.take_succ_eq_append_getElem hlt]; simp [hlt]
          obtain ⟨r, hr⟩ : ∃ r, r = R.getD k rn0 := ⟨_, rfl⟩
          rw [← hr] at c1 c2 ok HSN hnz
          obtain ⟨s', c⟩ := r
          have hk1 := ok.1
          have hk2 := ok.2.1
          simp only at c1 c2 hk1 hk2 hnz
          obtain ⟨s, rfl⟩ := Int.eq_ofNat_of_zero_le hk1
          rw [Int.toNat_natCast] at hnz
          have hs : s < 19 := by omega
          have hs' : (s : Int) < 19 := by omega
          have h7 := HBD.out s
          have HRN : Hid (hdR C (R.take (k + 1)) = hdR C (R.take k) ++ ((bts (wd C s) (ln C s)).reverse ++ bts (c - lst s) (frt s))) := by show _ = _; rw [HSN.out, hdR_snoc]; rfl
          obtain ⟨f1, f2, f3, f4, f5⟩ := okr_fit ok
          have hrz := rsz_bound (C := C) (fun s => ⟨(HBD.out s).1, by have := (HBD.out s).2; omega⟩) (R.take k)
          have hrl : (R.take k).length ≤ 316 := by rw [List.length_take]; omega
          have hdl := hdR_len (fun s => (HBD.out s).1) (R.take k)
          have hrow : (q4 ++ hdR C (R.take k)).length ≤ 10000 := by rw [List.length_append]; omega
          obtain ⟨wx, HWX⟩ : ∃ wx, Hid (wr.alloc (.cells #[.int .i64 s, .int .i64 c] 182) = wx) := ⟨_, rfl⟩
          obtain ⟨KB, hbox⟩ := HHk2.out.boxed (.cells #[.int .i64 s, .int .i64 c] 182)
          have HX5 : Hid (Herd wb wx [(K5, tw g (q4 ++ hdR C (R.take k))), (KE, te gE C), (KB, tb wr.heap.size (.cells #[.int .i64 s, .int .i64 c] 182))]) := by rw [← HWX.out]; exact hide hbox
          have z0 : wx.cell? ⟨wr.heap.size, 0, none⟩ = some (.int .i64 s) := by have := (HX5.out.rep 2 _ rfl).1; unfold World.cell?; rw [this]; rfl
          have HEP := hide (heput_ok HX5.out 1 0 rfl rfl s hs H19.out (by omega) h7.2 (by omega))
          clear hbox hr ok hk1 hk2 h7 hrz hdl hmem hnz
          go_wp2_with fail
          rw [HWX.out]
          refine HEP.out.mono ?_
          rintro e w11 ⟨rfl, K6, H6⟩
          obtain ⟨q6, HQ6⟩ : ∃ q6, Hid (q6 = q4 ++ hdR C (R.take k) ++ (bts (wd C s) (ln C s)).reverse) := ⟨_, rfl⟩
          have HH6 : Hid (Herd wb w11 [(K6, tw g q6), (KE, te gE C), (KB, tb wr.heap.size (.cells #[.int .i64 s, .int .i64 c] 182))]) := by rw [HQ6.out]; exact hide H6
          have HB6 := hide (HB0.out.trans (H6.bel.mono HB0.out.size))
          have y0 : w11.cell? ⟨wr.heap.size, 0, none⟩ = some (.int .i64 s) := by have := (HH6.out.rep 2 _ rfl).1; unfold World.cell?; rw [this]; rfl
          have y1 : w11.cell? ⟨wr.heap.size, 1, none⟩ = some (.int .i64 c) := by have := (HH6.out.rep 2 _ rfl).1; unfold World.cell?; rw [this]; rfl
          have t0 := (HT.out.mono HB6.out).least s hs
          have t1 := (HT.out.mono HB6.out).further s hs
          clear H6 z0 c1 c2
          obtain ⟨A, HA⟩ : ∃ A, Hid (A = lst s) := ⟨_, rfl⟩
          obtain ⟨F, HF⟩ : ∃ F, Hid (F = frt s) := ⟨_, rfl⟩
          rw [← HA.out] at t0 f1 f2 HRN
          rw [← HF.out] at t1 f2 f3 HRN
          have hA : 1 ≤ A ∧ A ≤ 11 := by rw [HA.out]; unfold lst; split <;> (try split) <;> omega
          have hln : ln C s ≤ 7 := by unfold ln; have := (HBD.out s).2; omega
          have hq6 : q6.length ≤ 20000 := by rw [HQ6.out, List.length_append, List.length_reverse, length_bts]; omega
          have HPK2 : Hid (Calls Tryz.prog 17 #[.pointer (some ⟨g, 0, none⟩), .int .u32 (IntKind.u32.wrap (IntKind.i64.wrap (c - A))), .int .i64 (F : Nat)] w11.drew fun e w' => e = .returned (.int .i64 0) ∧ ∃ K', Herd wb w' [(K', tw g (q4 ++ hdR C (R.take (k + 1)))), (KE, te gE C)]) := by
            exact hide (spl_last HH6.out f1 f2 f3 hA f5 hq6 (by rw [HRN.out, ← List.append_assoc, ← List.append_assoc, ← HQ6.out]))
          go_wp2
          go_region_with (go_at_call 17; refine HPK2.out.mono ?_; rintro e w9 ⟨rfl, K9, H9⟩; have HH9 := hide H9; clear H9)
          all_goals
            go_wp2
            go_roundw
            case rel => exact ⟨k + 1, K9, by omega, by go_num, HH9⟩
            case measure => simp [intOf]; omega
        · obtain rfl : k = R.length := by omega
          have hlt' : ¬ (R.length : Int) < (R.length : Int) := by omega
          have HFIN : Hid (Wp wr K5 g (hdB L D C R)) := by
            have h := HHk2.out.rep 0 _ rfl
            have e : q4 ++ hdR C (R.take R.length) = hdB L D C R := by
              rw [List.take_of_length_le (Nat.le_refl _), HQ4.out, HQ3.out, HQ2.out, HQ1.out, HW.out]
              unfold hdB
              rw [List.nil_append]
            rw [← e]
            exact hide h
          have HUP : Hid (∀ k, K5 k ≠ 0 → w.heap.size ≤ k) := fun k hk => by
            have := HHk2.out.up 0 _ rfl k hk
            have := HB0.out.size
            omega
          go_wp2
          go_ret
          exact ⟨g, rfl, K5, HFIN.out, HUP.out, HBk2.out⟩
end Go.Proofs.YtfoglaajnlbnbaaGreatDoor

