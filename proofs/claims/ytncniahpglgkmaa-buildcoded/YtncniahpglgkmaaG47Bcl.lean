import Derived.Test.YtncniahpglgkmaaG46Bcw
namespace Go.Proofs.Ytncniahpglgkmaa
open Go.RowKit Go.Maps
set_option maxRecDepth 20000
set_option linter.unusedVariables false
set_option linter.unusedSimpArgs false

/-- The program's own Cost of a good list. -/
theorem cost_gd {f n : List Int} {lim : Int} (hs : Sound f) (h : Gd f n lim) (vf vn : Value) (w : World) (hf : SI w vf f) (hn : SI w vn n) :
    Calls Try.prog 9 #[vf, vn] w fun e w' => e = .returned (.tuple #[.int .i64 ((fl (fq f) (nn n) (us6 f) : Nat) : Int), .int .i64 0]) ∧ ∃ q, w' = w.drewN q := by
  have := cost_any vf vn f n w hf hn
  have e1 : cstE f n = 0 := by
    unfold cstE
    rw [if_neg, if_neg (by rw [bnb_iff.2 hs.ok]; decide)]
    rintro (q | q | q)
    · have := hs.len; omega
    · exact q h.len
    · have hb : bnb n 288 = true := bnb_iff.2 fun i hi => by have := h.at hs i; omega
      rw [hb] at q
      cases q
  have e2 : cstV f n = ((fl (fq f) (nn n) (us6 f) : Nat) : Int) := by
    unfold cstV
    rw [if_pos e1, cs_fl hs f.length (fun s hm => by have := h.ok s hm; omega)]
    rfl
  rw [e1, e2] at this
  exact this

/-- The lengths of another code, for the used symbols alone. -/
def oth (f o : List Int) (k : Nat) : List Int := (List.range k).map fun s => if 0 < f.getD s 0 then o.getD s 0 else 0

theorem oth_len (f o : List Int) (k : Nat) : (oth f o k).length = k := by simp [oth]
theorem oth_get (f o : List Int) {k s : Nat} (h : s < k) : (oth f o k).getD s 0 = if 0 < f.getD s 0 then o.getD s 0 else 0 := by
  unfold oth
  rw [List.getD_eq_getElem?_getD, List.getElem?_map, List.getElem?_range h]
  rfl
theorem oth_succ (f o : List Int) (k : Nat) : oth f o (k + 1) = oth f o k ++ [if 0 < f.getD k 0 then o.getD k 0 else 0] := by
  unfold oth
  rw [List.range_succ, List.map_append]
  rfl

theorem oth_gd {f o : List Int} {L : Nat} (hs : Sound f) (h2 : 2 ≤ (us6 f).length) (hk : krV f o L = 1152921504606846976) : Gd f (oth f o f.length) L := by
  have hlen : o.length = f.length := by
    unfold krV at hk
    by_cases c : o.length = f.length
    · exact c
    · rw [if_pos c] at hk; cases hk
  have hst : ∃ s, kst f o L f.length = some s ∧ (s : Int) = 1152921504606846976 := by
    unfold krV at hk
    rw [if_neg (fun q => q hlen)] at hk
    cases e : kst f o L f.length with
    | none => rw [e] at hk; cases hk
    | some s => rw [e] at hk; exact ⟨s, rfl, hk⟩
  obtain ⟨s, e1, e2⟩ := hst
  obtain ⟨k1, k2, k3⟩ := kst_some hs.nn e1
  have hget : ∀ q ∈ us6 f, (oth f o f.length).getD q 0 = o.getD q 0 := fun q hq => by
    obtain ⟨q1, q2⟩ := mem_us.1 hq
    rw [oth_get f o q1, if_pos q2]
  refine ⟨oth_len f o _, fun q hq h0 => by rw [oth_get f o hq, if_neg (by omega)], fun q hq => by rw [hget q hq]; exact k2 q hq, fun h1 => by omega, fun _ => ?_⟩
  have : kr (nn (oth f o f.length)) (us6 f) = kS f o f.length := by
    unfold kS kr
    refine congrArg List.sum (List.map_congr_left fun q hq => ?_)
    unfold nn
    rw [hget q hq]
  rw [this, ← k1]
  omega

theorem i64_at {l : List Int} (h : ∀ x ∈ l, -9223372036854775808 ≤ x ∧ x ≤ 9223372036854775807) (i : Nat) : -9223372036854775808 ≤ l.getD i 0 ∧ l.getD i 0 ≤ 9223372036854775807 := by
  rw [List.getD_eq_getElem?_getD]
  cases e : l[i]? with
  | none => simp
  | some x => exact h x (List.mem_of_getElem? e)

set_option maxHeartbeats 8000000 in
theorem buildCoded_walk (vt vo : Value) (t o : List Int) (lim : Int) (W : World) (ht : SB W vt t) (hB : Byt t) (ho : SI W vo o) (ho64 : ∀ i, -9223372036854775808 ≤ o.getD i 0 ∧ o.getD i 0 ≤ 9223372036854775807) (hlim : -9223372036854775808 ≤ lim ∧ lim ≤ 9223372036854775807) :
    Calls Try.prog 3 #[vt, .int .i64 lim, vo] W fun e w' => e = .returned (.bool true) ∧ Below W.heap.size W w' := by
  have HS := hide ht
  have HSO := hide ho
  have HBY := hide hB
  have HO64 := hide ho64
  obtain ⟨ao, cap, rfl, hlc, hcm, -⟩ := ht
  obtain ⟨aoo, capo, rfl, hlco, hcmo⟩ := ho.open
  unfold maxLen at hcm
  clear ho hB ho64
  obtain ⟨T, HT⟩ : ∃ T : Nat, Hid (T = t.length) := ⟨_, rfl⟩
  obtain ⟨M, HM⟩ : ∃ M : Nat, Hid (M = o.length) := ⟨_, rfl⟩
  have HST : Hid (SB W (.slice ao T cap) t) := by rw [HT.out]; exact HS
  have HSM : Hid (SI W (.slice aoo M capo) o) := by rw [HM.out]; exact HSO
  rw [← HT.out] at hlc ⊢
  rw [← HM.out] at hlco ⊢
  clear HS HSO
  by_cases c0 : 16777216 < (T : Int)
  · go_enter Try.func3, Try.ntmps3
    go_wp2
    go_ret
    exact ⟨rfl, Below.refl _ _⟩
  by_cases c1 : lim < 1
  · go_enter Try.func3, Try.ntmps3
    go_wp2
    go_ret
    exact ⟨rfl, Below.refl _ _⟩
  by_cases c2 : 15 < lim
  · go_enter Try.func3, Try.ntmps3
    go_wp2
    go_ret
    exact ⟨rfl, Below.refl _ _⟩
  obtain ⟨L, rfl⟩ : ∃ L : Nat, lim = L := ⟨lim.toNat, by omega⟩
  have hL : 1 ≤ L ∧ L ≤ 15 := by omega
  have HT24 : Hid (t.length ≤ 16777216) := by show _ ≤ _; rw [← HT.out]; omega
  have HSND := hide (cts_sound HT24.out)
  have HTB : Hid (∀ x ∈ t, 0 ≤ x ∧ x < 256) := fun x hx => by
    obtain ⟨i, hi⟩ := List.getElem?_of_mem hx
    have := HBY.out i
    rwa [List.getD_eq_getElem?_getD, hi] at this
  obtain ⟨f, HF⟩ : ∃ f, Hid (f = cts t) := ⟨_, rfl⟩
  have HFL : Hid (f.length = 256) := by show _ = _; rw [HF.out]; exact cts_len t
  rw [← HF.out] at HSND
  obtain ⟨p, hp⟩ : ∃ p, p = 2 ^ L := ⟨_, rfl⟩
  obtain ⟨p1, p2, p3, p4⟩ := pow15 hL.2 hp
  have HPP := hide hp
  clear hp
  have hlim2 : ((L : Int) ≤ 9223372036854775807 ∧ -9223372036854775808 ≤ (L : Int)) := by omega
  have HCT := hide (counts_any _ t W HST.out HBY.out HT24.out)
  rw [← HF.out] at HCT
  have hul := us_le6 (l := f)
  obtain ⟨u, HU⟩ : ∃ u, Hid (u = (us6 f).length) := ⟨_, rfl⟩
  have hu256 : u ≤ 256 := by rw [HU.out]; rw [HFL.out] at hul; exact hul
  clear hul
  go_enter Try.func3, Try.ntmps3
  go_wp2_with fail
  refine HCT.out.mono ?_
  rintro e w1 ⟨a1, q1, rfl, ho1, hb1⟩
  have HO1 := hide ho1
  have HB1 := hide hb1
  have HUC := hide (uses_any _ f w1 (show SI w1 (.slice a1 256 q1) f from ho1.sb) HSND.out.len)
  rw [← HU.out] at HUC
  clear ho1 hb1 HCT
  go_wp2_with fail
  refine HUC.out.mono ?_
  rintro e w2 ⟨rfl, hw2⟩
  rw [hw2]
  clear hw2 HUC
  by_cases h60 : p < u
  · have h60' : (p : Int) < (u : Int) := by omega
    go_wp2
    go_ret
    exact ⟨rfl, HB1.out⟩
  have h60' : ¬ (p : Int) < (u : Int) := by omega
  have HU2 : Hid ((us6 f).length ≤ 2 ^ L) := by show _ ≤ _; rw [← HU.out, ← HPP.out]; omega
  have HG := hide (gd_lmt HSND.out hL HU2.out)
  have HCD := hide (gd_code HSND.out hL.2 HG.out)
  have HOK : Hid (∀ (l : List Int), (∀ s ∈ us6 f, lnI l (s : Int) ≠ 0) → ∀ x ∈ t, lnI l x ≠ 0) := fun l h x hx => by
    have h1 := us6_mem HTB.out hx
    rw [← HF.out] at h1
    have h2 := h _ h1
    rwa [show ((x.toNat : Nat) : Int) = x by have := HTB.out x hx; omega] at h2
  have HNE : Hid (t ≠ [] → us6 f ≠ []) := fun hne e => by
    cases t with
    | nil => exact hne rfl
    | cons x r =>
      have h1 := us6_mem HTB.out (List.mem_cons_self (a := x) (l := r))
      rw [← HF.out, e] at h1
      cases h1
  have HCP := hide (copied_any _ f w1 (show SI w1 (.slice a1 256 q1) f from HO1.out.sb) (by rw [HFL.out]; omega))
  rw [HFL.out] at HCP
  go_wp2_with fail
  refine HCP.out.mono ?_
  rintro e w3 ⟨a3, q3, rfl, ho3, hb3⟩
  have HB3 := hide hb3
  have HB03 := hide (HB1.out.trans (hb3.mono HB1.out.size))
  have hne3 : ∀ k, (Value.slice a3 256 q3).ownBlock = some k → k < w3.heap.size := fun k hk => (ho3.lt k hk).2
  have HLM := hide (limited_ok HSND.out hL HU2.out _ w3 ho3.sb hne3)
  rw [HFL.out] at HLM
  clear ho3 hb3 hne3 HCP
  go_wp2_with fail
  refine HLM.out.mono ?_
  rintro e w4 ⟨a4, q4, rfl, ho4, hb4⟩
  obtain ⟨l, HLL⟩ : ∃ l, Hid (l = lmt f L) := ⟨_, rfl⟩
  rw [← HLL.out] at ho4 HG HCD
  have HL256 : Hid (l.length = 256) := by show _ = _; rw [HG.out.len]; exact HFL.out
  have HO4 := hide ho4
  have HB4 := hide hb4
  have HB04 := hide (HB03.out.trans (hb4.mono HB03.out.size))
  have HB14 := hide (HB3.out.trans (hb4.mono HB3.out.size))
  clear ho4 hb4 HLM
  have HGG := hide (good_gd _ _ f l L w4 (HO1.out.sb.below HB14.out) HO4.out.sb HSND.out HG.out hlim2)
  go_wp2_with fail
  refine HGG.out.mono ?_
  rintro e w5 ⟨rfl, hw5⟩
  rw [hw5]
  clear hw5 HGG
  have HCP2 := hide (copied_any _ f w4 (show SI w4 (.slice a1 256 q1) f from HO1.out.sb.below HB14.out) (by rw [HFL.out]; omega))
  rw [HFL.out] at HCP2
  go_wp2_with fail
  refine HCP2.out.mono ?_
  rintro e w6 ⟨a6, q6, rfl, ho6, hb6⟩
  have HB6 := hide hb6
  have HB06 := hide (HB04.out.trans (hb6.mono HB04.out.size))
  have HB16 := hide (HB14.out.trans (hb6.mono HB14.out.size))
  have HCG := hide (cost_gd HSND.out HG.out _ _ w6 ho6.sb (HO4.out.sb.below hb6))
  obtain ⟨C, HC⟩ : ∃ C : Nat, Hid (C = fl (fq f) (nn l) (us6 f)) := ⟨_, rfl⟩
  rw [← HC.out] at HCG
  clear ho6 hb6 HCP2
  go_wp2_with fail
  refine HCG.out.mono ?_
  rintro e w7 ⟨rfl, n7, hw7⟩
  have HB67 : Hid (Below w6.heap.size w6 w7) := by rw [hw7]; exact below_drewN (Below.refl _ _) n7
  have HB07 := hide (HB06.out.trans (HB67.out.mono HB06.out.size))
  have HB47 := hide (HB6.out.trans (HB67.out.mono HB6.out.size))
  have HB17 := hide (HB16.out.trans (HB67.out.mono HB16.out.size))
  clear hw7 HCG
  have HCX := hide (coded_any _ _ t l w7 (HST.out.below HB07.out) HBY.out (HO4.out.sb.below HB47.out) (by rw [HL256.out]; omega) HT24.out (HOK.out l HCD.out.2.2) HCD.out.1 (fun h => HCD.out.2.1 (HNE.out h)))
  have HFC : Hid ((ft l t t.length).length = C) := by
    show _ = _
    rw [ft_cost HTB.out HL256.out (HOK.out l HCD.out.2.2), HC.out, HF.out]
  rw [HFC.out] at HCX
  have hC32 : C ≤ 268435456 := by
    have h1 := ft_len (syms := t) (bkE_zero HCD.out.1).1 t.length
    rw [HFC.out] at h1
    have := HT24.out
    omega
  go_wp2_with fail
  refine HCX.out.mono ?_
  rintro e w8 ⟨rfl, hb8⟩
  have HB8 := hide hb8
  have HB08 := hide (HB07.out.trans (hb8.mono HB07.out.size))
  have HB18 := hide (HB17.out.trans (hb8.mono HB17.out.size))
  have hcc : ((C : Int) != (C : Int)) = false := by simp
  clear hb8 HCX
  by_cases hM : M = 256
  case neg =>
    have hM' : ((M : Int) != 256) = true := by simpa using (show ¬ (M : Int) = 256 by omega)
    go_wp2
    go_ret
    exact ⟨rfl, HB08.out⟩
  subst hM
  have hM' : ((256 : Int) != 256) = false := by decide
  have HKR := hide (kraft_any (.slice a1 256 q1) (.slice aoo 256 capo) f o L w8 (HO1.out.sb.below HB18.out) (HSM.out.below HB08.out) HSND.out.len hlim2 HO64.out)
  obtain ⟨V, HV⟩ : ∃ V, Hid (V = krV f o L) := ⟨_, rfl⟩
  rw [← HV.out] at HKR
  by_cases hV : V = 1152921504606846976
  case neg =>
    have hV' : (V != 1152921504606846976) = true := by simpa using hV
    go_wp2_with fail
    refine HKR.out.mono ?_
    rintro e w9 ⟨rfl, hw9⟩
    rw [hw9]
    clear hw9 HKR
    go_wp2
    go_ret
    exact ⟨rfl, HB08.out⟩
  subst hV
  have hV' : ((1152921504606846976 : Int) != 1152921504606846976) = false := by decide
  have HU8 := hide (uses_any _ f w8 (show SI w8 (.slice a1 256 q1) f from HO1.out.sb.below HB18.out) HSND.out.len)
  rw [← HU.out] at HU8
  by_cases hu2 : u < 2
  · have hu2' : (u : Int) < 2 := by omega
    go_wp2_with fail
    refine HKR.out.mono ?_
    rintro e w9 ⟨rfl, hw9⟩
    rw [hw9]
    clear hw9 HKR
    go_wp2_with fail
    refine HU8.out.mono ?_
    rintro e w9 ⟨rfl, hw9⟩
    rw [hw9]
    clear hw9 HU8
    go_wp2
    go_ret
    exact ⟨rfl, HB08.out⟩
  have hu2' : ¬ (u : Int) < 2 := by omega
  have HOG : Hid (Gd f (oth f o 256) L) := by
    have := oth_gd HSND.out (by rw [← HU.out]; omega) HV.out.symm
    rwa [HFL.out] at this
  have HOC := hide (gd_code HSND.out hL.2 HOG.out)
  have HBEST : Hid (C ≤ fl (fq f) (nn (oth f o 256)) (us6 f)) := by
    have := lm_best HSND.out hL HU2.out HOG.out.ok (Nat.le_of_eq (HOG.out.all (by rw [← HU.out]; omega)))
    rw [← HLL.out, ← HC.out] at this
    exact this
  go_wp2_with fail
  refine HKR.out.mono ?_
  rintro e w9 ⟨rfl, hw9⟩
  rw [hw9]
  clear hw9 HKR
  go_wp2_with fail
  refine HU8.out.mono ?_
  rintro e w9 ⟨rfl, hw9⟩
  rw [hw9]
  clear hw9 HU8
  go_wp2
  go_loopw [14, 15] (fun v i wr => ∃ k : Nat, k ≤ 256 ∧ i = .int .i64 (k : Int) ∧ Hid (OI wr w8.heap.size v (oth f o k)) ∧ Hid (Below w8.heap.size w8 wr)) (fun _ i _ => 256 - (intOf i).toNat)
  case atStart => exact ⟨0, Nat.zero_le _, rfl, World.ownsRow_nil _ _ _ _, Below.refl _ _⟩
  case round =>
    obtain ⟨k, hk, rfl, HOr, HBr⟩ := hrel
    by_cases hlt : k < 256
    · have hlt' : (k : Int) < 256 := by omega
      obtain ⟨D, HD⟩ : ∃ D, Hid (D = oth f o k) := ⟨_, rfl⟩
      rw [← HD.out] at HOr
      have HDL : Hid (D.length = k) := by show _ = _; rw [HD.out, oth_len]
      have hDl : D.length ≤ 256 := by rw [HDL.out]; omega
      have hBw := HBr.out.size
      obtain ⟨ax, px, hu⟩ := HOr.out.shape
      subst hu
      have HALC : Hid (OI (wr.alloc (.cells #[.int .i64 0] 3)) w8.heap.size (.slice ax D.length px) D) := HOr.out.alloc _
      have HSR : Hid (Src Try.prog 1 23 (.slice (some ⟨wr.heap.size, 0, none⟩) 1 1) ([0] : List Int).length (([0] : List Int).map (Value.int .i64)) (wr.alloc (.cells #[.int .i64 0] 3))) := built_srcI wr [0]
      go_wp2_with (at_builtin; refine wpList_appI rfl _ _ 23 rfl w8.heap.size _ _ D [0] rfl HALC.out rfl HSR.out (by simp; omega) (by simp; omega) ?_)
      intro v3 w10 ho3 hgr3
      have HB10 : Hid (Below w8.heap.size w8 w10) := (HBr.out.alloc hBw _).grown hgr3.by (by simp; omega) (fun j hj => by have := HOr.out.lt j hj; omega)
      obtain ⟨g, cg, hv, g1, g2, g3, g4⟩ := ho3.form (by simp)
      have el : (D ++ [0]).length = k + 1 := by rw [List.length_append, HDL.out]; rfl
      rw [el] at hv g3
      subst hv
      have HO10 := hide ho3
      have HFC1 := hide (HO1.out.sb.below (HB18.out.trans (HB10.out.mono HB18.out.size)))
      have HOC1 := hide (HSM.out.below (HB08.out.trans (HB10.out.mono HB08.out.size)))
      clear ho3 hgr3 el
      have HFC2 : Hid (SI w10 (.slice a1 f.length q1) f) := by rw [HFL.out]; exact HFC1
      have HOC2 : Hid (SI w10 (.slice aoo o.length capo) o) := by rw [← HM.out]; exact HOC1
      obtain ⟨bf, off, hvf, hcf⟩ := SI.get HFC2.out (Below.refl _ _) (k := k) (by rw [HFL.out]; exact hlt)
      obtain ⟨bo, oo, hvo, hco⟩ := SI.get HOC2.out (Below.refl _ _) (k := k) (by rw [← HM.out]; exact hlt)
      obtain ⟨fv, HFV⟩ : ∃ x, Hid (x = f.getD k 0) := ⟨_, rfl⟩
      obtain ⟨ov, HOV⟩ : ∃ x, Hid (x = o.getD k 0) := ⟨_, rfl⟩
      rw [← HFV.out] at hcf
      rw [← HOV.out] at hco
      subst hvf hvo
      have HOS := hide (oth_succ f o k)
      have hqo : 256 ≤ capo := hlco
      have hqf : 256 ≤ q1 ∧ q1 ≤ 9223372036854775807 := by
        obtain ⟨ax1, cx1, e1, e2, e3⟩ := HFC1.out.open
        simp only [Value.slice.injEq] at e1
        obtain ⟨-, -, rfl⟩ := e1
        rw [HFL.out] at e2
        exact ⟨e2, e3⟩
      by_cases hfv : 0 < fv
      · obtain ⟨⟨u0, k1⟩, k2, k3⟩ := HO10.out.putg (k := k) (by rw [List.length_append, HDL.out]; simp) ov
        have HN : Hid (OI (w10.setCell ⟨g, k, none⟩ (.int .i64 ov)) w8.heap.size (.slice (some ⟨g, 0, none⟩) (k + 1) cg) (oth f o (k + 1))) := by
          have e : (D ++ [0]).set k ov = oth f o (k + 1) := by
            rw [HOS.out, ← HD.out, ← HFV.out, ← HOV.out, if_pos hfv, List.set_append_right _ _ (by rw [HDL.out]; exact Nat.le_refl _), HDL.out, Nat.sub_self]
            rfl
          rw [← e]; exact k3
        have HNB : Hid (Below w8.heap.size w8 (w10.setCell ⟨g, k, none⟩ (.int .i64 ov))) := HB10.out.setCell (p := ⟨g, k, none⟩) g1 _
        clear k3 HO10
        go_wp2
        go_roundw
        case rel => exact ⟨k + 1, by omega, by go_num, HN, HNB⟩
        case measure => simp [intOf]; omega
      · have HN : Hid (OI w10 w8.heap.size (.slice (some ⟨g, 0, none⟩) (k + 1) cg) (oth f o (k + 1))) := by
          rw [HOS.out, ← HD.out, ← HFV.out, if_neg hfv]; exact HO10.out
        clear HO10
        go_wp2
        go_roundw
        case rel => exact ⟨k + 1, by omega, by go_num, HN, HB10⟩
        case measure => simp [intOf]; omega
    · obtain rfl : k = 256 := by omega
      obtain ⟨ax, px, hu⟩ := HOr.out.shape
      rw [oth_len] at hu
      subst hu
      have HB0r := hide (HB08.out.trans (HBr.out.mono HB08.out.size))
      have HCY := hide (coded_any _ _ t (oth f o 256) wr (HST.out.below HB0r.out) HBY.out (show SI wr (.slice ax 256 px) (oth f o 256) from HOr.out.sb) (by rw [oth_len]; omega) HT24.out (HOK.out _ HOC.out.2.2) HOC.out.1 (fun h => HOC.out.2.1 (HNE.out h)))
      obtain ⟨E, HE⟩ : ∃ E : Nat, Hid (E = (ft (oth f o 256) t t.length).length) := ⟨_, rfl⟩
      rw [← HE.out] at HCY
      have hCE : C ≤ E := by
        have h1 := HBEST.out
        have h2 := ft_cost HTB.out (oth_len f o 256) (HOK.out _ HOC.out.2.2)
        rw [← HF.out, ← HE.out] at h2
        omega
      have hCE' : (C : Int) ≤ (E : Int) := by omega
      go_wp2_with fail
      refine HCY.out.mono ?_
      rintro e w11 ⟨rfl, hb11⟩
      have HB11 := hide (HB0r.out.trans (hb11.mono HB0r.out.size))
      clear hb11 HCY
      go_wp2
      go_ret
      exact ⟨rfl, HB11.out⟩
end Go.Proofs.Ytncniahpglgkmaa

