import Derived.Test.YtgengoffkoonfaaCst
namespace Go.Proofs.Ytgengoffkoonfaa
open Go.RowKit Go.Maps
set_option maxRecDepth 20000

theorem xcost_any (vf vn : Value) (f n : List Int) (w : World) (hf : SI w vf f) (hn : SI w vn n) :
    Calls Try.prog 11 #[vf, vn] w fun e w' => e = .returned (.tuple #[.int .i64 (cstV f n), .int .i64 (cstE f n)]) ∧ ∃ q, w' = w.drewN q := by
  have HF := hide hf
  have HN := hide hn
  obtain ⟨af, cf, rfl, hlf, hmf⟩ := hf.open
  obtain ⟨an, cn, rfl, hln, hmn⟩ := hn.open
  clear hf hn
  by_cases h1 : 288 < f.length
  · have h1' : (288 : Int) < (f.length : Int) := by omega
    have HE : Hid (cstE f n = 1) := if_pos (.inl h1)
    have HV : Hid (cstV f n = 0) := if_neg (by rw [HE.out]; decide)
    rw [HE.out, HV.out]
    go_enter Try.func11, Try.ntmps11
    go_wp2
    go_ret2
    exact ⟨rfl, 0, rfl⟩
  have h1' : ¬ (288 : Int) < (f.length : Int) := by omega
  by_cases h2 : n.length = f.length
  case neg =>
    have h2' : ((n.length : Int) != (f.length : Int)) = true := by simp; omega
    have HE : Hid (cstE f n = 1) := if_pos (.inr (.inl h2))
    have HV : Hid (cstV f n = 0) := if_neg (by rw [HE.out]; decide)
    rw [HE.out, HV.out]
    clear h2
    go_enter Try.func11, Try.ntmps11
    go_wp2
    go_ret2
    exact ⟨rfl, 0, rfl⟩
  have h2' : ((n.length : Int) != (f.length : Int)) = false := by simp; omega
  have H2 := hide h2
  clear h2
  go_enter Try.func11, Try.ntmps11
  go_wp2
  go_loopw [6] (fun i wr => ∃ k : Nat, k ≤ n.length ∧ i = .int .i64 k ∧ wr = w ∧ Hid (bnd n 288 k)) (fun i _ => n.length - (intOf i).toNat)
  case atStart => exact ⟨0, Nat.zero_le _, rfl, rfl, fun i hi => by omega⟩
  case round =>
    obtain ⟨k, hk, rfl, rfl, HT⟩ := hrel
    by_cases hlt : k < n.length
    · have hlt' : (k : Int) < (n.length : Int) := by omega
      obtain ⟨b, o, rfl, hc⟩ := HN.out.get (Below.refl _ _) hlt
      obtain ⟨x, HX⟩ : ∃ x, Hid (x = n.getD k 0) := ⟨_, rfl⟩
      rw [← HX.out] at hc
      by_cases hb : 0 ≤ x ∧ x ≤ 288
      · have HN2 : Hid (bnd n 288 (k + 1)) := bnd_succ HT.out (by rw [← HX.out]; exact hb)
        obtain ⟨b0, b1⟩ := hb
        have b0' : ¬ x < 0 := by omega
        have b1' : ¬ 288 < x := by omega
        clear HT
        go_wp2
        go_roundw
        case rel => exact ⟨k + 1, by omega, by go_num, by trivial, HN2⟩
        case measure => simp [intOf]; omega
      · have HE : Hid (cstE f n = 1) := if_pos (.inr (.inr (bnb_no hlt (by rw [← HX.out]; exact hb))))
        have HV : Hid (cstV f n = 0) := if_neg (by rw [HE.out]; decide)
        by_cases b0 : x < 0
        · clear hb
          go_wp2
          go_ret2
          rw [HE.out, HV.out]
          exact ⟨rfl, 0, rfl⟩
        · have b1 : 288 < x := by omega
          clear hb
          go_wp2
          go_ret2
          rw [HE.out, HV.out]
          exact ⟨rfl, 0, rfl⟩
    · obtain rfl : k = n.length := by omega
      have hlt' : ¬ (n.length : Int) < (n.length : Int) := by omega
      have hne : ¬ (288 < f.length ∨ n.length ≠ f.length ∨ bnb n 288 = false) := by
        rintro (q | q | q)
        · omega
        · exact q H2.out
        · rw [bnb_iff.2 HT.out] at q; cases q
      cases hw : bnb f 4294967296 with
      | false =>
        have HE : Hid (cstE f n = 61) := by show cstE f n = 61; unfold cstE; rw [if_neg hne, if_pos hw]
        have HV : Hid (cstV f n = 0) := if_neg (by rw [HE.out]; decide)
        have HW := hide hw
        clear hw hne HT
        go_wp2_with fail
        refine (weighs_any _ f _ HF.out).mono ?_
        rintro e w1 ⟨rfl, rfl⟩
        rw [HW.out]
        go_wp2
        go_ret2
        rw [HE.out, HV.out]
        exact ⟨rfl, 0, rfl⟩
      | true =>
        have HE : Hid (cstE f n = 0) := by show cstE f n = 0; unfold cstE; rw [if_neg hne, if_neg (by rw [hw]; decide)]
        have HV : Hid (cstV f n = cs f n f.length) := if_pos HE.out
        have HW := hide hw
        have HBN : Hid (bnd n 288 f.length) := by rw [← H2.out]; exact HT.out
        have HBF : Hid (bnd f 4294967296 f.length) := bnb_iff.1 hw
        clear hw hne HT
        go_wp2_with fail
        refine (weighs_any _ f _ HF.out).mono ?_
        rintro e w1 ⟨rfl, rfl⟩
        rw [HW.out]
        go_wp2
        go_loopw [8, 9] (fun s i wr => ∃ k q : Nat, k ≤ f.length ∧ i = .int .i64 k ∧ s = .int .i64 (cs f n k) ∧ wr = w1.drewN q) (fun _ i _ => f.length - (intOf i).toNat)
        case atStart => exact ⟨0, 0, Nat.zero_le _, rfl, rfl, rfl⟩
        case round =>
          obtain ⟨k, q, hk2, rfl, rfl, rfl⟩ := hrel
          by_cases hlt2 : k < f.length
          · have hlt2' : (k : Int) < (f.length : Int) := by omega
            have hbb := cs_bound (f := f) (n := n) (k := k) (fun i hi => HBF.out i (by omega)) (fun i hi => HBN.out i (by omega))
            have hbs := cs_bound (f := f) (n := n) (k := k + 1) (fun i hi => HBF.out i (by omega)) (fun i hi => HBN.out i (by omega))
            have hfk := HBF.out k hlt2
            have hnk := HBN.out k hlt2
            simp only [cs] at hbs
            have HC : Hid (cs f n (k + 1) = cs f n k + f.getD k 0 * n.getD k 0) := rfl
            obtain ⟨b1, o1, rfl, hc1⟩ := HF.out.get (w := w1.drewN q) (below_drewN (Below.refl _ _) q) hlt2
            obtain ⟨b2, o2, rfl, hc2⟩ := HN.out.get (w := w1.drewN q) (below_drewN (Below.refl _ _) q) (k := k) (by rw [H2.out]; exact hlt2)
            have hkn : (k : Int) < (n.length : Int) := by have := H2.out; omega
            obtain ⟨x, HX⟩ : ∃ x, Hid (x = f.getD k 0) := ⟨_, rfl⟩
            obtain ⟨y, HY⟩ : ∃ x, Hid (x = n.getD k 0) := ⟨_, rfl⟩
            obtain ⟨s, HSS⟩ : ∃ x, Hid (x = cs f n k) := ⟨_, rfl⟩
            rw [← HX.out] at hc1 hfk hbs HC
            rw [← HY.out] at hc2 hnk hbs HC
            rw [← HSS.out] at hbb hbs HC ⊢
            obtain ⟨z, hz⟩ : ∃ z, x * y = z := ⟨_, rfl⟩
            have hzb : 0 ≤ z ∧ z ≤ 4294967296 * 288 := by rw [← hz]; exact ⟨Int.mul_nonneg hfk.1 hnk.1, Int.mul_le_mul hfk.2 hnk.2 hnk.1 (by omega)⟩
            rw [hz] at hbs HC
            have hwz : IntKind.i64.wrap (x * y) = z := by rw [hz]; rw [IntKind.wrap_i64]; omega
            have hc1' : w1.cell? ⟨b1, o1 + k, none⟩ = some (.int .i64 x) := hc1
            have hc2' : w1.cell? ⟨b2, o2 + k, none⟩ = some (.int .i64 y) := hc2
            have hws : IntKind.i64.wrap (s + z) = s + z := by rw [IntKind.wrap_i64]; omega
            clear hz
            go_wp2
            go_quiet (fail)
            go_wp2
            go_roundw
            case rel => exact ⟨k + 1, _, by omega, by go_num, by rw [HC.out], by (try simp only [World.drewN_drewN]); rfl⟩
            case measure => simp [intOf]; omega
          · obtain rfl : k = f.length := by omega
            have hlt2' : ¬ (f.length : Int) < (f.length : Int) := by omega
            go_wp2
            go_ret2
            rw [HE.out, HV.out]
            exact ⟨rfl, q, rfl⟩

theorem costs_walk (vf vn : Value) (f n : List Int) (w : World) (hf : SI w vf f) (hn : SI w vn n) (rf : f.length ≤ 17592186043904) (rn : n.length ≤ 17592186043904) :
    Calls Try.prog 3 #[vf, vn] w fun e w' => e = .returned (.bool true) ∧ Below w.heap.size w w' := by
  have HF := hide hf
  have HN := hide hn
  obtain ⟨af, cf, rfl, hlf, hmf⟩ := hf.open
  obtain ⟨an, cn, rfl, hln, hmn⟩ := hn.open
  clear hf hn
  go_enter Try.func3, Try.ntmps3
  go_wp2_with fail
  refine (lent_any _ f w HF.out rf).mono ?_
  rintro e w1 ⟨g1, c1, rfl, hl1, hb1⟩
  have HL1 := hide hl1
  have HB1 := hide hb1
  have HN1 := hide (HN.out.below hb1)
  clear hl1 hb1
  go_wp2_with fail
  refine (lent_any _ n w1 HN1.out rn).mono ?_
  rintro e w2 ⟨g2, c2, rfl, hl2, hb2⟩
  have HL2 := hide hl2
  have HL1' := hide (HL1.out.below hb2 (Nat.le_refl _))
  have HB2 := hide (HB1.out.trans (hb2.mono HB1.out.size))
  clear hl2 hb2 HL1 HB1
  have hs1 := HL1'.out.cap
  have hs2 := HL2.out.cap
  obtain ⟨x, HX⟩ : ∃ x, Hid (x = cstV f n) := ⟨_, rfl⟩
  obtain ⟨y, HY⟩ : ∃ x, Hid (x = cstE f n) := ⟨_, rfl⟩
  go_wp2_with fail
  refine (cost_any _ _ f n w2 HL1'.out.si HL2.out.si).mono ?_
  rintro e w3 ⟨rfl, q3, rfl⟩
  rw [← HX.out, ← HY.out]
  have HF3 : Hid (SI (w2.drewN q3) (.slice af f.length cf) f) := HF.out.below (below_drewN HB2.out q3)
  have HN3 : Hid (SI (w2.drewN q3) (.slice an n.length cn) n) := HN.out.below (below_drewN HB2.out q3)
  go_wp2_with fail
  refine (xcost_any _ _ f n _ HF3.out HN3.out).mono ?_
  rintro e w4 ⟨rfl, q4, rfl⟩
  rw [← HX.out, ← HY.out]
  have HBx : ∀ q, Hid (Below w2.heap.size w2 (w2.drewN q)) := fun q => below_drewN (Below.refl _ _) q
  simp only [World.drewN_drewN]
  obtain ⟨q5, hq5⟩ : ∃ q, q3 + q4 = q := ⟨_, rfl⟩
  rw [hq5]
  have H5 : Hid (Lent (w2.drewN q5) w.heap.size g1 c1 f ∧ Lent (w2.drewN q5) w1.heap.size g2 c2 n) := ⟨HL1'.out.below (HBx q5).out (Nat.le_refl _), HL2.out.below (HBx q5).out (Nat.le_refl _)⟩
  have HF5 : Hid (SI (w2.drewN q5) (.slice af f.length cf) f) := HF.out.below (below_drewN HB2.out q5)
  have HN5 : Hid (∀ q, SI (w2.drewN q) (.slice an n.length cn) n) := fun q => HN.out.below (below_drewN HB2.out q)
  have HL5 : Hid (∀ q, Lent (w2.drewN q) w1.heap.size g2 c2 n) := fun q => HL2.out.below (HBx q).out (Nat.le_refl _)
  clear hq5
  go_wp2_with fail
  refine (num_any _ _).mono ?_
  rintro e w5 ⟨rfl, rfl⟩
  go_wp2_with fail
  refine (still_any _ _ _ f _ _ H5.out.1 HF5.out rf).mono ?_
  rintro e w6 ⟨rfl, q6, rfl⟩
  simp only [World.drewN_drewN]
  go_wp2_with fail
  refine (still_any _ _ _ n _ _ (HL5.out _) (HN5.out _) rn).mono ?_
  rintro e w7 ⟨rfl, q7, rfl⟩
  simp only [World.drewN_drewN]
  have HBF := hide (below_drewN HB2.out (q5 + q6 + q7))
  go_wp2
  go_ret
  exact ⟨rfl, HBF.out⟩
end Go.Proofs.Ytgengoffkoonfaa
