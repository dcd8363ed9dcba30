import Derived.Test.YtpbghgddeodabaaGStl
namespace Go.Proofs.Ytpbghgddeodabaa
open Go.RowKit Go.Maps
set_option maxRecDepth 20000
set_option linter.unusedVariables false
set_option linter.unusedSimpArgs false

set_option maxHeartbeats 16000000 in
theorem stores_walk (u : Value) (x : List Int) (w : World) (hS : SB w u x) (hB : Byt x) (hx : x.length ≤ 140737488351232) :
    Calls Try.prog 3 #[u] w fun e w' => e = .returned (.bool true) ∧ Below w.heap.size w w' := by
  have HC := hide hS
  have HFR := hide (framed_any u x w hS hx)
  have HBY := hide hB
  have HGS := hide (fun w' (hb : Below w.heap.size w w') => gStored_any u x w' (hS.below hb))
  have HCP := hide (fun w' (hb : Below w.heap.size w w') => copied_any u x w' (hS.below hb) hx)
  have HFS := hide (fun u' w' (hs : SB w' u' x) (hu : ∀ k, u'.ownBlock = some k → k < w'.heap.size) => fStored_any u' x w' hB hs hu)
  obtain ⟨co, cco, rfl, d1, d2, -, -⟩ := hS
  unfold maxLen at d2
  by_cases hbig : 16777216 < x.length
  · obtain ⟨L, hL⟩ : ∃ L : List Int, L = [] := ⟨_, rfl⟩
    have hLl : L.length ≤ 20000000 := by rw [hL]; simp
    simp only [if_pos hbig] at HGS HFS
    rw [← hL] at HGS HFS
    have HBD : Hid (∀ W, Calls Try.prog 7 #[.int .i64 (x.length : Int)] W fun e w' => e = .returned (.tuple #[.int .i64 0, .int .i64 1]) ∧ w' = W) := fun W => by
      have := fBound_any (x.length : Int) W
      rw [if_neg (by omega), if_neg (by omega)] at this
      exact this
    have HLN := hide hLl
    clear hL hLl hB hbig
    go_enter Try.func3, Try.ntmps3
    go_wp2_with fail
    refine HFR.out.mono ?_
    rintro e w1 ⟨g, c, rfl, ho1, hb1⟩
    obtain ⟨hin, hgc, hgm⟩ := ob_front11 ho1
    have HIN := hide hin
    have HO1 := hide ho1
    have HB1 := hide hb1
    have HGL : Hid (g < w1.heap.size) := (ho1.lt g rfl).2
    have hi1 : (0 : Int) ≤ (x.length : Int) := by omega
    have hi2 : (x.length : Int) ≤ (c : Int) := by omega
    clear hin ho1 hb1 HFR
    go_wp2_with fail
    refine (HFS.out _ w1 HIN.out (fun k hk => by have := Option.some.inj hk; have := HGL.out; simp only at *; omega)).mono ?_
    rintro e w2 ⟨v2, rfl, ho2, hb2⟩
    obtain ⟨a2, c2, hv2⟩ := ho2.shape
    subst hv2
    have HO2 := hide ho2
    have HB2 := hide hb2
    have HB02 := hide (HB1.out.trans (hb2.mono HB1.out.size))
    clear ho2 hb2
    go_wp2_with fail
    refine (HGS.out w2 HB02.out).mono ?_
    rintro e w3 ⟨v3, rfl, ho3, hb3⟩
    have HO3 := hide ho3
    have HB3 := hide hb3
    have HB03 := hide (HB02.out.trans (hb3.mono HB02.out.size))
    clear ho3 hb3
    go_wp2_with fail
    refine (HBD.out _).mono ?_
    rintro e w4 ⟨rfl, h4⟩
    rw [h4]
    clear h4 w4
    go_wp2_with fail
    refine (HCP.out w3 HB03.out).mono ?_
    rintro e w4 ⟨v4, rfl, rfl, ho4, hb4⟩
    have HO4 := hide ho4
    have HB4 := hide hb4
    have HB04 := hide (HB03.out.trans (hb4.mono HB03.out.size))
    have HI4 : Hid (w3.heap.size < w4.heap.size) := (ho4.lt w3.heap.size rfl).2
    clear ho4 hb4
    go_wp2_with fail
    refine (HFS.out _ w4 HO4.out.sb (fun k hk => by have := Option.some.inj hk; have := HI4.out; simp only at *; omega)).mono ?_
    rintro e w5 ⟨v5, rfl, ho5, hb5⟩
    obtain ⟨a5, c5, hv5⟩ := ho5.shape
    subst hv5
    have HO5 := hide ho5
    have HB5 := hide hb5
    clear ho5 hb5
    have HB24 : Hid (Below w2.heap.size w2 w4) := HB3.out.trans (HB4.out.mono HB3.out.size)
    have HB25 : Hid (Below w2.heap.size w2 w5) := HB24.out.trans (HB5.out.mono HB24.out.size)
    have HB35 : Hid (Below w3.heap.size w3 w5) := HB4.out.trans (HB5.out.mono HB4.out.size)
    have HB15 : Hid (Below w1.heap.size w1 w5) := HB2.out.trans (HB25.out.mono HB2.out.size)
    have HSA : Hid (∀ w', Below w5.heap.size w5 w' → Calls Try.prog 9 #[.slice a2 L.length c2, v3] w' fun e w'' => e = .returned (.bool true) ∧ ∃ n, w'' = w'.drewN n) := fun w' hb => by
      have := same_any (.slice a2 L.length c2) v3 L L w' ((HO2.out.below HB25.out (Nat.le_refl _)).below hb (Nat.le_refl _)).sb ((HO3.out.below HB35.out (Nat.le_refl _)).below hb (Nat.le_refl _)).sb
      rw [show eqB L L = true by simp [eqB]] at this
      exact this
    have HSB : Hid (∀ w', Below w5.heap.size w5 w' → Calls Try.prog 9 #[.slice a5 L.length c5, v3] w' fun e w'' => e = .returned (.bool true) ∧ ∃ n, w'' = w'.drewN n) := fun w' hb => by
      have := same_any (.slice a5 L.length c5) v3 L L w' (HO5.out.below hb (Nat.le_refl _)).sb ((HO3.out.below HB35.out (Nat.le_refl _)).below hb (Nat.le_refl _)).sb
      rw [show eqB L L = true by simp [eqB]] at this
      exact this
    go_wp2_with fail
    refine (HSA.out w5 (Below.refl _ _)).mono ?_
    rintro e w6 ⟨rfl, n6, h6⟩
    have HC6 : Hid (Below w5.heap.size w5 w6) := by rw [h6]; exact below_dr11 (Below.refl _ _) n6
    clear h6
    go_wp2_with fail
    refine (numb_any _ _).mono ?_
    rintro e w7 ⟨rfl, h7⟩
    rw [h7]
    clear h7 w7
    have HB16 : Hid (Below w1.heap.size w1 w6) := HB15.out.trans (HC6.out.mono HB15.out.size)
    have HB06 : Hid (Below w.heap.size w w6) := HB1.out.trans (HB16.out.mono HB1.out.size)
    go_wp2_with fail
    refine (whole_any (.slice co x.length cco) g c x w6 (HO1.out.below HB16.out (Nat.le_refl _)).sb (HC.out.below HB06.out) (by omega)).mono ?_
    rintro e w7 ⟨rfl, n7, h7⟩
    have HC7 : Hid (Below w5.heap.size w5 w7) := by rw [h7]; exact below_dr11 HC6.out n7
    clear h7
    go_wp2_with fail
    refine (HSB.out w7 HC7.out).mono ?_
    rintro e w8 ⟨rfl, n8, h8⟩
    have HC8 : Hid (Below w5.heap.size w5 w8) := by rw [h8]; exact below_dr11 HC7.out n8
    clear h8
    have HO5b : Hid (OB w5 w4.heap.size (.slice a5 L.length c5) L) := HO5.out
    have HAW := hide (apart_walk (w8.alloc (.cells #[.slice a2 L.length c2, .slice a5 L.length c5] 22)) w1.heap.size w8.heap.size 2 (some ⟨w8.heap.size, 0, none⟩) [(.slice a2 L.length c2, L), (.slice a5 L.length c5, L)] (two_lists11 HO2.out HB24.out HO5b.out HB5.out HC8.out HB2.out.size HLN.out 22) (fun _ => rfl))
    go_wp2_with fail
    refine HAW.out.mono ?_
    rintro e w9 ⟨rfl, hk⟩
    have b18 : Below w1.heap.size w1 w8 := HB15.out.trans (HC8.out.mono HB15.out.size)
    have HB19 : Hid (Below w1.heap.size w1 w9) := keep_below11 (b18.alloc b18.size _) hk (fun p hp k e => by
      simp only [List.mem_cons, List.not_mem_nil, or_false] at hp
      rcases hp with rfl | rfl
      · exact (HO2.out.lt k e).1
      · have := (HO5.out.lt k e).1; have := HB24.out.size; have := HB2.out.size; omega)
    have HB09 := hide (HB1.out.trans (HB19.out.mono HB1.out.size))
    clear hk HAW b18
    go_wp2
    go_ret
    exact ⟨rfl, HB09.out⟩
  · obtain ⟨L, hL⟩ : ∃ L : List Int, L = stB x := ⟨_, rfl⟩
    have hbn : bnd (x.length : Int) = (L.length : Int) := by
      rw [hL, stB_len x.length x (Nat.le_refl _)]
      unfold bnd
      omega
    have hLl : L.length ≤ 20000000 := by rw [hL, stB_len x.length x (Nat.le_refl _)]; omega
    simp only [if_neg hbig] at HGS HFS
    rw [← hL] at HGS HFS
    have HBD : Hid (∀ W, Calls Try.prog 7 #[.int .i64 (x.length : Int)] W fun e w' => e = .returned (.tuple #[.int .i64 (L.length : Int), .int .i64 0]) ∧ w' = W) := fun W => by
      have := fBound_any (x.length : Int) W
      rw [if_pos (by omega), if_pos (by omega), hbn] at this
      exact this
    clear hbn
    have HLN := hide hLl
    clear hL hLl hB hbig
    go_enter Try.func3, Try.ntmps3
    go_wp2_with fail
    refine HFR.out.mono ?_
    rintro e w1 ⟨g, c, rfl, ho1, hb1⟩
    obtain ⟨hin, hgc, hgm⟩ := ob_front11 ho1
    have HIN := hide hin
    have HO1 := hide ho1
    have HB1 := hide hb1
    have HGL : Hid (g < w1.heap.size) := (ho1.lt g rfl).2
    have hi1 : (0 : Int) ≤ (x.length : Int) := by omega
    have hi2 : (x.length : Int) ≤ (c : Int) := by omega
    clear hin ho1 hb1 HFR
    go_wp2_with fail
    refine (HFS.out _ w1 HIN.out (fun k hk => by have := Option.some.inj hk; have := HGL.out; simp only at *; omega)).mono ?_
    rintro e w2 ⟨v2, rfl, ho2, hb2⟩
    obtain ⟨a2, c2, hv2⟩ := ho2.shape
    subst hv2
    have HO2 := hide ho2
    have HB2 := hide hb2
    have HB02 := hide (HB1.out.trans (hb2.mono HB1.out.size))
    clear ho2 hb2
    go_wp2_with fail
    refine (HGS.out w2 HB02.out).mono ?_
    rintro e w3 ⟨v3, rfl, ho3, hb3⟩
    have HO3 := hide ho3
    have HB3 := hide hb3
    have HB03 := hide (HB02.out.trans (hb3.mono HB02.out.size))
    clear ho3 hb3
    go_wp2_with fail
    refine (HBD.out _).mono ?_
    rintro e w4 ⟨rfl, h4⟩
    rw [h4]
    clear h4 w4
    go_wp2_with fail
    refine (HCP.out w3 HB03.out).mono ?_
    rintro e w4 ⟨v4, rfl, rfl, ho4, hb4⟩
    have HO4 := hide ho4
    have HB4 := hide hb4
    have HB04 := hide (HB03.out.trans (hb4.mono HB03.out.size))
    have HI4 : Hid (w3.heap.size < w4.heap.size) := (ho4.lt w3.heap.size rfl).2
    clear ho4 hb4
    go_wp2_with fail
    refine (HFS.out _ w4 HO4.out.sb (fun k hk => by have := Option.some.inj hk; have := HI4.out; simp only at *; omega)).mono ?_
    rintro e w5 ⟨v5, rfl, ho5, hb5⟩
    obtain ⟨a5, c5, hv5⟩ := ho5.shape
    subst hv5
    have HO5 := hide ho5
    have HB5 := hide hb5
    clear ho5 hb5
    have HB24 : Hid (Below w2.heap.size w2 w4) := HB3.out.trans (HB4.out.mono HB3.out.size)
    have HB25 : Hid (Below w2.heap.size w2 w5) := HB24.out.trans (HB5.out.mono HB24.out.size)
    have HB35 : Hid (Below w3.heap.size w3 w5) := HB4.out.trans (HB5.out.mono HB4.out.size)
    have HB15 : Hid (Below w1.heap.size w1 w5) := HB2.out.trans (HB25.out.mono HB2.out.size)
    have HSA : Hid (∀ w', Below w5.heap.size w5 w' → Calls Try.prog 9 #[.slice a2 L.length c2, v3] w' fun e w'' => e = .returned (.bool true) ∧ ∃ n, w'' = w'.drewN n) := fun w' hb => by
      have := same_any (.slice a2 L.length c2) v3 L L w' ((HO2.out.below HB25.out (Nat.le_refl _)).below hb (Nat.le_refl _)).sb ((HO3.out.below HB35.out (Nat.le_refl _)).below hb (Nat.le_refl _)).sb
      rw [show eqB L L = true by simp [eqB]] at this
      exact this
    have HSB : Hid (∀ w', Below w5.heap.size w5 w' → Calls Try.prog 9 #[.slice a5 L.length c5, v3] w' fun e w'' => e = .returned (.bool true) ∧ ∃ n, w'' = w'.drewN n) := fun w' hb => by
      have := same_any (.slice a5 L.length c5) v3 L L w' (HO5.out.below hb (Nat.le_refl _)).sb ((HO3.out.below HB35.out (Nat.le_refl _)).below hb (Nat.le_refl _)).sb
      rw [show eqB L L = true by simp [eqB]] at this
      exact this
    go_wp2_with fail
    refine (HSA.out w5 (Below.refl _ _)).mono ?_
    rintro e w6 ⟨rfl, n6, h6⟩
    have HC6 : Hid (Below w5.heap.size w5 w6) := by rw [h6]; exact below_dr11 (Below.refl _ _) n6
    clear h6
    go_wp2_with fail
    refine (numb_any _ _).mono ?_
    rintro e w7 ⟨rfl, h7⟩
    rw [h7]
    clear h7 w7
    have HB16 : Hid (Below w1.heap.size w1 w6) := HB15.out.trans (HC6.out.mono HB15.out.size)
    have HB06 : Hid (Below w.heap.size w w6) := HB1.out.trans (HB16.out.mono HB1.out.size)
    go_wp2_with fail
    refine (whole_any (.slice co x.length cco) g c x w6 (HO1.out.below HB16.out (Nat.le_refl _)).sb (HC.out.below HB06.out) (by omega)).mono ?_
    rintro e w7 ⟨rfl, n7, h7⟩
    have HC7 : Hid (Below w5.heap.size w5 w7) := by rw [h7]; exact below_dr11 HC6.out n7
    clear h7
    go_wp2_with fail
    refine (numb_any _ _).mono ?_
    rintro e w8 ⟨rfl, h8⟩
    rw [h8]
    clear h8 w8
    go_wp2_with fail
    refine (HSB.out w7 HC7.out).mono ?_
    rintro e w8 ⟨rfl, n8, h8⟩
    have HC8 : Hid (Below w5.heap.size w5 w8) := by rw [h8]; exact below_dr11 HC7.out n8
    clear h8
    have HO5b : Hid (OB w5 w4.heap.size (.slice a5 L.length c5) L) := HO5.out
    have HAW := hide (apart_walk (w8.alloc (.cells #[.slice a2 L.length c2, .slice a5 L.length c5] 22)) w1.heap.size w8.heap.size 2 (some ⟨w8.heap.size, 0, none⟩) [(.slice a2 L.length c2, L), (.slice a5 L.length c5, L)] (two_lists11 HO2.out HB24.out HO5b.out HB5.out HC8.out HB2.out.size HLN.out 22) (fun _ => rfl))
    go_wp2_with fail
    refine HAW.out.mono ?_
    rintro e w9 ⟨rfl, hk⟩
    have b18 : Below w1.heap.size w1 w8 := HB15.out.trans (HC8.out.mono HB15.out.size)
    have HB19 : Hid (Below w1.heap.size w1 w9) := keep_below11 (b18.alloc b18.size _) hk (fun p hp k e => by
      simp only [List.mem_cons, List.not_mem_nil, or_false] at hp
      rcases hp with rfl | rfl
      · exact (HO2.out.lt k e).1
      · have := (HO5.out.lt k e).1; have := HB24.out.size; have := HB2.out.size; omega)
    have HB09 := hide (HB1.out.trans (HB19.out.mono HB1.out.size))
    clear hk HAW b18
    go_wp2
    go_ret
    exact ⟨rfl, HB09.out⟩
end Go.Proofs.Ytpbghgddeodabaa

