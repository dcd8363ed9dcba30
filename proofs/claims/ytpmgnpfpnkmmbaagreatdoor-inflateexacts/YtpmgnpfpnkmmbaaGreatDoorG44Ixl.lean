import Derived.Test.YtpmgnpfpnkmmbaaGreatDoorG43Exv
import Derived.Test.YtpmgnpfpnkmmbaaGreatDoorG39Opx
namespace Go.Proofs.YtpmgnpfpnkmmbaaGreatDoor
open Go.RowKit Go.Maps
set_option maxRecDepth 20000
set_option linter.unusedVariables false
set_option linter.unusedSimpArgs false

theorem Exa.len {l : List Int} {size E : Int} {o : List Int} (h : Exa l size E o) : o.length ≤ 20000000 := by
  obtain ⟨E0, n, o0, hI, ⟨-, -, rfl⟩ | ⟨-, -, -, rfl⟩ | ⟨-, -, -, -, rfl⟩ | ⟨rfl, -, -, -, rfl⟩⟩ := h
  · exact Nat.zero_le _
  · exact Nat.zero_le _
  · exact Nat.zero_le _
  · have := hI.used.2.2.1; omega

set_option maxHeartbeats 8000000 in
theorem inflateExacts_walk (v : Value) (l : List Int) (size : Int) (W : World) (h : SB W v l) (hB : Byt l) (hr : l.length ≤ 140737488351232) (T : Tab W) (O : Odr W) (X : Xodr W) :
    Calls Tryz.prog 5 #[v, .int .i64 size] W fun e w' => e = .returned (.bool true) ∧ Below W.heap.size W w' := by
  have HFR := hide (framedB_any v l W h hr)
  have HS := hide h
  have HB := hide hB
  have HT := hide T
  have HO := hide O
  have HX := hide X
  obtain ⟨co, cco, rfl, -⟩ := h
  clear hB T O X
  go_enter Tryz.func5, Tryz.ntmps5
  go_wp2_with fail
  refine HFR.out.mono ?_
  rintro e w1 ⟨g, c, rfl, ho1, hb1⟩
  obtain ⟨hin, hgc, hgm⟩ := ob_front8 ho1
  have HIN := hide (hExact hin HB.out size (HT.out.mono hb1) (HO.out.mono hb1))
  have HO1 := hide ho1
  have HB1 := hide hb1
  have hi1 : (0 : Int) ≤ (l.length : Int) := by omega
  have hi2 : (l.length : Int) ≤ (c : Int) := by omega
  clear hin ho1 hb1 HFR
  go_wp2_with fail
  refine HIN.out.mono ?_
  rintro e w2 ⟨E, o, a2, c2, hE, rfl, ho2, hb2⟩
  have HEE := hide hE
  have HO2 := hide ho2
  have HB2 := hide hb2
  have HB02 := hide (HB1.out.trans (hb2.mono HB1.out.size))
  clear hE ho2 hb2 HIN
  have HV := hide (vExact (HS.out.below HB02.out) HB.out size (HX.out.mono HB02.out))
  go_wp2_with fail
  refine HV.out.mono ?_
  rintro e w3 ⟨E3, o3, a3, c3, hE3, rfl, ho3, hb3⟩
  obtain ⟨rfl, rfl⟩ := HEE.out.det hE3
  have HO3 := hide ho3
  have HB3 := hide hb3
  have HB03 := hide (HB02.out.trans (hb3.mono HB02.out.size))
  clear hE3 ho3 hb3 HV
  have HCP := hide (copied8_any _ l w3 (HS.out.below HB03.out) hr)
  go_wp2_with fail
  refine HCP.out.mono ?_
  rintro e w4 ⟨rfl, ho4, hb4⟩
  have HB4 := hide hb4
  have HB04 := hide (HB03.out.trans (hb4.mono HB03.out.size))
  have hs4 := ho4.sb
  have HX4 := hide (hExact (l := l) hs4 HB.out size (HT.out.mono HB04.out) (HO.out.mono HB04.out))
  clear ho4 hb4 HCP hs4
  go_wp2_with fail
  refine HX4.out.mono ?_
  rintro e w5 ⟨E5, o5, a5, c5, hE5, rfl, ho5, hb5⟩
  obtain ⟨rfl, rfl⟩ := HEE.out.det hE5
  have HO5 := hide ho5
  have HB5 := hide hb5
  have HB05 := hide (HB04.out.trans (hb5.mono HB04.out.size))
  clear hE5 ho5 hb5 HX4
  have HB24 : Hid (Below w2.heap.size w2 w4) := HB3.out.trans (HB4.out.mono HB3.out.size)
  have HB25 : Hid (Below w2.heap.size w2 w5) := HB24.out.trans (HB5.out.mono HB24.out.size)
  have HB35 : Hid (Below w3.heap.size w3 w5) := HB4.out.trans (HB5.out.mono HB4.out.size)
  have HB15 : Hid (Below w1.heap.size w1 w5) := HB2.out.trans (HB25.out.mono HB2.out.size)
  obtain ⟨M, HM⟩ : ∃ M : Nat, Hid (M = o.length) := ⟨_, rfl⟩
  have HO2' : Hid (OB w2 w1.heap.size (.slice a2 M c2) o) := by show OB _ _ _ _; rw [HM.out]; exact HO2.out
  have HO3' : Hid (OB w3 w2.heap.size (.slice a3 M c3) o) := by show OB _ _ _ _; rw [HM.out]; exact HO3.out
  have HO5' : Hid (OB w5 w4.heap.size (.slice a5 M c5) o) := by show OB _ _ _ _; rw [HM.out]; exact HO5.out
  rw [← HM.out]
  clear HO2 HO3 HO5
  have HSA : Hid (∀ w', Below w5.heap.size w5 w' → Calls Tryz.prog 16 #[.slice a2 M c2, .slice a3 M c3] w' fun e w'' => e = .returned (.bool true) ∧ ∃ n, w'' = w'.drewN n) := fun w' hb =>
    same8 ((HO2'.out.below HB25.out (Nat.le_refl _)).below hb (Nat.le_refl _)).sb ((HO3'.out.below HB35.out (Nat.le_refl _)).below hb (Nat.le_refl _)).sb
  have HSB : Hid (∀ w', Below w5.heap.size w5 w' → Calls Tryz.prog 16 #[.slice a5 M c5, .slice a3 M c3] w' fun e w'' => e = .returned (.bool true) ∧ ∃ n, w'' = w'.drewN n) := fun w' hb =>
    same8 (HO5'.out.below hb (Nat.le_refl _)).sb ((HO3'.out.below HB35.out (Nat.le_refl _)).below hb (Nat.le_refl _)).sb
  go_wp2_with fail
  refine (HSA.out w5 (Below.refl _ _)).mono ?_
  rintro e w6 ⟨rfl, n6, h6⟩
  have HC6 : Hid (Below w5.heap.size w5 w6) := by rw [h6]; exact below_dr8 (Below.refl _ _) n6
  clear h6
  go_wp2_with fail
  refine (numb_any _ _).mono ?_
  rintro e w7 ⟨rfl, h7⟩
  rw [h7]
  clear h7 w7
  have HB16 : Hid (Below w1.heap.size w1 w6) := HB15.out.trans (HC6.out.mono HB15.out.size)
  have HB06 : Hid (Below W.heap.size W w6) := HB1.out.trans (HB16.out.mono HB1.out.size)
  have heq : (E == E) = true := by simp
  go_wp2_with fail
  refine (wholeB_any (.slice co l.length cco) g c l w6 (HO1.out.below HB16.out (Nat.le_refl _)).sb (HS.out.below HB06.out) hr).mono ?_
  rintro e w7 ⟨rfl, n7, h7⟩
  have HC7 : Hid (Below w5.heap.size w5 w7) := by rw [h7]; exact below_dr8 HC6.out n7
  clear h7
  go_wp2_with fail
  refine (HSB.out w7 HC7.out).mono ?_
  rintro e w8 ⟨rfl, n8, h8⟩
  have HC8 : Hid (Below w5.heap.size w5 w8) := by rw [h8]; exact below_dr8 HC7.out n8
  clear h8
  have HB18 : Hid (Below w1.heap.size w1 w8) := HB15.out.trans (HC8.out.mono HB15.out.size)
  have HLS : Hid (Lists (w8.alloc (.cells #[.slice a2 M c2, .slice a5 M c5] 22)) w1.heap.size [(.slice a2 M c2, o), (.slice a5 M c5, o)] w8.heap.size) := by
    refine lists2 (s := w2.heap.size) ((HO2'.out.below HB25.out (Nat.le_refl _)).below HC8.out (Nat.le_refl _)) ((HO5'.out.base ?_).below HC8.out (Nat.le_refl _)) (fun k hk => (HO2'.out.lt k hk).2) (fun k hk => ?_) HEE.out.len HEE.out.len HB18.out.size _
    · have := HB24.out.size; have := HB2.out.size; omega
    · have := (HO5'.out.lt k hk).1; have := HB24.out.size; omega
  have HAW := hide (apart_walk (w8.alloc (.cells #[.slice a2 M c2, .slice a5 M c5] 22)) w1.heap.size w8.heap.size 2 (some ⟨w8.heap.size, 0, none⟩) [(.slice a2 M c2, o), (.slice a5 M c5, o)] HLS.out (fun _ => rfl))
  go_wp2_with fail
  refine HAW.out.mono ?_
  rintro e w9 ⟨rfl, hk⟩
  have HB19 : Hid (Below w1.heap.size w1 w9) := keep_below8 (HB18.out.alloc HB18.out.size _) hk (Nat.le_refl _) (fun p hp k e => by
    obtain ⟨j, hj⟩ := List.getElem?_of_mem hp
    exact ((HLS.out.ob j p hj).lt k e).1)
  have HB09 := hide (HB1.out.trans (HB19.out.mono HB1.out.size))
  clear hk HAW
  go_wp2
  go_ret
  exact ⟨rfl, HB09.out⟩
end Go.Proofs.YtpmgnpfpnkmmbaaGreatDoor

