import Derived.Test.YtpmgnpfpnkmmbaaGreatDoorG45Wkb
import Derived.Test.YtpmgnpfpnkmmbaaGreatDoorG46Wkx
import Derived.Test.YtpmgnpfpnkmmbaaGreatDoorG47Wkv
import Derived.Test.YtpmgnpfpnkmmbaaGreatDoorG39Opx
namespace Go.Proofs.YtpmgnpfpnkmmbaaGreatDoor
open Go.RowKit Go.Maps
set_option maxRecDepth 20000
set_option linter.unusedVariables false
set_option linter.unusedSimpArgs false

theorem ORp.drewN {w : World} {B : Nat} {v : Value} {R : List (Array Value)} (h : ORp 54 6 w B v R) (n : Nat) : ORp 54 6 (w.drewN n) B v R := h.move fun k hk => rfl

set_option maxHeartbeats 8000000 in
theorem inflateWalks_walk (v : Value) (l : List Int) (limit : Int) (W : World) (h : SB W v l) (hB : Byt l) (hr : l.length ≤ 140737488351232) (T : Tab W) (O : Odr W) (X : Xodr W) :
    Calls Tryz.prog 3 #[v, .int .i64 limit] W fun e w' => e = .returned (.bool true) ∧ Below W.heap.size W w' := by
  have HFR := hide (framedB_any v l W h hr)
  have HS := hide h
  have HB := hide hB
  have HT := hide T
  have HO := hide O
  have HX := hide X
  obtain ⟨co, cco, rfl, -⟩ := h
  clear hB T O X
  go_enter Tryz.func3, Tryz.ntmps3
  go_wp2_with fail
  refine HFR.out.mono ?_
  rintro e w1 ⟨g, c, rfl, ho1, hb1⟩
  obtain ⟨hin, hgc, hgm⟩ := ob_front8 ho1
  have HIN := hide (hWalk hin HB.out limit (HT.out.mono hb1) (HO.out.mono hb1))
  have HO1 := hide ho1
  have HB1 := hide hb1
  have hi1 : (0 : Int) ≤ (l.length : Int) := by omega
  have hi2 : (l.length : Int) ≤ (c : Int) := by omega
  clear hin ho1 hb1 HFR
  go_wp2_with fail
  refine HIN.out.mono ?_
  rintro e w2 ⟨E, R, a2, c2, hE, rfl, ho2, hb2, hl2⟩
  have HEE := hide hE
  have HO2 := hide ho2
  have HB2 := hide hb2
  have HLL := hide hl2
  have HB02 := hide (HB1.out.trans (hb2.mono HB1.out.size))
  clear hE ho2 hb2 hl2 HIN
  have HV := hide (vWalk (HS.out.below HB02.out) HB.out limit (HX.out.mono HB02.out))
  go_wp2_with fail
  refine HV.out.mono ?_
  rintro e w3 ⟨E3, R3, a3, c3, hE3, rfl, ho3, hb3, -⟩
  obtain ⟨rfl, rfl⟩ := HEE.out.det hE3
  have HO3 := hide ho3
  have HB3 := hide hb3
  have HB03 := hide (HB02.out.trans (hb3.mono HB02.out.size))
  clear hE3 ho3 hb3 HV
  have HCP := hide (copied8_any _ l w3 (HS.out.below HB03.out) hr)
  go_wp2_with fail
  refine HCP.out.mono ?_
  rintro e w4 ⟨rfl, ho4, hb4⟩
  have HB4 := hide hb4
  have HB04 := hide (HB03.out.trans (hb4.mono HB03.out.size))
  have hs4 := ho4.sb
  have HX4 := hide (hWalk (l := l) hs4 HB.out limit (HT.out.mono HB04.out) (HO.out.mono HB04.out))
  clear ho4 hb4 HCP hs4
  go_wp2_with fail
  refine HX4.out.mono ?_
  rintro e w5 ⟨E5, R5, a5, c5, hE5, rfl, ho5, hb5, -⟩
  obtain ⟨rfl, rfl⟩ := HEE.out.det hE5
  have HO5 := hide ho5
  have HB5 := hide hb5
  clear hE5 ho5 hb5 HX4
  have HB24 : Hid (Below w2.heap.size w2 w4) := HB3.out.trans (HB4.out.mono HB3.out.size)
  have HB25 : Hid (Below w2.heap.size w2 w5) := HB24.out.trans (HB5.out.mono HB24.out.size)
  have HB35 : Hid (Below w3.heap.size w3 w5) := HB4.out.trans (HB5.out.mono HB4.out.size)
  have HB15 : Hid (Below w1.heap.size w1 w5) := HB2.out.trans (HB25.out.mono HB2.out.size)
  obtain ⟨M, HM⟩ : ∃ M : Nat, Hid (M = R.length) := ⟨_, rfl⟩
  have HO2' : Hid (ORp 54 6 w2 w1.heap.size (.slice a2 M c2) (R.map pcq)) := by show ORp _ _ _ _ _ _; rw [HM.out]; exact HO2.out
  have HO3' : Hid (ORp 54 6 w3 w2.heap.size (.slice a3 M c3) (R.map pcq)) := by show ORp _ _ _ _ _ _; rw [HM.out]; exact HO3.out
  have HO5' : Hid (ORp 54 6 w5 w4.heap.size (.slice a5 M c5) (R.map pcq)) := by show ORp _ _ _ _ _ _; rw [HM.out]; exact HO5.out
  rw [← HM.out]
  clear HO2 HO3 HO5
  have HO2n : Hid (ORp 54 6 w5 w1.heap.size (.slice a2 M c2) (R.map pcq)) := HO2'.out.below HB25.out (Nat.le_refl _)
  have HO3n : Hid (ORp 54 6 w5 w2.heap.size (.slice a3 M c3) (R.map pcq)) := HO3'.out.below HB35.out (Nat.le_refl _)
  have HR2 : Hid (∀ k, (Value.slice a2 M c2).ownBlock = some k → k < w2.heap.size) := fun k hk => (HO2'.out.lt k hk).2
  have heq : (E == E) = true := by simp
  clear HO2' HO3'
  go_wp2_with fail
  refine (samePieces_any _ _ R w5 _ _ HO2n.out HO3n.out HLL.out).mono ?_
  rintro e w6 ⟨rfl, n6, h6⟩
  have HC6 : Hid (Below w5.heap.size w5 w6) := by rw [h6]; exact below_dr8 (Below.refl _ _) n6
  clear h6
  go_wp2_with fail
  refine (numb_any _ _).mono ?_
  rintro e w7 ⟨rfl, h7⟩
  rw [h7]
  clear h7 w7
  have HB16 : Hid (Below w1.heap.size w1 w6) := HB15.out.trans (HC6.out.mono HB15.out.size)
  have HB06 : Hid (Below W.heap.size W w6) := HB1.out.trans (HB16.out.mono HB1.out.size)
  go_wp2_with fail
  refine (wholeB_any (.slice co l.length cco) g c l w6 (HO1.out.below HB16.out (Nat.le_refl _)).sb (HS.out.below HB06.out) hr).mono ?_
  rintro e w7 ⟨rfl, n7, h7⟩
  have HC7 : Hid (Below w5.heap.size w5 w7) := by rw [h7]; exact below_dr8 HC6.out n7
  clear h7
  go_wp2_with fail
  refine (samePieces_any _ _ R w7 _ _ (HO5'.out.below HC7.out (Nat.le_refl _)) (HO3n.out.below HC7.out (Nat.le_refl _)) HLL.out).mono ?_
  rintro e w8 ⟨rfl, n8, h8⟩
  have HC8 : Hid (Below w5.heap.size w5 w8) := by rw [h8]; exact below_dr8 HC7.out n8
  clear h8
  have HB18 : Hid (Below w1.heap.size w1 w8) := HB15.out.trans (HC8.out.mono HB15.out.size)
  have HAP : Hid (Calls Tryz.prog 13 #[.slice a2 M c2, .slice a5 M c5] w8 fun e w' => e = .returned (.bool true) ∧ Below w1.heap.size w8 w') := by
    have hm : M ≤ 268435456 := by rw [HM.out]; exact HLL.out
    refine apartPieces_any _ _ M M w8 w1.heap.size ⟨R.map pcq, HO2n.out.below HC8.out (Nat.le_refl _), by rw [List.length_map, HM.out], fun i hi => absurd hi (Nat.not_lt_zero _)⟩ ⟨R.map pcq, (HO5'.out.below HC8.out (Nat.le_refl _)).base ?_, by rw [List.length_map, HM.out], fun i hi => absurd hi (Nat.not_lt_zero _)⟩ (fun k hk hk2 => ?_) HB18.out.size hm hm
    · have := HB24.out.size; have := HB2.out.size; omega
    · have := HR2.out k hk; have := (HO5'.out.lt k hk2).1; have := HB24.out.size; omega
  go_wp2_with fail
  refine HAP.out.mono ?_
  rintro e w9 ⟨rfl, hb9⟩
  have HB19 : Hid (Below w1.heap.size w1 w9) := HB18.out.trans hb9
  have HB09 := hide (HB1.out.trans (HB19.out.mono HB1.out.size))
  clear hb9 HAP
  go_wp2
  go_ret
  exact ⟨rfl, HB09.out⟩
end Go.Proofs.YtpmgnpfpnkmmbaaGreatDoor

