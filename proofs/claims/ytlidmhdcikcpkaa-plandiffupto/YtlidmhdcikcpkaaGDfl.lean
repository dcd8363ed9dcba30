import Derived.Test.YtlidmhdcikcpkaaGDfy
import Derived.Test.YtlidmhdcikcpkaaGSmw
namespace Go.Proofs.Ytlidmhdcikcpkaa
open Go.RowKit Go.Maps
set_option maxRecDepth 20000
set_option linter.unusedVariables false
set_option linter.unusedSimpArgs false

theorem Lent.below15 {w w' : World} {base B : Nat} {v : Value} {l : List Int} (h : Lent w base v l) (hb : Below B w w') (hB : w.heap.size ≤ B) : Lent w' base v l := by
  obtain ⟨g, c, rfl, ho⟩ := h
  have := OB.below ho hb hB
  exact ⟨g, c, rfl, this⟩

set_option maxHeartbeats 16000000 in
theorem diffs_walk (vo vn : Value) (O N : List Int) (w : World) (ho : SB w vo O) (hn : SB w vn N) (hO : O.length ≤ 1048576) (hl : N.length ≤ 1048576) :
    Calls Try.prog 5 #[vo, vn] w fun e w' => e = .returned (.bool true) ∧ Below w.heap.size w w' := by
  have HO := hide ho
  have HN := hide hn
  have HL1 := hide (lent_any vo O w ho (by omega))
  have HL2 := hide (fun w1 (hb : Below w.heap.size w w1) => lent_any vn N w1 (hn.below hb) (by omega))
  have HPD := hide (fun u1 u2 w1 (h1 : SB w1 u1 O) (h2 : SB w1 u2 N) => pDiff_any u1 u2 O N w1 h1 h2 hl)
  have HYD := hide (fun w1 (hb : Below w.heap.size w w1) => yDiff_any vo vn O N w1 (ho.below hb) (hn.below hb) hl)
  clear ho hn
  go_enter Try.func5, Try.ntmps5
  go_wp2_with fail
  refine HL1.out.mono ?_
  rintro e w1 ⟨u1, rfl, hle1, hb1⟩
  have HE1 := hide hle1
  have HB1 := hide hb1
  clear hle1 hb1 HL1
  go_wp2_with fail
  refine (HL2.out w1 HB1.out).mono ?_
  rintro e w2 ⟨u2, rfl, hle2, hb2⟩
  have HE2 := hide hle2
  have HE1b := hide (HE1.out.below15 hb2 (Nat.le_refl _))
  have HB2 := hide (HB1.out.trans (hb2.mono HB1.out.size))
  clear hle2 hb2 HL2 HE1
  go_wp2_with fail
  refine (HPD.out u1 u2 w2 HE1b.out.sb HE2.out.sb).mono ?_
  rintro e w3 ⟨v3, R3, rfl, hp3, how3, hb3⟩
  have HP3 := hide hp3
  have HW3 := hide how3.sw
  have HB23 := hide hb3
  have HB3 := hide (HB2.out.trans (hb3.mono HB2.out.size))
  clear hp3 how3 hb3 HPD
  go_wp2_with fail
  refine (HYD.out w3 HB3.out).mono ?_
  rintro e w4 ⟨v4, R4, rfl, hp4, hw4, hb4⟩
  have HW4 := hide hw4
  have HPE : Hid (prs R3 = prs R4) := HP3.out.trans hp4.symm
  have HB24 := hide (HB23.out.trans (hb4.mono HB23.out.size))
  have HB4 := hide (HB3.out.trans (hb4.mono HB3.out.size))
  have HW34 := hide (HW3.out.low hb4)
  clear hp4 hw4 hb4 HYD
  go_wp2_with fail
  refine (sameWrites_any v3 v4 R3 R4 w4 HW34.out HW4.out HPE.out).mono ?_
  rintro e w5 ⟨rfl, n5, h5⟩
  have HB5 : Hid (Below w.heap.size w w5) := by rw [h5]; exact below_drewN HB4.out n5
  have HB25 : Hid (Below w2.heap.size w2 w5) := by rw [h5]; exact below_drewN HB24.out n5
  clear h5
  go_wp2_with fail
  refine (still_any u1 vo O w5 _ (HE1b.out.below15 HB25.out (Nat.le_refl _)) (HO.out.below HB5.out) (by omega)).mono ?_
  rintro e w6 ⟨rfl, n6, h6⟩
  have HB6 : Hid (Below w.heap.size w w6) := by rw [h6]; exact below_drewN HB5.out n6
  have HB26 : Hid (Below w2.heap.size w2 w6) := by rw [h6]; exact below_drewN HB25.out n6
  clear h6
  go_wp2_with fail
  refine (still_any u2 vn N w6 _ (HE2.out.below15 HB26.out (Nat.le_refl _)) (HN.out.below HB6.out) (by omega)).mono ?_
  rintro e w7 ⟨rfl, n7, h7⟩
  have HB7 : Hid (Below w.heap.size w w7) := by rw [h7]; exact below_drewN HB6.out n7
  clear h7
  go_wp2
  go_ret
  exact ⟨rfl, HB7.out⟩
end Go.Proofs.Ytlidmhdcikcpkaa

