import Derived.Test.YtmjdpfigkojolaaGreatDoorG47Sbn
import Derived.Test.YtmjdpfigkojolaaGreatDoorG48Sfr
import Derived.BigQuiet
import Derived.Deep.DeepCutAuto
import Derived.Deep.RegionWith
namespace Go.Proofs.YtmjdpfigkojolaaGreatDoor
open Go.RowKit Go.Maps Go.Shelf
attribute [local go_sem] Oper.semAt_some
set_option maxRecDepth 20000
set_option linter.unusedVariables false
set_option linter.unusedSimpArgs false

theorem Ix.far {w w' : World} {B g : Nat} {sz : Int} {ms : List Mk} {K : List Int} {mv kv : Value} (h : Ix w B g sz ms K mv kv) (hg : B ≤ g) (hk : ∀ b, B ≤ b → b < w.heap.size → w'.heap[b]? = w.heap[b]?) : Ix w' B g sz ms K mv kv :=
  ⟨(hk g hg (Array.getElem?_eq_some_iff.1 h.box).1).trans h.box, h.marks.move fun b q => hk b (h.marks.lt b q).1 (h.marks.lt b q).2, h.kept.move fun b q => hk b (h.kept.lt b q).1 (h.kept.lt b q).2⟩

theorem OM.far {w w' : World} {B : Nat} {v : Value} {L : List P2} (h : OM w B v L) (hk : ∀ b, B ≤ b → b < w.heap.size → w'.heap[b]? = w.heap[b]?) : OM w' B v L :=
  h.move fun b q => hk b (ORp.lt h b q).1 (ORp.lt h b q).2

theorem OM.low {w : World} {B : Nat} {v : Value} {L : List P2} (h : OM w B v L) : OM w 0 v L := by
  refine ⟨h.1, h.2.1, ?_⟩
  rcases h.2.2 with q | ⟨g, cap, cur, e, q1, q⟩
  · exact .inl q
  · exact .inr ⟨g, cap, cur, e, Nat.zero_le _, q⟩

theorem ob_front22 {w : World} {base g n c : Nat} {l r : List Int} (h : OB w base (.slice (some ⟨g, 0, none⟩) n c) (l ++ r)) : SB w (.slice (some ⟨g, 0, none⟩) l.length c) l ∧ n = l.length + r.length ∧ n ≤ c ∧ c ≤ 9223372036854775807 := by
  obtain ⟨ao, cap, he, h1, h2, h3, h4⟩ := h.sb
  simp only [Value.slice.injEq] at he
  obtain ⟨rfl, rfl, rfl⟩ := he
  rw [List.length_append] at h1
  refine ⟨⟨_, _, rfl, by omega, h2, h3, fun x hx i hi => ?_⟩, List.length_append, by rw [List.length_append]; exact h1, by unfold maxLen at h2; omega⟩
  have := h4 x hx i (by rw [List.length_append]; omega)
  rw [List.getD_eq_getElem?_getD, List.getElem?_append_left hi] at this
  rwa [List.getD_eq_getElem?_getD]

theorem grown_below {w w' : World} {g B : Nat} (h : w.grownBy w' (some g)) (hB : B ≤ g) (hz : B ≤ w.heap.size) : Below B w w' :=
  ⟨h.os, h.tape, h.output, h.size, fun b hb => h.block b (by omega) (fun e => by simp only [Option.some.injEq] at e; omega)⟩

set_option maxHeartbeats 8000000 in
theorem seekBuilds_walk (v : Value) (l : List Int) (limit step : Int) (W : World) (h : SB W v l) (hB : Byt l) (hr : l.length ≤ 140737488351232) (T : Tab W) (O : Odr W) (X : Xodr W) :
    Calls Tryz.prog 4 #[v, .int .i64 limit, .int .i64 step] W fun e w' => e = .returned (.bool true) ∧ Below W.heap.size W w' := by
  have HTO : Hid (∀ wx, Below W.heap.size W wx → Tab wx ∧ Odr wx ∧ Xodr wx ∧ SB wx v l) := fun wx hb => ⟨T.mono hb, O.mono hb, X.mono hb, h.below hb⟩
  have HBY := hide hB
  have HLN := hide hr
  have HFR := hide (framedB_any v l W h hr)
  have HNM : Hid (∀ (e : Int) (w : World), Calls Tryz.prog 9 #[.int .i64 e] w fun x w' => x = .returned (.int .i64 e) ∧ w' = w) := num22
  obtain ⟨R, HR⟩ : ∃ R, Hid (R = l.reverse) := ⟨_, rfl⟩
  have HRL : Hid (R.length = l.length) := by show _ = _; rw [HR.out, List.length_reverse]
  have HRB : Hid (Byt R) := by show Byt R; rw [HR.out]; exact byt_rev hB
  obtain ⟨a0, c0, rfl, -⟩ := h
  clear hB hr T O X
  go_enter Tryz.func4, Tryz.ntmps4
  go_wp2_with fail
  refine HFR.out.mono ?_
  rintro e w1 ⟨g, c, rfl, ho1, hb1⟩
  have HB1 := hide hb1
  have HO1 := hide ho1
  obtain ⟨hs1, -, hc1, hc2⟩ := ob_front22 ho1
  have HGL : Hid (W.heap.size ≤ g ∧ g < w1.heap.size) := ho1.lt g rfl
  have HBU := hide (hBuild hs1 HBY.out limit step (HTO.out _ hb1).1 (HTO.out _ hb1).2.1)
  have HNEG : Hid ((0 : Int) ≤ (l.length : Int) ∧ (l.length : Int) ≤ (c : Int)) := ⟨by omega, by omega⟩
  have hn0 := HNEG.out.1
  have hn1 := HNEG.out.2
  clear ho1 hb1 hs1 HFR
  go_wp2_with fail
  refine HBU.out.mono ?_
  rintro e w2 hA
  obtain ⟨hb2, E, n, ms, hbr, hcase⟩ := hA.br
  have HB12 := hide hb2
  have HB2 := hide (HB1.out.trans (hb2.mono HB1.out.size))
  have HBR := hide hbr
  have HXB := hide (xBuild (HTO.out _ HB2.out).2.2.2 HBY.out limit step (HTO.out _ HB2.out).2.2.1)
  clear hA hb2 hbr HBU
  rcases hcase with ⟨hE, rfl⟩ | ⟨rfl, g1, mv, kv, K, rfl, hg1, hx1⟩
  · have HE := hide hE
    have hEb : (E == E) = true := by simp
    go_wp2_with fail
    refine HXB.out.mono ?_
    rintro e w3 hX
    obtain ⟨hb3, E3, n3, ms3, hbr3, hcase3⟩ := hX.br
    obtain ⟨rfl, hms⟩ := HBR.out.det hbr3
    have he3 : e = .returned (.tuple #[.pointer none, .int .i64 E]) := by
      rcases hcase3 with ⟨_, q⟩ | ⟨q, _⟩
      · exact q
      · exact absurd q HE.out
    subst he3
    have HB23 := hide hb3
    have HB3 := hide (HB2.out.trans (hb3.mono HB2.out.size))
    have HO3 := hide ((HO1.out.below HB12.out (Nat.le_refl _)).below hb3 (Nat.le_refl _))
    have HWH := hide (wholeB_any _ g c l w3 HO3.out.sb (HTO.out _ HB3.out).2.2.2 HLN.out)
    clear hX hb3 hbr3 hcase3 hms HXB
    go_wp2_with (first | (go_at_call 9; refine (HNM.out _ _).mono ?_; rintro e w4 ⟨rfl, hq⟩; have hq2 := hq.symm; clear hq; subst hq2) | (go_at_call 14; refine HWH.out.mono ?_; rintro e w4 ⟨rfl, n4, hn4⟩; have HN4 := hide hn4; clear hn4))
    have hb4 : Below W.heap.size W w4 := by rw [HN4.out]; exact below_drewN HB3.out n4
    have HB4 := hide hb4
    have HH4 : Hid (w4.heap = w3.heap) := by show _ = _; rw [HN4.out]; rfl
    have HO4 : Hid (OB w4 W.heap.size (.slice (some ⟨g, 0, none⟩) (l.length + 4) c) (l ++ marks4)) := HO3.out.move fun b _ => by rw [HH4.out]
    have HBK := hide (backwardB_any _ l w4 (HTO.out _ hb4).2.2.2 HLN.out)
    clear hb4 HWH
    first | (refine HBK.out.mono ?_) | (go_wp2_with fail; refine HBK.out.mono ?_)
    rintro e w5 ⟨a5, c5, rfl, ho5, hb5⟩
    rw [← HR.out] at ho5
    have HR5 := hide ho5
    have HB5 := hide hb5
    have HB5W := hide (HB4.out.trans (hb5.mono HB4.out.size))
    have HO5 := hide (HO4.out.below hb5 (Nat.le_refl _))
    clear ho5 hb5 HBK
    go_wp2_with (refine wpList_copyB rfl _ _ rfl W.heap.size g (l.length + 4) c (l ++ marks4) R HO5.out (l.length + 4) rfl (by rw [HRL.out]; omega) _ rfl HR5.out.sb (by rw [HRL.out, List.length_append]; omega) ?_)
    intro w6 ho6 hg6
    obtain ⟨hs6, -, -, -⟩ := ob_front22 ho6
    rw [HRL.out] at hs6
    have hb56 : Below W.heap.size w5 w6 := grown_below hg6 HGL.out.1 HB5W.out.size
    have HB6W := hide (HB5W.out.trans hb56)
    have HC6 : Hid ((∀ b, w1.heap.size ≤ b → b < w3.heap.size → w6.heap[b]? = w3.heap[b]?) ∧ w3.heap.size ≤ w6.heap.size) := by
      have hs43 : w4.heap.size = w3.heap.size := by rw [HH4.out]
      have z5 := HB5.out.size
      refine ⟨fun b q1 q2 => ?_, ?_⟩
      · have e1 : w6.heap[b]? = w5.heap[b]? := hg6.block b (by omega) (fun e => by have := HGL.out.2; simp only [Option.some.injEq] at e; omega)
        have e2 : w5.heap[b]? = w4.heap[b]? := HB5.out.block b (by omega)
        rw [e1, e2, HH4.out]
      · have := hg6.size; omega
    have HR6 : Hid (OB w6 w4.heap.size (.slice a5 l.length c5) R) := HR5.out.move fun b q => hg6.block b (HR5.out.lt b q).2 (fun e => by
      have q1 := (HR5.out.lt b q).1
      have q2 := HGL.out.2
      have q3 : w4.heap.size = w3.heap.size := by rw [HH4.out]
      have q4 := HB12.out.size
      have q5 := HB23.out.size
      simp only [Option.some.injEq] at e; omega)
    have HBU2 := hide (hBuild hs6 HRB.out limit step (HTO.out _ HB6W.out).1 (HTO.out _ HB6W.out).2.1)
    clear ho6 hg6 hs6 hb56
    go_wp2_with fail
    refine HBU2.out.mono ?_
    rintro e w7 hA2
    obtain ⟨hb7, E2, n2, ms2, hbr2, hcase2⟩ := hA2.br
    have HB7 := hide hb7
    have HB7W := hide (HB6W.out.trans (hb7.mono HB6W.out.size))
    have HBR2 := hide hbr2
    have HXB2 := hide (xBuild (HR6.out.below hb7 (Nat.le_refl _)).sb HRB.out limit step (HTO.out _ HB7W.out).2.2.1)
    clear hA2 hb7 hbr2 HBU2
    rcases hcase2 with ⟨hE2, rfl⟩ | ⟨rfl, g2, mv2, kv2, K2, rfl, hg2, hx2⟩
    · have HE2 := hide hE2
      have hEb2 : (E2 == E2) = true := by simp
      go_wp2_with fail
      refine HXB2.out.mono ?_
      rintro e w8 hX2
      obtain ⟨hb8, E8, n8, ms8, hbr8, hcase8⟩ := hX2.br
      obtain ⟨rfl, hms8⟩ := HBR2.out.det hbr8
      have HB8 := hide hb8
      have HB68 := hide (HB7.out.trans (hb8.mono HB7.out.size))
      have HB8W := hide (HB7W.out.trans (hb8.mono HB7W.out.size))
      have he8 : e = .returned (.tuple #[.pointer none, .int .i64 E2]) := by
        rcases hcase8 with ⟨_, q⟩ | ⟨q, _⟩
        · exact q
        · exact absurd q HE2.out
      subst he8
      clear hX2 hb8 hbr8 hcase8 hms8 HXB2
      go_wp2_with (go_at_call 9; refine (HNM.out _ _).mono ?_; rintro e w9 ⟨rfl, hq⟩; have hq2 := hq.symm; clear hq; subst hq2)
      go_ret
      exact ⟨rfl, HB8W.out⟩
    · have HX7 := hide hx2
      have HG7 := hide hg2
      clear hx2 hg2
      go_wp2_with fail
      refine HXB2.out.mono ?_
      rintro e w8 hX2
      obtain ⟨hb8, E8, n8, ms8, hbr8, hcase8⟩ := hX2.br
      obtain ⟨rfl, hms8⟩ := HBR2.out.det hbr8
      have HB8 := hide hb8
      have HB68 := hide (HB7.out.trans (hb8.mono HB7.out.size))
      have HB8W := hide (HB7W.out.trans (hb8.mono HB7W.out.size))
      obtain ⟨gz, pv2, wv2, he8, hgz, hq8, hp8⟩ : ∃ gz pv2 wv2, e = .returned (.tuple #[.pointer (some ⟨gz, 0, none⟩), .int .i64 0]) ∧ w7.heap.size ≤ gz ∧ w8.heap[gz]? = some (qxO pv2 wv2 n2) ∧ OM w8 w7.heap.size pv2 (ms2.map mk2) := by
        rcases hcase8 with ⟨q, _⟩ | ⟨_, gz, pv2, wv2, q, q1, q2, q3⟩
        · exact absurd rfl q
        · obtain ⟨rfl, rfl⟩ := hms8 rfl
          exact ⟨gz, pv2, wv2, q, q1, q2, q3⟩
      subst he8
      have HOK2 := hide HBR2.out.ok
      have HQ8 := hide (And.intro hgz (And.intro hq8 hp8))
      have HX8 := hide (HX7.out.far HG7.out fun b _ hb => hb8.block b hb)
      have HMA := hide (hMarks HX8.out (by have := HOK2.out; omega))
      have HLL2 : Hid ((ms2.map mk2).length = ms2.length) := List.length_map ..
      clear hX2 hb8 hbr8 hcase8 hms8 HXB2 hgz hq8 hp8
      go_wp2_with (first | (go_at_call 9; refine (HNM.out _ _).mono ?_; rintro e w9 ⟨rfl, hq⟩; have hq2 := hq.symm; clear hq; subst hq2) | fail)
      refine HMA.out.mono ?_
      rintro e w9 ⟨a9, c9, rfl, ho9, hb9⟩
      have HO9 := hide ho9
      have HB9 := hide hb9
      have HMQ := hide (hQMarks ((hb9.block _ (Array.getElem?_eq_some_iff.1 HQ8.out.2.1).1).trans HQ8.out.2.1) (HQ8.out.2.2.far fun b _ hb => hb9.block b hb) (by rw [HLL2.out]; exact HOK2.out.1) (by rw [HLL2.out]; have := HOK2.out; omega))
      clear ho9 hb9 HMA
      go_wp2_with fail
      refine HMQ.out.mono ?_
      rintro e w10 ⟨u10, rfl, ho10, hb10⟩
      have HB10 := hide (HB9.out.trans (hb10.mono HB9.out.size))
      have HSM := hide (hsame22 (HO9.out.far fun b _ hb => hb10.block b hb) ho10 (by rw [HLL2.out]; exact HOK2.out.2.1))
      clear ho10 hb10 HMQ
      go_wp2_with fail
      refine HSM.out.mono ?_
      rintro e w11 ⟨rfl, n11, hn11⟩
      have HB11 : Hid (Below w8.heap.size w8 w11) := by show Below _ _ _; rw [hn11]; exact below_drewN HB10.out n11
      clear hn11 HSM
      go_wp2
      go_ret
      exact ⟨rfl, HB8W.out.trans (HB11.out.mono HB8W.out.size)⟩
  · have HX1 := hide hx1
    have HG1 := hide hg1
    clear hx1 hg1
    go_wp2_with fail
    refine HXB.out.mono ?_
    rintro e w3 hX
    obtain ⟨hb3, E3, n3, ms3, hbr3, hcase3⟩ := hX.br
    obtain ⟨rfl, hms⟩ := HBR.out.det hbr3
    obtain ⟨gy, pv, wv, he3, hgy, hq3, hp3⟩ : ∃ gy pv wv, e = .returned (.tuple #[.pointer (some ⟨gy, 0, none⟩), .int .i64 0]) ∧ w2.heap.size ≤ gy ∧ w3.heap[gy]? = some (qxO pv wv n) ∧ OM w3 w2.heap.size pv (ms.map mk2) := by
      rcases hcase3 with ⟨q, _⟩ | ⟨_, gy, pv, wv, q, q1, q2, q3⟩
      · exact absurd rfl q
      · obtain ⟨rfl, rfl⟩ := hms rfl
        exact ⟨gy, pv, wv, q, q1, q2, q3⟩
    subst he3
    have HQ3 := hide (And.intro hgy (And.intro hq3 hp3))
    have HX3 := hide (HX1.out.far HG1.out fun b _ hb => hb3.block b hb)
    have HOK := hide HBR.out.ok
    clear hgy hq3 hp3
    have HB23 := hide hb3
    have HB3 := hide (HB2.out.trans (hb3.mono HB2.out.size))
    have HO3 := hide ((HO1.out.below HB12.out (Nat.le_refl _)).below hb3 (Nat.le_refl _))
    have HWH := hide (wholeB_any _ g c l w3 HO3.out.sb (HTO.out _ HB3.out).2.2.2 HLN.out)
    clear hX hb3 hbr3 hcase3 hms HXB
    go_wp2_with (first | (go_at_call 9; refine (HNM.out _ _).mono ?_; rintro e w4 ⟨rfl, hq⟩; have hq2 := hq.symm; clear hq; subst hq2) | (go_at_call 14; refine HWH.out.mono ?_; rintro e w4 ⟨rfl, n4, hn4⟩; have HN4 := hide hn4; clear hn4))
    have hb4 : Below W.heap.size W w4 := by rw [HN4.out]; exact below_drewN HB3.out n4
    have HB4 := hide hb4
    have HH4 : Hid (w4.heap = w3.heap) := by show _ = _; rw [HN4.out]; rfl
    have HO4 : Hid (OB w4 W.heap.size (.slice (some ⟨g, 0, none⟩) (l.length + 4) c) (l ++ marks4)) := HO3.out.move fun b _ => by rw [HH4.out]
    have HBK := hide (backwardB_any _ l w4 (HTO.out _ hb4).2.2.2 HLN.out)
    clear hb4 HWH
    first | (refine HBK.out.mono ?_) | (go_wp2_with fail; refine HBK.out.mono ?_)
    rintro e w5 ⟨a5, c5, rfl, ho5, hb5⟩
    rw [← HR.out] at ho5
    have HR5 := hide ho5
    have HB5 := hide hb5
    have HB5W := hide (HB4.out.trans (hb5.mono HB4.out.size))
    have HO5 := hide (HO4.out.below hb5 (Nat.le_refl _))
    clear ho5 hb5 HBK
    go_wp2_with (refine wpList_copyB rfl _ _ rfl W.heap.size g (l.length + 4) c (l ++ marks4) R HO5.out (l.length + 4) rfl (by rw [HRL.out]; omega) _ rfl HR5.out.sb (by rw [HRL.out, List.length_append]; omega) ?_)
    intro w6 ho6 hg6
    obtain ⟨hs6, -, -, -⟩ := ob_front22 ho6
    rw [HRL.out] at hs6
    have hb56 : Below W.heap.size w5 w6 := grown_below hg6 HGL.out.1 HB5W.out.size
    have HB6W := hide (HB5W.out.trans hb56)
    have HC6 : Hid ((∀ b, w1.heap.size ≤ b → b < w3.heap.size → w6.heap[b]? = w3.heap[b]?) ∧ w3.heap.size ≤ w6.heap.size) := by
      have hs43 : w4.heap.size = w3.heap.size := by rw [HH4.out]
      have z5 := HB5.out.size
      refine ⟨fun b q1 q2 => ?_, ?_⟩
      · have e1 : w6.heap[b]? = w5.heap[b]? := hg6.block b (by omega) (fun e => by have := HGL.out.2; simp only [Option.some.injEq] at e; omega)
        have e2 : w5.heap[b]? = w4.heap[b]? := HB5.out.block b (by omega)
        rw [e1, e2, HH4.out]
      · have := hg6.size; omega
    have HR6 : Hid (OB w6 w4.heap.size (.slice a5 l.length c5) R) := HR5.out.move fun b q => hg6.block b (HR5.out.lt b q).2 (fun e => by
      have q1 := (HR5.out.lt b q).1
      have q2 := HGL.out.2
      have q3 : w4.heap.size = w3.heap.size := by rw [HH4.out]
      have q4 := HB12.out.size
      have q5 := HB23.out.size
      simp only [Option.some.injEq] at e; omega)
    have HBU2 := hide (hBuild hs6 HRB.out limit step (HTO.out _ HB6W.out).1 (HTO.out _ HB6W.out).2.1)
    clear ho6 hg6 hs6 hb56
    go_wp2_with fail
    refine HBU2.out.mono ?_
    rintro e w7 hA2
    obtain ⟨hb7, E2, n2, ms2, hbr2, hcase2⟩ := hA2.br
    have HB7 := hide hb7
    have HB7W := hide (HB6W.out.trans (hb7.mono HB6W.out.size))
    have HBR2 := hide hbr2
    have HXB2 := hide (xBuild (HR6.out.below hb7 (Nat.le_refl _)).sb HRB.out limit step (HTO.out _ HB7W.out).2.2.1)
    clear hA2 hb7 hbr2 HBU2
    rcases hcase2 with ⟨hE2, rfl⟩ | ⟨rfl, g2, mv2, kv2, K2, rfl, hg2, hx2⟩
    · have HE2 := hide hE2
      have hEb2 : (E2 == E2) = true := by simp
      go_wp2_with fail
      refine HXB2.out.mono ?_
      rintro e w8 hX2
      obtain ⟨hb8, E8, n8, ms8, hbr8, hcase8⟩ := hX2.br
      obtain ⟨rfl, hms8⟩ := HBR2.out.det hbr8
      have HB8 := hide hb8
      have HB68 := hide (HB7.out.trans (hb8.mono HB7.out.size))
      have HB8W := hide (HB7W.out.trans (hb8.mono HB7W.out.size))
      have he8 : e = .returned (.tuple #[.pointer none, .int .i64 E2]) := by
        rcases hcase8 with ⟨_, q⟩ | ⟨q, _⟩
        · exact q
        · exact absurd q HE2.out
      subst he8
      clear hX2 hb8 hbr8 hcase8 hms8 HXB2
      have HTW : Hid (Below w6.heap.size w6 w8) := HB68.out
      have HTWW : Hid (Below W.heap.size W w8) := HB8W.out
      have HLL : Hid ((ms.map mk2).length = ms.length) := List.length_map ..
      have HKT : Hid (∀ wx, Below w8.heap.size w8 wx → Ix wx w1.heap.size g1 n ms K mv kv ∧ wx.heap[gy]? = some (qxO pv wv n) ∧ OM wx w2.heap.size pv (ms.map mk2)) := fun wx hb => by
        have hz6 := HC6.out.2
        have hzt := HTW.out.size
        have z12 := HB12.out.size
        have hk : ∀ b, w1.heap.size ≤ b → b < w3.heap.size → wx.heap[b]? = w3.heap[b]? := fun b q1 q2 => ((hb.block b (by omega)).trans (HTW.out.block b (by omega))).trans (HC6.out.1 b q1 q2)
        exact ⟨HX3.out.far HG1.out hk, (hk gy (by have := HQ3.out.1; omega) (Array.getElem?_eq_some_iff.1 HQ3.out.2.1).1).trans HQ3.out.2.1, HQ3.out.2.2.far fun b q1 q2 => hk b (by omega) q2⟩
      have HML : Hid (ms.length ≤ 268435456) := by show _ ≤ _; have := HOK.out; omega
      have HQM : Hid (∀ wx, Below w8.heap.size w8 wx → Calls Tryz.prog 17 #[.pointer (some ⟨gy, 0, none⟩)] wx fun e w' => ∃ u, e = .returned u ∧ OM w' wx.heap.size u (ms.map mk2) ∧ Below wx.heap.size wx w') := fun wx hb => hQMarks (HKT.out wx hb).2.1 (HKT.out wx hb).2.2 (by rw [HLL.out]; exact HOK.out.1) (by rw [HLL.out]; exact HML.out)
      have HA0 := hide (hMarks (HKT.out _ (Below.refl _ _)).1 HML.out)
      go_wp2_with (first | (go_at_call 9; refine (HNM.out _ _).mono ?_; rintro e w9 ⟨rfl, hq⟩; have hq2 := hq.symm; clear hq; subst hq2) | fail)
      refine HA0.out.mono ?_
      rintro e wA ⟨aA, cA, rfl, hoA, hbA⟩
      have HOA := hide hoA
      have HBA := hide hbA
      have HAB := hide (hMarks (HKT.out _ hbA).1 HML.out)
      clear hoA hbA HA0
      go_wp2_with fail
      refine HAB.out.mono ?_
      rintro e wB ⟨aB, cB, rfl, hoB, hbB⟩
      have HOB := hide hoB
      have HBB' := hide hbB
      have HBB := hide (HBA.out.trans (hbB.mono HBA.out.size))
      have HOAB := hide (HOA.out.far fun b _ hb => hbB.block b hb)
      have HQB := hide (HQM.out _ HBB.out)
      clear hoB hbB HAB
      go_wp2_with fail
      refine HQB.out.mono ?_
      rintro e wC ⟨uC, rfl, hoC, hbC⟩
      have HBC := hide (HBB.out.trans (hbC.mono HBB.out.size))
      have HBBC := hide hbC
      have HSC := hide (hsame22 (HOAB.out.far fun b _ hb => hbC.block b hb) hoC (by rw [HLL.out]; exact HOK.out.2.1))
      clear hoC hbC HQB
      go_wp2_with fail
      refine HSC.out.mono ?_
      rintro e wD ⟨rfl, nD, hnD⟩
      have HBBD : Hid (Below wB.heap.size wB wD) := by show Below _ _ _; rw [hnD]; exact below_drewN HBBC.out nD
      have HBD := hide (HBB.out.trans (HBBD.out.mono HBB.out.size))
      have HQD := hide (HQM.out _ HBD.out)
      clear hnD HSC
      go_wp2_with fail
      refine HQD.out.mono ?_
      rintro e wE ⟨uE, rfl, hoE, hbE⟩
      have HBBE := hide (HBBD.out.trans (hbE.mono HBBD.out.size))
      have HSE := hide (hsame22 (HOB.out.far fun b _ hb => HBBE.out.block b hb) hoE (by rw [HLL.out]; exact HOK.out.2.1))
      clear hoE hbE HQD
      go_wp2_with fail
      refine HSE.out.mono ?_
      rintro e wF ⟨rfl, nF, hnF⟩
      have HBBF : Hid (Below wB.heap.size wB wF) := by show Below _ _ _; rw [hnF]; exact below_drewN HBBE.out nF
      have HBF := hide (HBB.out.trans (HBBF.out.mono HBB.out.size))
      have HS1 := hide (hSize (HKT.out _ HBF.out).1)
      have HS2 := hide (hQSize (HKT.out _ HBF.out).2.1)
      clear hnF HSE
      go_wp2_with fail
      refine HS1.out.mono ?_
      rintro e wG ⟨rfl, hwG⟩
      have hwG' := hwG.symm
      clear hwG HS1
      subst hwG'
      go_wp2_with fail
      refine HS2.out.mono ?_
      rintro e wG ⟨rfl, hwG⟩
      have hwG' := hwG.symm
      clear hwG HS2
      subst hwG'
      have HSPM := hide (hspoilMarks ((HOAB.out.far fun b _ hb => HBBF.out.block b hb).low) (by rw [HLL.out]; exact HOK.out.1) (by rw [HLL.out]; have := HOK.out; omega))
      go_wp2_with fail
      refine HSPM.out.mono ?_
      rintro e wH ⟨rfl, hmH⟩
      have HOAL : Hid (∀ b, (Value.slice aA ms.length cA).ownBlock = some b → w8.heap.size ≤ b ∧ b < wA.heap.size) := fun b q => ORp.lt HOA.out b q
      have HBH : Hid (Below w8.heap.size w8 wH) := by
        have hzF := HBF.out.size
        exact ⟨hmH.os.trans HBF.out.os, hmH.tape.trans HBF.out.tape, hmH.output.trans HBF.out.output, Nat.le_trans hzF hmH.size, fun b hb => (hmH.blk b (by omega) (fun q => by have := (HOAL.out b q).1; omega)).trans (HBF.out.block b hb)⟩
      have HOBH : Hid (OM wH wA.heap.size (.slice aB ms.length cB) (ms.map mk2)) := HOB.out.far fun b q1 q2 => (hmH.blk b (by have := HBBF.out.size; omega) (fun q => by have := (HOAL.out b q).2; omega)).trans (HBBF.out.block b q2)
      have HQH := hide (HQM.out _ HBH.out)
      clear hmH HSPM
      go_wp2_with fail
      refine HQH.out.mono ?_
      rintro e wI ⟨uI, rfl, hoI, hbI⟩
      have HBI := hide (HBH.out.trans (hbI.mono HBH.out.size))
      have HSI := hide (hsame22 (HOBH.out.far fun b _ hb => hbI.block b hb) hoI (by rw [HLL.out]; exact HOK.out.2.1))
      clear hoI hbI HQH
      go_wp2_with fail
      refine HSI.out.mono ?_
      rintro e wJ ⟨rfl, nJ, hnJ⟩
      have HBJ : Hid (Below w8.heap.size w8 wJ) := by show Below _ _ _; rw [hnJ]; exact below_drewN HBI.out nJ
      have HMJ := hide (hMarks (HKT.out _ HBJ.out).1 HML.out)
      clear hnJ HSI
      go_wp2_with fail
      refine HMJ.out.mono ?_
      rintro e wK ⟨aK, cK, rfl, hoK, hbK⟩
      have HOK9 := hide hoK
      have HBK9 := hide (HBJ.out.trans (hbK.mono HBJ.out.size))
      have HQK := hide (HQM.out _ HBK9.out)
      clear hoK hbK HMJ
      go_wp2_with fail
      refine HQK.out.mono ?_
      rintro e wL ⟨uL, rfl, hoL, hbL⟩
      have HBL := hide (HBK9.out.trans (hbL.mono HBK9.out.size))
      have HSL := hide (hsame22 (HOK9.out.far fun b _ hb => hbL.block b hb) hoL (by rw [HLL.out]; exact HOK.out.2.1))
      clear hoL hbL HQK
      go_wp2_with fail
      refine HSL.out.mono ?_
      rintro e wM ⟨rfl, nM, hnM⟩
      have HBM : Hid (Below w8.heap.size w8 wM) := by show Below _ _ _; rw [hnM]; exact below_drewN HBL.out nM
      clear hnM HSL
      go_wp2
      go_ret
      exact ⟨rfl, HTWW.out.trans (HBM.out.mono HTWW.out.size)⟩
    · have HX7 := hide hx2
      have HG7 := hide hg2
      clear hx2 hg2
      go_wp2_with fail
      refine HXB2.out.mono ?_
      rintro e w8 hX2
      obtain ⟨hb8, E8, n8, ms8, hbr8, hcase8⟩ := hX2.br
      obtain ⟨rfl, hms8⟩ := HBR2.out.det hbr8
      have HB8 := hide hb8
      have HB68 := hide (HB7.out.trans (hb8.mono HB7.out.size))
      have HB8W := hide (HB7W.out.trans (hb8.mono HB7W.out.size))
      obtain ⟨gz, pv2, wv2, he8, hgz, hq8, hp8⟩ : ∃ gz pv2 wv2, e = .returned (.tuple #[.pointer (some ⟨gz, 0, none⟩), .int .i64 0]) ∧ w7.heap.size ≤ gz ∧ w8.heap[gz]? = some (qxO pv2 wv2 n2) ∧ OM w8 w7.heap.size pv2 (ms2.map mk2) := by
        rcases hcase8 with ⟨q, _⟩ | ⟨_, gz, pv2, wv2, q, q1, q2, q3⟩
        · exact absurd rfl q
        · obtain ⟨rfl, rfl⟩ := hms8 rfl
          exact ⟨gz, pv2, wv2, q, q1, q2, q3⟩
      subst he8
      have HOK2 := hide HBR2.out.ok
      have HQ8 := hide (And.intro hgz (And.intro hq8 hp8))
      have HX8 := hide (HX7.out.far HG7.out fun b _ hb => hb8.block b hb)
      have HMA := hide (hMarks HX8.out (by have := HOK2.out; omega))
      have HLL2 : Hid ((ms2.map mk2).length = ms2.length) := List.length_map ..
      clear hX2 hb8 hbr8 hcase8 hms8 HXB2 hgz hq8 hp8
      go_wp2_with (first | (go_at_call 9; refine (HNM.out _ _).mono ?_; rintro e w9 ⟨rfl, hq⟩; have hq2 := hq.symm; clear hq; subst hq2) | fail)
      refine HMA.out.mono ?_
      rintro e w9 ⟨a9, c9, rfl, ho9, hb9⟩
      have HO9 := hide ho9
      have HB9 := hide hb9
      have HMQ := hide (hQMarks ((hb9.block _ (Array.getElem?_eq_some_iff.1 HQ8.out.2.1).1).trans HQ8.out.2.1) (HQ8.out.2.2.far fun b _ hb => hb9.block b hb) (by rw [HLL2.out]; exact HOK2.out.1) (by rw [HLL2.out]; have := HOK2.out; omega))
      clear ho9 hb9 HMA
      go_wp2_with fail
      refine HMQ.out.mono ?_
      rintro e w10 ⟨u10, rfl, ho10, hb10⟩
      have HB10 := hide (HB9.out.trans (hb10.mono HB9.out.size))
      have HSM := hide (hsame22 (HO9.out.far fun b _ hb => hb10.block b hb) ho10 (by rw [HLL2.out]; exact HOK2.out.2.1))
      clear ho10 hb10 HMQ
      go_wp2_with fail
      refine HSM.out.mono ?_
      rintro e w11 ⟨rfl, n11, hn11⟩
      have HB11 : Hid (Below w8.heap.size w8 w11) := by show Below _ _ _; rw [hn11]; exact below_drewN HB10.out n11
      clear hn11 HSM
      have HTW : Hid (Below w6.heap.size w6 w11) := HB68.out.trans (HB11.out.mono HB68.out.size)
      have HTWW : Hid (Below W.heap.size W w11) := HB8W.out.trans (HB11.out.mono HB8W.out.size)
      have HLL : Hid ((ms.map mk2).length = ms.length) := List.length_map ..
      have HKT : Hid (∀ wx, Below w11.heap.size w11 wx → Ix wx w1.heap.size g1 n ms K mv kv ∧ wx.heap[gy]? = some (qxO pv wv n) ∧ OM wx w2.heap.size pv (ms.map mk2)) := fun wx hb => by
        have hz6 := HC6.out.2
        have hzt := HTW.out.size
        have z12 := HB12.out.size
        have hk : ∀ b, w1.heap.size ≤ b → b < w3.heap.size → wx.heap[b]? = w3.heap[b]? := fun b q1 q2 => ((hb.block b (by omega)).trans (HTW.out.block b (by omega))).trans (HC6.out.1 b q1 q2)
        exact ⟨HX3.out.far HG1.out hk, (hk gy (by have := HQ3.out.1; omega) (Array.getElem?_eq_some_iff.1 HQ3.out.2.1).1).trans HQ3.out.2.1, HQ3.out.2.2.far fun b q1 q2 => hk b (by omega) q2⟩
      have HML : Hid (ms.length ≤ 268435456) := by show _ ≤ _; have := HOK.out; omega
      have HQM : Hid (∀ wx, Below w11.heap.size w11 wx → Calls Tryz.prog 17 #[.pointer (some ⟨gy, 0, none⟩)] wx fun e w' => ∃ u, e = .returned u ∧ OM w' wx.heap.size u (ms.map mk2) ∧ Below wx.heap.size wx w') := fun wx hb => hQMarks (HKT.out wx hb).2.1 (HKT.out wx hb).2.2 (by rw [HLL.out]; exact HOK.out.1) (by rw [HLL.out]; exact HML.out)
      have HA0 := hide (hMarks (HKT.out _ (Below.refl _ _)).1 HML.out)
      go_wp2_with fail
      refine HA0.out.mono ?_
      rintro e wA ⟨aA, cA, rfl, hoA, hbA⟩
      have HOA := hide hoA
      have HBA := hide hbA
      have HAB := hide (hMarks (HKT.out _ hbA).1 HML.out)
      clear hoA hbA HA0
      go_wp2_with fail
      refine HAB.out.mono ?_
      rintro e wB ⟨aB, cB, rfl, hoB, hbB⟩
      have HOB := hide hoB
      have HBB' := hide hbB
      have HBB := hide (HBA.out.trans (hbB.mono HBA.out.size))
      have HOAB := hide (HOA.out.far fun b _ hb => hbB.block b hb)
      have HQB := hide (HQM.out _ HBB.out)
      clear hoB hbB HAB
      go_wp2_with fail
      refine HQB.out.mono ?_
      rintro e wC ⟨uC, rfl, hoC, hbC⟩
      have HBC := hide (HBB.out.trans (hbC.mono HBB.out.size))
      have HBBC := hide hbC
      have HSC := hide (hsame22 (HOAB.out.far fun b _ hb => hbC.block b hb) hoC (by rw [HLL.out]; exact HOK.out.2.1))
      clear hoC hbC HQB
      go_wp2_with fail
      refine HSC.out.mono ?_
      rintro e wD ⟨rfl, nD, hnD⟩
      have HBBD : Hid (Below wB.heap.size wB wD) := by show Below _ _ _; rw [hnD]; exact below_drewN HBBC.out nD
      have HBD := hide (HBB.out.trans (HBBD.out.mono HBB.out.size))
      have HQD := hide (HQM.out _ HBD.out)
      clear hnD HSC
      go_wp2_with fail
      refine HQD.out.mono ?_
      rintro e wE ⟨uE, rfl, hoE, hbE⟩
      have HBBE := hide (HBBD.out.trans (hbE.mono HBBD.out.size))
      have HSE := hide (hsame22 (HOB.out.far fun b _ hb => HBBE.out.block b hb) hoE (by rw [HLL.out]; exact HOK.out.2.1))
      clear hoE hbE HQD
      go_wp2_with fail
      refine HSE.out.mono ?_
      rintro e wF ⟨rfl, nF, hnF⟩
      have HBBF : Hid (Below wB.heap.size wB wF) := by show Below _ _ _; rw [hnF]; exact below_drewN HBBE.out nF
      have HBF := hide (HBB.out.trans (HBBF.out.mono HBB.out.size))
      have HS1 := hide (hSize (HKT.out _ HBF.out).1)
      have HS2 := hide (hQSize (HKT.out _ HBF.out).2.1)
      clear hnF HSE
      go_wp2_with fail
      refine HS1.out.mono ?_
      rintro e wG ⟨rfl, hwG⟩
      have hwG' := hwG.symm
      clear hwG HS1
      subst hwG'
      go_wp2_with fail
      refine HS2.out.mono ?_
      rintro e wG ⟨rfl, hwG⟩
      have hwG' := hwG.symm
      clear hwG HS2
      subst hwG'
      have HSPM := hide (hspoilMarks ((HOAB.out.far fun b _ hb => HBBF.out.block b hb).low) (by rw [HLL.out]; exact HOK.out.1) (by rw [HLL.out]; have := HOK.out; omega))
      go_wp2_with fail
      refine HSPM.out.mono ?_
      rintro e wH ⟨rfl, hmH⟩
      have HOAL : Hid (∀ b, (Value.slice aA ms.length cA).ownBlock = some b → w11.heap.size ≤ b ∧ b < wA.heap.size) := fun b q => ORp.lt HOA.out b q
      have HBH : Hid (Below w11.heap.size w11 wH) := by
        have hzF := HBF.out.size
        exact ⟨hmH.os.trans HBF.out.os, hmH.tape.trans HBF.out.tape, hmH.output.trans HBF.out.output, Nat.le_trans hzF hmH.size, fun b hb => (hmH.blk b (by omega) (fun q => by have := (HOAL.out b q).1; omega)).trans (HBF.out.block b hb)⟩
      have HOBH : Hid (OM wH wA.heap.size (.slice aB ms.length cB) (ms.map mk2)) := HOB.out.far fun b q1 q2 => (hmH.blk b (by have := HBBF.out.size; omega) (fun q => by have := (HOAL.out b q).2; omega)).trans (HBBF.out.block b q2)
      have HQH := hide (HQM.out _ HBH.out)
      clear hmH HSPM
      go_wp2_with fail
      refine HQH.out.mono ?_
      rintro e wI ⟨uI, rfl, hoI, hbI⟩
      have HBI := hide (HBH.out.trans (hbI.mono HBH.out.size))
      have HSI := hide (hsame22 (HOBH.out.far fun b _ hb => hbI.block b hb) hoI (by rw [HLL.out]; exact HOK.out.2.1))
      clear hoI hbI HQH
      go_wp2_with fail
      refine HSI.out.mono ?_
      rintro e wJ ⟨rfl, nJ, hnJ⟩
      have HBJ : Hid (Below w11.heap.size w11 wJ) := by show Below _ _ _; rw [hnJ]; exact below_drewN HBI.out nJ
      have HMJ := hide (hMarks (HKT.out _ HBJ.out).1 HML.out)
      clear hnJ HSI
      go_wp2_with fail
      refine HMJ.out.mono ?_
      rintro e wK ⟨aK, cK, rfl, hoK, hbK⟩
      have HOK9 := hide hoK
      have HBK9 := hide (HBJ.out.trans (hbK.mono HBJ.out.size))
      have HQK := hide (HQM.out _ HBK9.out)
      clear hoK hbK HMJ
      go_wp2_with fail
      refine HQK.out.mono ?_
      rintro e wL ⟨uL, rfl, hoL, hbL⟩
      have HBL := hide (HBK9.out.trans (hbL.mono HBK9.out.size))
      have HSL := hide (hsame22 (HOK9.out.far fun b _ hb => hbL.block b hb) hoL (by rw [HLL.out]; exact HOK.out.2.1))
      clear hoL hbL HQK
      go_wp2_with fail
      refine HSL.out.mono ?_
      rintro e wM ⟨rfl, nM, hnM⟩
      have HBM : Hid (Below w11.heap.size w11 wM) := by show Below _ _ _; rw [hnM]; exact below_drewN HBL.out nM
      clear hnM HSL
      go_wp2
      go_ret
      exact ⟨rfl, HTWW.out.trans (HBM.out.mono HTWW.out.size)⟩
end Go.Proofs.YtmjdpfigkojolaaGreatDoor

