import Derived.Test.YtpmgnpfpnkmmbaaGreatDoorG38Frm
import Derived.Test.YtpmgnpfpnkmmbaaGreatDoorG40Bkv
import Derived.Test.YtpmgnpfpnkmmbaaGreatDoorG42Ifr
namespace Go.Proofs.YtpmgnpfpnkmmbaaGreatDoor
open Go.RowKit Go.Maps
set_option maxRecDepth 20000
set_option linter.unusedVariables false
set_option linter.unusedSimpArgs false

theorem Ifl.len {l : List Int} {limit E : Int} {n : Nat} {o : List Int} (h : Ifl l limit E n o) : o.length ≤ 20000000 ∧ n ≤ 268435456 := by
  by_cases he : E = 0
  · subst he
    obtain ⟨u1, u2, u3, u4, u5⟩ := h.used
    omega
  · rcases h with ⟨_, _, rfl, rfl⟩ | ⟨_, ps, q, o', ht, ⟨h0, _⟩ | ⟨_, rfl, rfl⟩⟩
    · simp
    · exact absurd h0 he
    · simp

set_option maxHeartbeats 16000000 in
theorem inflateReads_walk (v : Value) (l : List Int) (limit : Int) (W : World) (h : SB W v l) (hB : Byt l) (hr : l.length ≤ 140737488351232) (T : Tab W) (O : Odr W) (X : Xodr W) :
    Calls Tryz.prog 4 #[v, .int .i64 limit] W fun e w' => e = .returned (.bool true) ∧ Below W.heap.size W w' := by
  have HFR := hide (framedB_any v l W h hr)
  have HS := hide h
  have HB := hide hB
  have HT := hide T
  have HO := hide O
  have HX := hide X
  obtain ⟨co, cco, rfl, -⟩ := h
  clear hB T O X
  go_enter Tryz.func4, Tryz.ntmps4
  go_wp2_with fail
  refine HFR.out.mono ?_
  rintro e w1 ⟨g, c, rfl, ho1, hb1⟩
  obtain ⟨hin, hgc, hgm⟩ := ob_front8 ho1
  have HIN := hide (hInflate hin HB.out limit (HT.out.mono hb1) (HO.out.mono hb1))
  have HO1 := hide ho1
  have HB1 := hide hb1
  have HGG : Hid (W.heap.size ≤ g ∧ g < w1.heap.size) := ho1.lt g rfl
  have hi1 : (0 : Int) ≤ (l.length : Int) := by omega
  have hi2 : (l.length : Int) ≤ (c : Int) := by omega
  clear hin ho1 hb1 HFR
  go_wp2_with fail
  refine HIN.out.mono ?_
  rintro e w2 ⟨E, n, o, a2, c2, hE, rfl, ho2, hb2⟩
  have HEE := hide hE
  have HO2 := hide ho2
  have HB2 := hide hb2
  have HB02 := hide (HB1.out.trans (hb2.mono HB1.out.size))
  clear hE ho2 hb2 HIN
  have HV := hide (vInflate (HS.out.below HB02.out) HB.out limit (HX.out.mono HB02.out))
  go_wp2_with fail
  refine HV.out.mono ?_
  rintro e w3 ⟨E3, n3, o3, a3, c3, hE3, rfl, ho3, hb3⟩
  obtain ⟨rfl, rfl, rfl⟩ := HEE.out.det hE3
  have HO3 := hide ho3
  have HB3 := hide hb3
  have HB03 := hide (HB02.out.trans (hb3.mono HB02.out.size))
  clear hE3 ho3 hb3 HV
  have HCP := hide (copied8_any _ l w3 (HS.out.below HB03.out) hr)
  go_wp2_with fail
  refine HCP.out.mono ?_
  rintro e w4 ⟨rfl, ho4, hb4⟩
  have HB4 := hide hb4
  have HB04 := hide (HB03.out.trans (hb4.mono HB03.out.size))
  have hs4 := ho4.sb
  have HX4 := hide (hInflate (l := l) hs4 HB.out limit (HT.out.mono HB04.out) (HO.out.mono HB04.out))
  clear ho4 hb4 HCP hs4
  go_wp2_with fail
  refine HX4.out.mono ?_
  rintro e w5 ⟨E5, n5, o5, a5, c5, hE5, rfl, ho5, hb5⟩
  obtain ⟨rfl, rfl, rfl⟩ := HEE.out.det hE5
  have HO5 := hide ho5
  have HB5 := hide hb5
  have HB05 := hide (HB04.out.trans (hb5.mono HB04.out.size))
  clear hE5 ho5 hb5 HX4
  have HB24 : Hid (Below w2.heap.size w2 w4) := HB3.out.trans (HB4.out.mono HB3.out.size)
  have HB25 : Hid (Below w2.heap.size w2 w5) := HB24.out.trans (HB5.out.mono HB24.out.size)
  have HB35 : Hid (Below w3.heap.size w3 w5) := HB4.out.trans (HB5.out.mono HB4.out.size)
  have HB15 : Hid (Below w1.heap.size w1 w5) := HB2.out.trans (HB25.out.mono HB2.out.size)
  obtain ⟨M, HM⟩ : ∃ M : Nat, Hid (M = o.length) := ⟨_, rfl⟩
  have HO2' : Hid (OB w2 w1.heap.size (.slice a2 M c2) o) := by show OB _ _ _ _; rw [HM.out]; exact HO2.out
  have HO3' : Hid (OB w3 w2.heap.size (.slice a3 M c3) o) := by show OB _ _ _ _; rw [HM.out]; exact HO3.out
  have HO5' : Hid (OB w5 w4.heap.size (.slice a5 M c5) o) := by show OB _ _ _ _; rw [HM.out]; exact HO5.out
  rw [← HM.out]
  have HR2 : Hid (∀ k, (Value.slice a2 M c2).ownBlock = some k → k < w2.heap.size) := fun k hk => (HO2'.out.lt k hk).2
  have HR5 : Hid (∀ k, (Value.slice a5 M c5).ownBlock = some k → k < w5.heap.size) := fun k hk => (HO5'.out.lt k hk).2
  clear HO2 HO3 HO5
  have hn28 := HEE.out.len.2
  have heq : (E != E) = false := by simp
  have hnq : ((n : Int) != (n : Int)) = false := by simp
  go_wp2_with fail
  refine (same8 (HO2'.out.below HB25.out (Nat.le_refl _)).sb (HO3'.out.below HB35.out (Nat.le_refl _)).sb).mono ?_
  rintro e w6 ⟨rfl, n6, h6⟩
  have HC6 : Hid (Below w5.heap.size w5 w6) := by rw [h6]; exact below_dr8 (Below.refl _ _) n6
  clear h6
  go_wp2_with fail
  refine (numb_any _ _).mono ?_
  rintro e w7 ⟨rfl, h7⟩
  rw [h7]
  clear h7 w7
  have HB16 : Hid (Below w1.heap.size w1 w6) := HB15.out.trans (HC6.out.mono HB15.out.size)
  have HB06 : Hid (Below W.heap.size W w6) := HB1.out.trans (HB16.out.mono HB1.out.size)
  go_wp2_with fail
  refine (wholeB_any (.slice co l.length cco) g c l w6 (HO1.out.below HB16.out (Nat.le_refl _)).sb (HS.out.below HB06.out) hr).mono ?_
  rintro e w7 ⟨rfl, n7, h7⟩
  have HC7 : Hid (Below w5.heap.size w5 w7) := by rw [h7]; exact below_dr8 HC6.out n7
  have HB07 : Hid (Below W.heap.size W w7) := by rw [h7]; exact below_dr8 HB06.out n7
  clear h7
  have HBK := hide (backwardB_any _ l w7 (HS.out.below HB07.out) hr)
  go_wp2_with fail
  refine HBK.out.mono ?_
  rintro e w8 ⟨a8, c8, rfl, ho8, hb8⟩
  obtain ⟨R, HRV⟩ : ∃ R, Hid (R = l.reverse) := ⟨_, rfl⟩
  rw [← HRV.out] at ho8
  have HRL : Hid (R.length = l.length) := by show _ = _; rw [HRV.out, List.length_reverse]
  have HBR : Hid (Byt R) := by rw [HRV.out]; exact byt_rev HB.out
  have HO8 := hide ho8
  have HB8 := hide hb8
  have HC8 : Hid (Below w5.heap.size w5 w8) := HC7.out.trans (hb8.mono HC7.out.size)
  have HB18 : Hid (Below w1.heap.size w1 w8) := HB15.out.trans (HC8.out.mono HB15.out.size)
  clear ho8 hb8 HBK
  have HOG : Hid (OB w8 W.heap.size (.slice (some ⟨g, 0, none⟩) (l.length + 4) c) (l ++ marks4)) := HO1.out.below HB18.out (Nat.le_refl _)
  go_wp2_with (refine wpList_copyB rfl _ _ rfl W.heap.size g (l.length + 4) c (l ++ marks4) R HOG.out (by rw [HRL.out]; rfl) _ rfl HO8.out.sb (by rw [HRL.out, List.length_append]; omega) ?_)
  intro w9 ho9 hg9
  have e9 : R ++ (l ++ marks4).drop R.length = R ++ marks4 := by rw [HRL.out, List.drop_left]
  rw [e9] at ho9
  have HO9 := hide ho9
  have hgl := HGG.out
  have HBK9 : Hid (∀ (x : World) (v : Value) (q : List Int) (B : Nat), OB x B v q → Below x.heap.size x w8 → w1.heap.size ≤ B → OB w9 B v q) := fun x v q B hq hb hB => (hq.below hb (Nat.le_refl _)).move fun k hk => hg9.block k (by have := ((hq.below hb (Nat.le_refl _)).lt k hk).2; exact this) (fun e => by have := (hq.lt k hk).1; simp only [Option.some.injEq] at e; omega)
  have HB09 : Hid (Below W.heap.size W w9) := (HB1.out.trans (HB18.out.mono HB1.out.size)).grown hg9 (HB1.out.trans (HB18.out.mono HB1.out.size)).size (fun k hk => by simp only [Option.some.injEq] at hk; omega)
  have HT9 := hide (HT.out.mono HB09.out)
  have HOd9 := hide (HO.out.mono HB09.out)
  have HX9 := hide (HX.out.mono HB09.out)
  have HO2n : Hid (OB w9 w1.heap.size (.slice a2 M c2) o) := HBK9.out w2 _ _ _ HO2'.out (HB25.out.trans (HC8.out.mono HB25.out.size)) (Nat.le_refl _)
  have HO3n : Hid (OB w9 w2.heap.size (.slice a3 M c3) o) := HBK9.out w3 _ _ _ HO3'.out (HB35.out.trans (HC8.out.mono HB35.out.size)) HB2.out.size
  have HO5n : Hid (OB w9 w4.heap.size (.slice a5 M c5) o) := HBK9.out w5 _ _ _ HO5'.out HC8.out (by have := HB2.out.size; have := HB24.out.size; omega)
  have HO8n : Hid (OB w9 w7.heap.size (.slice a8 l.length c8) R) := HBK9.out w8 _ _ _ HO8.out (Below.refl _ _) (by have := HB15.out.size; have := HC7.out.size; omega)
  have HS89 : Hid (w8.heap.size ≤ w9.heap.size) := hg9.size
  have HIN9 : Hid (SB w9 (.slice (some ⟨g, 0, none⟩) l.length c) R) := by
    have hh := ho9
    rw [← HRL.out] at hh
    have := (ob_front8 hh).1
    rwa [HRL.out] at this
  clear ho9 hg9 HBK9 e9 hgl HOG HO2' HO3' HO5' HO8 HO1
  have HJ9 := hide (hInflate HIN9.out HBR.out limit HT9.out HOd9.out)
  go_wp2_with fail
  refine HJ9.out.mono ?_
  rintro e w10 ⟨F, m, p, a10, c10, hF, rfl, ho10, hb10⟩
  have HFF := hide hF
  have HO10 := hide ho10
  have HB10 := hide hb10
  clear hF ho10 hb10 HJ9
  have HV9 := hide (vInflate (HO8n.out.sb.below HB10.out) HBR.out limit (HX9.out.mono HB10.out))
  go_wp2_with fail
  refine HV9.out.mono ?_
  rintro e w11 ⟨F2, m2, p2, a11, c11, hF2, rfl, ho11, hb11⟩
  obtain ⟨rfl, rfl, rfl⟩ := HFF.out.det hF2
  have HB11 := hide hb11
  have HB9b := hide (HB10.out.trans (hb11.mono HB10.out.size))
  obtain ⟨P, HP⟩ : ∃ P : Nat, Hid (P = p.length) := ⟨_, rfl⟩
  have HO10' : Hid (OB w10 w9.heap.size (.slice a10 P c10) p) := by show OB _ _ _ _; rw [HP.out]; exact HO10.out
  have HO11' : Hid (OB w11 w10.heap.size (.slice a11 P c11) p) := by show OB _ _ _ _; rw [HP.out]; exact ho11
  rw [← HP.out]
  clear hF2 ho11 hb11 HV9 HO10
  have hm28 := HFF.out.len.2
  have heqF : (F == F) = true := by simp
  have hmq : ((m : Int) == (m : Int)) = true := by simp
  go_wp2_with fail
  refine (same8 (HO10'.out.below HB11.out (Nat.le_refl _)).sb HO11'.out.sb).mono ?_
  rintro e w12 ⟨rfl, n12, h12⟩
  have HC12 : Hid (Below w11.heap.size w11 w12) := by rw [h12]; exact below_dr8 (Below.refl _ _) n12
  clear h12
  go_wp2_with fail
  refine (numb_any _ _).mono ?_
  rintro e w13 ⟨rfl, h13⟩
  rw [h13]
  clear h13 w13
  have HB912 : Hid (Below w9.heap.size w9 w12) := HB9b.out.trans (HC12.out.mono HB9b.out.size)
  go_wp2_with fail
  refine (same8 (HO2n.out.below HB912.out (Nat.le_refl _)).sb (HO3n.out.below HB912.out (Nat.le_refl _)).sb).mono ?_
  rintro e w13 ⟨rfl, n13, h13⟩
  have HC13 : Hid (Below w11.heap.size w11 w13) := by rw [h13]; exact below_dr8 HC12.out n13
  have HB913 : Hid (Below w9.heap.size w9 w13) := by rw [h13]; exact below_dr8 HB912.out n13
  clear h13
  have HWH : Hid (Calls Tryz.prog 12 #[.slice (some ⟨g, 0, none⟩) (l.length + 4) c, .slice a8 l.length c8] w13 fun e w' => e = .returned (.bool true) ∧ ∃ n, w' = w13.drewN n) := by
    have h1 := (HO9.out.below HB913.out (Nat.le_refl _)).sb
    have h2 := (HO8n.out.below HB913.out (Nat.le_refl _)).sb
    rw [← HRL.out] at h1 h2 ⊢
    exact wholeB_any _ g c R w13 h1 h2 (by rw [HRL.out]; exact hr)
  go_wp2_with fail
  refine HWH.out.mono ?_
  rintro e w14 ⟨rfl, n14, h14⟩
  have HC14 : Hid (Below w11.heap.size w11 w14) := by rw [h14]; exact below_dr8 HC13.out n14
  have HB914 : Hid (Below w9.heap.size w9 w14) := by rw [h14]; exact below_dr8 HB913.out n14
  clear h14 HWH
  go_wp2_with fail
  refine (same8 (HO5n.out.below HB914.out (Nat.le_refl _)).sb (HO3n.out.below HB914.out (Nat.le_refl _)).sb).mono ?_
  rintro e w15 ⟨rfl, n15, h15⟩
  have HC15 : Hid (Below w11.heap.size w11 w15) := by rw [h15]; exact below_dr8 HC14.out n15
  have HB915 : Hid (Below w9.heap.size w9 w15) := by rw [h15]; exact below_dr8 HB914.out n15
  clear h15
  have HZ : Hid (w1.heap.size ≤ w2.heap.size ∧ w2.heap.size ≤ w4.heap.size ∧ w4.heap.size ≤ w5.heap.size ∧ w5.heap.size ≤ w8.heap.size ∧ w8.heap.size ≤ w9.heap.size ∧ w9.heap.size ≤ w10.heap.size ∧ w10.heap.size ≤ w11.heap.size ∧ w11.heap.size ≤ w15.heap.size) := ⟨HB2.out.size, HB24.out.size, HB5.out.size, HC8.out.size, HS89.out, HB10.out.size, HB11.out.size, HC15.out.size⟩
  have HLS : Hid (Lists (w15.alloc (.cells #[.slice a2 M c2, .slice a5 M c5, .slice a10 P c10] 22)) w1.heap.size [(.slice a2 M c2, o), (.slice a5 M c5, o), (.slice a10 P c10, p)] w15.heap.size) := by
    obtain ⟨z1, z2, z3, z4, z5, z6, z7, z8⟩ := HZ.out
    refine lists3 (s := w2.heap.size) (t := w9.heap.size) (HO2n.out.below HB915.out (Nat.le_refl _)) ((HO5n.out.base ?_).below HB915.out (Nat.le_refl _)) (((HO10'.out.base ?_).below HB11.out (Nat.le_refl _)).below HC15.out (Nat.le_refl _)) HR2.out (fun k hk => ?_) (fun k hk => (HO10'.out.lt k hk).1) ?_ HEE.out.len.1 HEE.out.len.1 HFF.out.len.1 ?_ _
    · omega
    · omega
    · have := (HO5n.out.lt k hk).1; have := HR5.out k hk; omega
    · omega
    · omega
  have HAW := hide (apart_walk (w15.alloc (.cells #[.slice a2 M c2, .slice a5 M c5, .slice a10 P c10] 22)) w1.heap.size w15.heap.size 3 (some ⟨w15.heap.size, 0, none⟩) [(.slice a2 M c2, o), (.slice a5 M c5, o), (.slice a10 P c10, p)] HLS.out (fun _ => rfl))
  go_wp2_with fail
  refine HAW.out.mono ?_
  rintro e w16 ⟨rfl, hk⟩
  have HB015 : Hid (Below W.heap.size W w15) := HB09.out.trans (HB915.out.mono HB09.out.size)
  have HB016 : Hid (Below W.heap.size W w16) := keep_below8 (HB015.out.alloc HB015.out.size _) hk (Nat.le_refl _) (fun p hp k e => by
    obtain ⟨j, hj⟩ := List.getElem?_of_mem hp
    have := ((HLS.out.ob j p hj).lt k e).1
    have := HB1.out.size
    omega)
  clear hk HAW
  go_wp2
  go_ret
  exact ⟨rfl, HB016.out⟩
end Go.Proofs.YtpmgnpfpnkmmbaaGreatDoor

