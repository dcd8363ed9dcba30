import Derived.Test.YtijmmfimkibgbaaGAgp
namespace Go.Proofs.Ytijmmfimkibgbaa
open Go.RowKit Go.Maps
set_option maxRecDepth 20000
set_option linter.unusedVariables false
set_option linter.unusedSimpArgs false

set_option maxHeartbeats 16000000 in
theorem again12_walk (c : Cen) (x : Enr) (okc : c.Ok) (okx : x.Ok) (hf : fitI (ceI c)) (hf2 : fitI (enI x)) (w : World) :
    Calls Try.prog 12 #[c.v, x.v] w fun e w' => e = .returned (.bool true) ∧ Below w.heap.size w w' := by
  obtain ⟨CA, hCA⟩ : ∃ A, A = c.cs := ⟨_, rfl⟩
  have HSCA : Hid (CA.size = 16) := by rw [hCA]; exact rsC _
  have HVCA : Hid (CA.all (·.oneCell') = true) := by rw [hCA]; exact roC _
  have HECA := hide hCA
  obtain ⟨DA, hDA⟩ : ∃ A, A = (flipC c).cs := ⟨_, rfl⟩
  have HSDA : Hid (DA.size = 16) := by rw [hDA]; exact rsC _
  have HVDA : Hid (DA.all (·.oneCell') = true) := by rw [hDA]; exact roC _
  have HEDA := hide hDA
  obtain ⟨XA, hXA⟩ : ∃ A, A = x.cs := ⟨_, rfl⟩
  have HSXA : Hid (XA.size = 7) := by rw [hXA]; exact rsE _
  have HVXA : Hid (XA.all (·.oneCell') = true) := by rw [hXA]; exact roE _
  have HEXA := hide hXA
  obtain ⟨YA, hYA⟩ : ∃ A, A = (flipE x).cs := ⟨_, rfl⟩
  have HSYA : Hid (YA.size = 7) := by rw [hYA]; exact rsE _
  have HVYA : Hid (YA.all (·.oneCell') = true) := by rw [hYA]; exact roE _
  have HEYA := hide hYA
  obtain ⟨LA, hLA⟩ : ∃ A, A = c.loc.cs := ⟨_, rfl⟩
  have HSLA : Hid (LA.size = 10) := by rw [hLA]; exact rsL _
  have HVLA : Hid (LA.all (·.oneCell') = true) := by rw [hLA]; exact roL _
  have HELA := hide hLA
  obtain ⟨MA, hMA⟩ : ∃ A, A = (flipL c.loc).cs := ⟨_, rfl⟩
  have HSMA : Hid (MA.size = 10) := by rw [hMA]; exact rsL _
  have HVMA : Hid (MA.all (·.oneCell') = true) := by rw [hMA]; exact roL _
  have HEMA := hide hMA
  have HCV : Hid (c.v = .agg CA) := by show _ = _; rw [hCA]; rfl
  have HXV : Hid (x.v = .agg XA) := by show _ = _; rw [hXA]; rfl
  have HQC : Hid (∀ W, (Op.equalIn 10000 26 (.agg CA) (.agg CA)).run Try.prog W = .ok true W) := by rw [hCA]; exact eqCo _
  have HQD : Hid (∀ W, (Op.equalIn 10000 26 (.agg DA) (.agg DA)).run Try.prog W = .ok true W) := by rw [hDA]; exact eqCo _
  have HQX : Hid (∀ W, (Op.equalIn 10000 28 (.agg XA) (.agg XA)).run Try.prog W = .ok true W) := by rw [hXA]; exact eqEo _
  have HQY : Hid (∀ W, (Op.equalIn 10000 28 (.agg YA) (.agg YA)).run Try.prog W = .ok true W) := by rw [hYA]; exact eqEo _
  have HQL : Hid (∀ W, (Op.equalIn 10000 24 (.agg LA) (.agg LA)).run Try.prog W = .ok true W) := by rw [hLA]; exact eqLo _
  have HQM : Hid (∀ W, (Op.equalIn 10000 24 (.agg MA) (.agg MA)).run Try.prog W = .ok true W) := by rw [hMA]; exact eqLo _
  have hfl := ce_lo_fit hf
  have okd := flipC_ok okc
  have hfd := flipC_fit okc hf
  have oky := flipE_ok okx hf2
  have hfy := flipE_fit hf2
  have okm := flipL_ok okc.loc
  have hfm := flipL_fit okc.loc hfl
  obtain ⟨A, hA⟩ : ∃ A, A = rowI (ceI c) := ⟨_, rfl⟩
  obtain ⟨A2, hA2⟩ : ∃ A, A = rowI (ceI (flipC c)) := ⟨_, rfl⟩
  obtain ⟨B, hB⟩ : ∃ A, A = rowI (enI x) := ⟨_, rfl⟩
  obtain ⟨B2, hB2⟩ : ∃ A, A = rowI (enI (flipE x)) := ⟨_, rfl⟩
  obtain ⟨K, hK⟩ : ∃ A, A = rowI (loI c.loc) := ⟨_, rfl⟩
  obtain ⟨K2, hK2⟩ : ∃ A, A = rowI (loI (flipL c.loc)) := ⟨_, rfl⟩
  have HPA : Hid (Puts 6 #[.agg CA] A) := by rw [hCA, hA]; exact putsC c okc hf
  have HPA2 : Hid (Puts 6 #[.agg DA] A2) := by rw [hDA, hA2]; exact putsC _ okd hfd
  have HPB : Hid (Puts 7 #[.agg XA] B) := by rw [hXA, hB]; exact putsE x okx hf2
  have HPB2 : Hid (Puts 7 #[.agg YA] B2) := by rw [hYA, hB2]; exact putsE _ oky hfy
  have HPK : Hid (Puts 30 #[.agg LA] K) := by rw [hLA, hK]; exact putsL _ okc.loc hfl
  have HPK2 : Hid (Puts 30 #[.agg MA] K2) := by rw [hMA, hK2]; exact putsL _ okm hfm
  have HGA : Hid (Gets 10 A CA) := by rw [hCA, hA]; exact getsC c hf
  have HGA2 : Hid (Gets 10 A2 DA) := by rw [hDA, hA2]; exact getsC _ hfd
  have HGB : Hid (Gets 33 B XA) := by rw [hXA, hB]; exact getsE x hf2
  have HGB2 : Hid (Gets 33 B2 YA) := by rw [hYA, hB2]; exact getsE _ hfy
  have HGK : Hid (Gets 34 K LA) := by rw [hLA, hK]; exact getsL _ hfl
  have HGK2 : Hid (Gets 34 K2 MA) := by rw [hMA, hK2]; exact getsL _ hfm
  have hlA2 : A2.length = A.length := by rw [hA, hA2]; exact flipC_len c
  have hlB2 : B2.length = B.length := by rw [hB, hB2]; exact flipE_len x
  have hlK2 : K2.length = K.length := by rw [hK, hK2]; exact flipL_len c.loc
  have hA1 : A.length ≤ 200000 := by rw [hA]; exact (rwC c hf).len
  have hB1 : B.length ≤ 200000 := by rw [hB]; exact (rwE x hf2).len
  have hK1 : K.length ≤ 200000 := by rw [hK]; exact (rwL c.loc hfl).len
  obtain ⟨s1, hs1⟩ : ∃ s, s = c.loc.sum := ⟨_, rfl⟩
  obtain ⟨s2, hs2⟩ : ∃ s, bits .xor .u32 s1 1 = s := ⟨_, rfl⟩
  obtain ⟨y1, hy1⟩ : ∃ s, s = x.disk := ⟨_, rfl⟩
  obtain ⟨y2, hy2⟩ : ∃ s, bits .xor .i64 y1 1 = s := ⟨_, rfl⟩
  have h5 : CA[5]? = some (.int .u32 s1) := by rw [hCA, hs1]; rfl
  have h5d : CA.setIfInBounds 5 (.int .u32 s2) = DA := by rw [hCA, hDA, ← hs2, hs1]; rfl
  have h0 : XA[0]? = some (.int .i64 y1) := by rw [hXA, hy1]; rfl
  have h0d : XA.setIfInBounds 0 (.int .i64 y2) = YA := by rw [hXA, hYA, ← hy2, hy1]; rfl
  rw [HCV.out, HXV.out]
  clear hA hA2 hB hB2 hK hK2 hf hf2 hfl hfd hfy hfm okd oky okm okc okx hCA hDA hXA hYA hLA hMA HCV HXV hs1 hy1
  obtain ⟨w1, hw1⟩ : ∃ y, w.alloc (.cells CA 26) = y := ⟨_, rfl⟩
  obtain ⟨w2, hw2⟩ : ∃ y, w1.alloc (.cells XA 28) = y := ⟨_, rfl⟩
  obtain ⟨g, hg⟩ : ∃ g, w1.heap.size = g := ⟨_, rfl⟩
  have HO2 : Hid (Own w w2 [(w.heap.size, CA, 26), (g, XA, 28)] []) := by rw [← hw2, ← hg, ← hw1]; exact ((Own.start w).box CA 26).box XA 28
  obtain ⟨gd, hgd⟩ : ∃ k, w2.heap.size = k := ⟨_, rfl⟩
  obtain ⟨w3, hw3⟩ : ∃ y, w2.alloc (.cells CA 26) = y := ⟨_, rfl⟩
  have HN0_2 := hide (HO2.out.bx 0 w.heap.size CA 26 rfl).1
  have HZd : Hid ((w2.alloc (.cells #[.int .i64 0, .int .i64 0, .int .i64 0, .int .i64 0, .int .i64 0, .int .u32 0, .int .i64 0, .int .i64 0, .string ⟨#[]⟩, .string ⟨#[]⟩, .int .i64 0, .int .i64 0, .int .i64 0, .int .i64 0, .int .i64 0, .string ⟨#[]⟩] 26)).heap[gd]? = some (.cells #[.int .i64 0, .int .i64 0, .int .i64 0, .int .i64 0, .int .i64 0, .int .u32 0, .int .i64 0, .int .i64 0, .string ⟨#[]⟩, .string ⟨#[]⟩, .int .i64 0, .int .i64 0, .int .i64 0, .int .i64 0, .int .i64 0, .string ⟨#[]⟩] 26 (0, 0))) := by rw [← hgd]; exact heap_alloc_new _ _
  have HWd : Hid ((w2.alloc (.cells #[.int .i64 0, .int .i64 0, .int .i64 0, .int .i64 0, .int .i64 0, .int .u32 0, .int .i64 0, .int .i64 0, .string ⟨#[]⟩, .string ⟨#[]⟩, .int .i64 0, .int .i64 0, .int .i64 0, .int .i64 0, .int .i64 0, .string ⟨#[]⟩] 26)).setRow gd CA = w3) := by show _ = _; rw [← hgd, World.setRow_alloc_new]; exact hw3
  have hN3 : w3.heap[gd]? = some (.cells CA 26 (0, 0)) := by rw [← hw3, ← hgd]; exact heap_alloc_new _ _
  have hb3 : Below w2.heap.size w2 w3 := by rw [← hw3]; exact (Below.refl _ _).alloc (Nat.le_refl _) _
  have hO3 := HO2.out.low hb3
  obtain ⟨c5, -⟩ := box_at (hO3.bx 0 w.heap.size CA 26 rfl).1 h5
  obtain ⟨d5, f5⟩ := box_at hN3 h5
  obtain ⟨w4, hw4⟩ : ∃ y, w3.setCell ⟨gd, 5, none⟩ (.int .u32 s2) = y := ⟨_, rfl⟩
  have hb4 : Below w2.heap.size w2 w4 := by rw [← hw4]; exact hb3.setCell (p := ⟨gd, 5, none⟩) (by show _ ≤ gd; omega) _
  have HO4 : Hid (Own w w4 [(w.heap.size, CA, 26), (g, XA, 28), (gd, DA, 26)] []) := HO2.out.at' hb4 (by rw [← hw4, ← h5d]; exact heap_setCell_at _ hN3) (by omega)
  have HN1_4 := hide (HO4.out.bx 1 g XA 28 rfl).1
  obtain ⟨gy, hgy⟩ : ∃ k, w4.heap.size = k := ⟨_, rfl⟩
  obtain ⟨w5, hw5⟩ : ∃ y, w4.alloc (.cells XA 28) = y := ⟨_, rfl⟩
  have HZy : Hid ((w4.alloc (.cells #[.int .i64 0, .int .i64 0, .int .i64 0, .int .i64 0, .int .i64 0, .int .i64 0, .string ⟨#[]⟩] 28)).heap[gy]? = some (.cells #[.int .i64 0, .int .i64 0, .int .i64 0, .int .i64 0, .int .i64 0, .int .i64 0, .string ⟨#[]⟩] 28 (0, 0))) := by rw [← hgy]; exact heap_alloc_new _ _
  have HWy : Hid ((w4.alloc (.cells #[.int .i64 0, .int .i64 0, .int .i64 0, .int .i64 0, .int .i64 0, .int .i64 0, .string ⟨#[]⟩] 28)).setRow gy XA = w5) := by show _ = _; rw [← hgy, World.setRow_alloc_new]; exact hw5
  have hN5 : w5.heap[gy]? = some (.cells XA 28 (0, 0)) := by rw [← hw5, ← hgy]; exact heap_alloc_new _ _
  have hb5 : Below w4.heap.size w4 w5 := by rw [← hw5]; exact (Below.refl _ _).alloc (Nat.le_refl _) _
  have hO5 := HO4.out.low hb5
  obtain ⟨c0, -⟩ := box_at (hO5.bx 1 g XA 28 rfl).1 h0
  obtain ⟨d0, f0⟩ := box_at hN5 h0
  obtain ⟨w6, hw6⟩ : ∃ y, w5.setCell ⟨gy, 0, none⟩ (.int .i64 y2) = y := ⟨_, rfl⟩
  have hb6 : Below w4.heap.size w4 w6 := by rw [← hw6]; exact hb5.setCell (p := ⟨gy, 0, none⟩) (by show _ ≤ gy; omega) _
  have HO6 : Hid (Own w w6 [(w.heap.size, CA, 26), (g, XA, 28), (gd, DA, 26), (gy, YA, 28)] []) := HO4.out.at' hb6 (by rw [← hw6, ← h0d]; exact heap_setCell_at _ hN5) (by omega)
  clear hN3 hN5 hb3 hb4 hb5 hb6 hO3 hO5 h5 h0 h5d h0d hw3 hw5
  have HN0_6 := hide (HO6.out.bx 0 w.heap.size CA 26 rfl).1
  go_enter Try.func12, Try.ntmps12
  go_wp2_with (first | ((with_reducible refine wpList_gC w.heap.size CA HSCA.out ?hw ?hx HN0_2.out ?_); (case hw => rfl); (case hx => rfl)) | ((with_reducible refine wpList_stC gd CA #[.int .i64 0, .int .i64 0, .int .i64 0, .int .i64 0, .int .i64 0, .int .u32 0, .int .i64 0, .int .i64 0, .string ⟨#[]⟩, .string ⟨#[]⟩, .int .i64 0, .int .i64 0, .int .i64 0, .int .i64 0, .int .i64 0, .string ⟨#[]⟩] HSCA.out rfl HVCA.out ?hx ?hy HZd.out ?_); (case hx => rfl); (case hy => rfl); rw [HWd.out]) | ((with_reducible refine wpList_gE g XA HSXA.out ?hw ?hx HN1_4.out ?_); (case hw => rfl); (case hx => rfl)) | ((with_reducible refine wpList_stE gy XA #[.int .i64 0, .int .i64 0, .int .i64 0, .int .i64 0, .int .i64 0, .int .i64 0, .string ⟨#[]⟩] HSXA.out rfl HVXA.out ?hx ?hy HZy.out ?_); (case hx => rfl); (case hy => rfl); rw [HWy.out]) | ((with_reducible refine wpList_gC w.heap.size CA HSCA.out ?hw ?hx HN0_6.out ?_); (case hw => rfl); (case hx => rfl)))
  clear hw1 hw2 hw4 hw6 hg hgd hgy HO2 HO4 HZd HWd HZy HWy HN0_2 HN1_4 HN0_6 c5 d5 f5 c0 d0 f0 hs2 hy2
  refine (HPA.out _).mono ?_
  rintro e w7 ⟨ga, pa, rfl, ho, hb, za1, za2⟩
  have HO7 : Hid (Own w w7 [(w.heap.size, CA, 26), (g, XA, 28), (gd, DA, 26), (gy, YA, 28)] [(ga, pa, A)]) := HO6.out.add hb ho
  clear hb ho HO6
  have HN2_7 := hide (HO7.out.bx 2 gd DA 26 rfl).1
  go_wp2_with (first | ((with_reducible refine wpList_gC gd DA HSDA.out ?hw ?hx HN2_7.out ?_); (case hw => rfl); (case hx => rfl)))
  clear HN2_7
  refine (HPA2.out _).mono ?_
  rintro e w8 ⟨gb, pb, rfl, ho, hb, zb1, zb2⟩
  have HO8 : Hid (Own w w8 [(w.heap.size, CA, 26), (g, XA, 28), (gd, DA, 26), (gy, YA, 28)] [(ga, pa, A), (gb, pb, A2)]) := HO7.out.add hb ho
  clear hb ho HO7
  have HN1_8 := hide (HO8.out.bx 1 g XA 28 rfl).1
  go_wp2_with (first | ((with_reducible refine wpList_gE g XA HSXA.out ?hw ?hx HN1_8.out ?_); (case hw => rfl); (case hx => rfl)))
  clear HN1_8
  refine (HPB.out _).mono ?_
  rintro e w9 ⟨gm, pm, rfl, ho, hb, zm1, zm2⟩
  have HO9 : Hid (Own w w9 [(w.heap.size, CA, 26), (g, XA, 28), (gd, DA, 26), (gy, YA, 28)] [(ga, pa, A), (gb, pb, A2), (gm, pm, B)]) := HO8.out.add hb ho
  clear hb ho HO8
  have HN3_9 := hide (HO9.out.bx 3 gy YA 28 rfl).1
  go_wp2_with (first | ((with_reducible refine wpList_gE gy YA HSYA.out ?hw ?hx HN3_9.out ?_); (case hw => rfl); (case hx => rfl)))
  clear HN3_9
  refine (HPB2.out _).mono ?_
  rintro e w10 ⟨gn, pn, rfl, ho, hb, zn1, zn2⟩
  have HO10 : Hid (Own w w10 [(w.heap.size, CA, 26), (g, XA, 28), (gd, DA, 26), (gy, YA, 28)] [(ga, pa, A), (gb, pb, A2), (gm, pm, B), (gn, pn, B2)]) := HO9.out.add hb ho
  clear hb ho HO9
  have HM0_10 : Hid (w10.rangeAt w.heap.size 0 LA.toList) := by
    have h := (HO10.out.bx 0 w.heap.size CA 26 rfl).1
    rw [HECA.out] at h
    rw [HELA.out]
    exact cen_loc c h
  go_wp2_with (first | ((with_reducible refine wpList_gM w.heap.size LA HSLA.out ?hw ?hx HM0_10.out ?_); (case hw => rfl); (case hx => rfl)))
  clear HM0_10
  refine (HPK.out _).mono ?_
  rintro e w11 ⟨gk, pk, rfl, ho, hb, zk1, zk2⟩
  have HO11 : Hid (Own w w11 [(w.heap.size, CA, 26), (g, XA, 28), (gd, DA, 26), (gy, YA, 28)] [(ga, pa, A), (gb, pb, A2), (gm, pm, B), (gn, pn, B2), (gk, pk, K)]) := HO10.out.add hb ho
  clear hb ho HO10
  have HM2_11 : Hid (w11.rangeAt gd 0 MA.toList) := by
    have h := (HO11.out.bx 2 gd DA 26 rfl).1
    rw [HEDA.out] at h
    rw [HEMA.out]
    exact cen_loc (flipC c) h
  go_wp2_with (first | ((with_reducible refine wpList_gM gd MA HSMA.out ?hw ?hx HM2_11.out ?_); (case hw => rfl); (case hx => rfl)))
  clear HM2_11
  refine (HPK2.out _).mono ?_
  rintro e w12 ⟨gl, pl, rfl, ho, hb, zl1, zl2⟩
  have HO12 : Hid (Own w w12 [(w.heap.size, CA, 26), (g, XA, 28), (gd, DA, 26), (gy, YA, 28)] [(ga, pa, A), (gb, pb, A2), (gm, pm, B), (gn, pn, B2), (gk, pk, K), (gl, pl, K2)]) := HO11.out.add hb ho
  clear hb ho HO11
  go_wp2_with fail
  have HSB13 : Hid (SB w12 (.slice (some ⟨ga, 0, none⟩) A.length pa) A) := by
    have h := (HO12.out.sl 0 ga pa A rfl).sb
    exact h
  refine (HGA.out _ _ HSB13.out).mono ?_
  rintro e wg13 ⟨rfl, hb⟩
  have HOg := hide (HO12.out.low hb)
  have HZ13 : Hid ((wg13.alloc (.cells #[.int .i64 0, .int .i64 0, .int .i64 0, .int .i64 0, .int .i64 0, .int .u32 0, .int .i64 0, .int .i64 0, .string ⟨#[]⟩, .string ⟨#[]⟩, .int .i64 0, .int .i64 0, .int .i64 0, .int .i64 0, .int .i64 0, .string ⟨#[]⟩] 26)).heap[wg13.heap.size]? = some (.cells #[.int .i64 0, .int .i64 0, .int .i64 0, .int .i64 0, .int .i64 0, .int .u32 0, .int .i64 0, .int .i64 0, .string ⟨#[]⟩, .string ⟨#[]⟩, .int .i64 0, .int .i64 0, .int .i64 0, .int .i64 0, .int .i64 0, .string ⟨#[]⟩] 26 (0, 0))) := heap_alloc_new _ _
  obtain ⟨w13, hwn⟩ : ∃ y, wg13.alloc (.cells CA 26) = y := ⟨_, rfl⟩
  have HWN13 : Hid ((wg13.alloc (.cells #[.int .i64 0, .int .i64 0, .int .i64 0, .int .i64 0, .int .i64 0, .int .u32 0, .int .i64 0, .int .i64 0, .string ⟨#[]⟩, .string ⟨#[]⟩, .int .i64 0, .int .i64 0, .int .i64 0, .int .i64 0, .int .i64 0, .string ⟨#[]⟩] 26)).setRow wg13.heap.size CA = w13) := by show _ = _; rw [World.setRow_alloc_new]; exact hwn
  obtain ⟨q1, hgz⟩ : ∃ k, k = wg13.heap.size := ⟨_, rfl⟩
  have HO13 : Hid (Own w w13 [(w.heap.size, CA, 26), (g, XA, 28), (gd, DA, 26), (gy, YA, 28), (q1, CA, 26)] [(ga, pa, A), (gb, pb, A2), (gm, pm, B), (gn, pn, B2), (gk, pk, K), (gl, pl, K2)]) := by rw [← hwn, hgz]; exact HOg.out.box CA 26
  rw [← hgz] at HZ13 HWN13
  have hgz13 := hgz.symm
  clear hb hwn HOg HO12 hgz HSB13
  go_wp2_with (first | ((with_reducible refine wpList_stC q1 CA #[.int .i64 0, .int .i64 0, .int .i64 0, .int .i64 0, .int .i64 0, .int .u32 0, .int .i64 0, .int .i64 0, .string ⟨#[]⟩, .string ⟨#[]⟩, .int .i64 0, .int .i64 0, .int .i64 0, .int .i64 0, .int .i64 0, .string ⟨#[]⟩] HSCA.out rfl HVCA.out ?hx ?hy HZ13.out ?_); (case hx => rfl); (case hy => rfl); rw [HWN13.out]))
  clear HZ13 HWN13 hgz13
  have HSB14 : Hid (SB w13 (.slice (some ⟨gm, 0, none⟩) B.length pm) B) := by
    have h := (HO13.out.sl 2 gm pm B rfl).sb
    exact h
  refine (HGB.out _ _ HSB14.out).mono ?_
  rintro e wg14 ⟨rfl, hb⟩
  have HOg := hide (HO13.out.low hb)
  have HZ14 : Hid ((wg14.alloc (.cells #[.int .i64 0, .int .i64 0, .int .i64 0, .int .i64 0, .int .i64 0, .int .i64 0, .string ⟨#[]⟩] 28)).heap[wg14.heap.size]? = some (.cells #[.int .i64 0, .int .i64 0, .int .i64 0, .int .i64 0, .int .i64 0, .int .i64 0, .string ⟨#[]⟩] 28 (0, 0))) := heap_alloc_new _ _
  obtain ⟨w14, hwn⟩ : ∃ y, wg14.alloc (.cells XA 28) = y := ⟨_, rfl⟩
  have HWN14 : Hid ((wg14.alloc (.cells #[.int .i64 0, .int .i64 0, .int .i64 0, .int .i64 0, .int .i64 0, .int .i64 0, .string ⟨#[]⟩] 28)).setRow wg14.heap.size XA = w14) := by show _ = _; rw [World.setRow_alloc_new]; exact hwn
  obtain ⟨q2, hgz⟩ : ∃ k, k = wg14.heap.size := ⟨_, rfl⟩
  have HO14 : Hid (Own w w14 [(w.heap.size, CA, 26), (g, XA, 28), (gd, DA, 26), (gy, YA, 28), (q1, CA, 26), (q2, XA, 28)] [(ga, pa, A), (gb, pb, A2), (gm, pm, B), (gn, pn, B2), (gk, pk, K), (gl, pl, K2)]) := by rw [← hwn, hgz]; exact HOg.out.box XA 28
  rw [← hgz] at HZ14 HWN14
  have hgz14 := hgz.symm
  clear hb hwn HOg HO13 hgz HSB14
  go_wp2_with (first | ((with_reducible refine wpList_stE q2 XA #[.int .i64 0, .int .i64 0, .int .i64 0, .int .i64 0, .int .i64 0, .int .i64 0, .string ⟨#[]⟩] HSXA.out rfl HVXA.out ?hx ?hy HZ14.out ?_); (case hx => rfl); (case hy => rfl); rw [HWN14.out]))
  clear HZ14 HWN14 hgz14
  have HSB15 : Hid (SB w14 (.slice (some ⟨gk, 0, none⟩) K.length pk) K) := by
    have h := (HO14.out.sl 4 gk pk K rfl).sb
    exact h
  refine (HGK.out _ _ HSB15.out).mono ?_
  rintro e wg15 ⟨rfl, hb⟩
  have HOg := hide (HO14.out.low hb)
  have HZ15 : Hid ((wg15.alloc (.cells #[.int .i64 0, .int .i64 0, .int .i64 0, .int .i64 0, .int .i64 0, .int .u32 0, .int .i64 0, .int .i64 0, .string ⟨#[]⟩, .string ⟨#[]⟩] 24)).heap[wg15.heap.size]? = some (.cells #[.int .i64 0, .int .i64 0, .int .i64 0, .int .i64 0, .int .i64 0, .int .u32 0, .int .i64 0, .int .i64 0, .string ⟨#[]⟩, .string ⟨#[]⟩] 24 (0, 0))) := heap_alloc_new _ _
  obtain ⟨w15, hwn⟩ : ∃ y, wg15.alloc (.cells LA 24) = y := ⟨_, rfl⟩
  have HWN15 : Hid ((wg15.alloc (.cells #[.int .i64 0, .int .i64 0, .int .i64 0, .int .i64 0, .int .i64 0, .int .u32 0, .int .i64 0, .int .i64 0, .string ⟨#[]⟩, .string ⟨#[]⟩] 24)).setRow wg15.heap.size LA = w15) := by show _ = _; rw [World.setRow_alloc_new]; exact hwn
  obtain ⟨q3, hgz⟩ : ∃ k, k = wg15.heap.size := ⟨_, rfl⟩
  have HO15 : Hid (Own w w15 [(w.heap.size, CA, 26), (g, XA, 28), (gd, DA, 26), (gy, YA, 28), (q1, CA, 26), (q2, XA, 28), (q3, LA, 24)] [(ga, pa, A), (gb, pb, A2), (gm, pm, B), (gn, pn, B2), (gk, pk, K), (gl, pl, K2)]) := by rw [← hwn, hgz]; exact HOg.out.box LA 24
  rw [← hgz] at HZ15 HWN15
  have hgz15 := hgz.symm
  clear hb hwn HOg HO14 hgz HSB15
  go_wp2_with (first | ((with_reducible refine wpList_stL q3 LA #[.int .i64 0, .int .i64 0, .int .i64 0, .int .i64 0, .int .i64 0, .int .u32 0, .int .i64 0, .int .i64 0, .string ⟨#[]⟩, .string ⟨#[]⟩] HSLA.out rfl HVLA.out ?hx ?hy HZ15.out ?_); (case hx => rfl); (case hy => rfl); rw [HWN15.out]))
  clear HZ15 HWN15 hgz15
  go_loopw [28] (fun i wq => ∃ k : Nat, i = .int .i64 (k : Int) ∧ k ≤ A.length ∧ Hid (Own w wq [(w.heap.size, CA, 26), (g, XA, 28), (gd, DA, 26), (gy, YA, 28), (q1, CA, 26), (q2, XA, 28), (q3, LA, 24)] [(ga, pa, A2.take k ++ A.drop k), (gb, pb, A2), (gm, pm, B), (gn, pn, B2), (gk, pk, K), (gl, pl, K2)])) (fun i _ => A.length - (intOf i).toNat)
  case atStart => exact ⟨0, rfl, Nat.zero_le _, by show Own _ _ _ _; simpa only [List.take_zero, List.drop_zero, List.nil_append] using HO15.out⟩
  case round =>
    obtain ⟨w16, hwn⟩ : ∃ y, y = wr := ⟨_, rfl⟩
    subst hwn
    clear HO15
    obtain ⟨k, rfl, hk, HQ⟩ := hrel
    by_cases hlt : k < A.length
    case pos =>
      have hlt' : (k : Int) < (A.length : Int) := by omega
      obtain ⟨hs, ⟨u, d0⟩, df, d1⟩ := Own.over (i := 0) (j := 1) (h := gb) (q := pb) HQ.out rfl rfl hlA2 hlt
      obtain ⟨v, hv⟩ : ∃ v, A2.getD k 0 = v := ⟨_, rfl⟩
      rw [hv] at hs d1
      have HS : Hid (Own w (w16.setCell ⟨ga, k, none⟩ (.int .u8 v)) [(w.heap.size, CA, 26), (g, XA, 28), (gd, DA, 26), (gy, YA, 28), (q1, CA, 26), (q2, XA, 28), (q3, LA, 24)] [(ga, pa, A2.take (k + 1) ++ A.drop (k + 1)), (gb, pb, A2), (gm, pm, B), (gn, pn, B2), (gk, pk, K), (gl, pl, K2)]) := hs
      clear hs HQ hv
      go_wp2_with fail
      go_roundw
      case rel => exact ⟨k + 1, by go_num, by omega, HS.out⟩
      case measure => simp [intOf]; omega
    case neg =>
      have hlt' : ¬ (k : Int) < (A.length : Int) := by omega
      have HO16 : Hid (Own w w16 [(w.heap.size, CA, 26), (g, XA, 28), (gd, DA, 26), (gy, YA, 28), (q1, CA, 26), (q2, XA, 28), (q3, LA, 24)] [(ga, pa, A2), (gb, pb, A2), (gm, pm, B), (gn, pn, B2), (gk, pk, K), (gl, pl, K2)]) := by
        have h := HQ.out
        rw [show k = A.length by omega, List.drop_length, List.append_nil, ← hlA2, List.take_length] at h
        exact h
      clear HQ
      go_wp2_with fail
      go_loopw [29] (fun i wq => ∃ k : Nat, i = .int .i64 (k : Int) ∧ k ≤ B.length ∧ Hid (Own w wq [(w.heap.size, CA, 26), (g, XA, 28), (gd, DA, 26), (gy, YA, 28), (q1, CA, 26), (q2, XA, 28), (q3, LA, 24)] [(ga, pa, A2), (gb, pb, A2), (gm, pm, B2.take k ++ B.drop k), (gn, pn, B2), (gk, pk, K), (gl, pl, K2)])) (fun i _ => B.length - (intOf i).toNat)
      case atStart => exact ⟨0, rfl, Nat.zero_le _, by show Own _ _ _ _; simpa only [List.take_zero, List.drop_zero, List.nil_append] using HO16.out⟩
      case round =>
        obtain ⟨w17, hwn⟩ : ∃ y, y = wr := ⟨_, rfl⟩
        subst hwn
        clear HO16
        obtain ⟨k, rfl, hk, HQ⟩ := hrel
        by_cases hlt : k < B.length
        case pos =>
          have hlt' : (k : Int) < (B.length : Int) := by omega
          obtain ⟨hs, ⟨u, d0⟩, df, d1⟩ := Own.over (i := 2) (j := 3) (h := gn) (q := pn) HQ.out rfl rfl hlB2 hlt
          obtain ⟨v, hv⟩ : ∃ v, B2.getD k 0 = v := ⟨_, rfl⟩
          rw [hv] at hs d1
          have HS : Hid (Own w (w17.setCell ⟨gm, k, none⟩ (.int .u8 v)) [(w.heap.size, CA, 26), (g, XA, 28), (gd, DA, 26), (gy, YA, 28), (q1, CA, 26), (q2, XA, 28), (q3, LA, 24)] [(ga, pa, A2), (gb, pb, A2), (gm, pm, B2.take (k + 1) ++ B.drop (k + 1)), (gn, pn, B2), (gk, pk, K), (gl, pl, K2)]) := hs
          clear hs HQ hv
          go_wp2_with fail
          go_roundw
          case rel => exact ⟨k + 1, by go_num, by omega, HS.out⟩
          case measure => simp [intOf]; omega
        case neg =>
          have hlt' : ¬ (k : Int) < (B.length : Int) := by omega
          have HO17 : Hid (Own w w17 [(w.heap.size, CA, 26), (g, XA, 28), (gd, DA, 26), (gy, YA, 28), (q1, CA, 26), (q2, XA, 28), (q3, LA, 24)] [(ga, pa, A2), (gb, pb, A2), (gm, pm, B2), (gn, pn, B2), (gk, pk, K), (gl, pl, K2)]) := by
            have h := HQ.out
            rw [show k = B.length by omega, List.drop_length, List.append_nil, ← hlB2, List.take_length] at h
            exact h
          clear HQ
          go_wp2_with fail
          go_loopw [30] (fun i wq => ∃ k : Nat, i = .int .i64 (k : Int) ∧ k ≤ K.length ∧ Hid (Own w wq [(w.heap.size, CA, 26), (g, XA, 28), (gd, DA, 26), (gy, YA, 28), (q1, CA, 26), (q2, XA, 28), (q3, LA, 24)] [(ga, pa, A2), (gb, pb, A2), (gm, pm, B2), (gn, pn, B2), (gk, pk, K2.take k ++ K.drop k), (gl, pl, K2)])) (fun i _ => K.length - (intOf i).toNat)
          case atStart => exact ⟨0, rfl, Nat.zero_le _, by show Own _ _ _ _; simpa only [List.take_zero, List.drop_zero, List.nil_append] using HO17.out⟩
          case round =>
            obtain ⟨w18, hwn⟩ : ∃ y, y = wr := ⟨_, rfl⟩
            subst hwn
            clear HO17
            obtain ⟨k, rfl, hk, HQ⟩ := hrel
            by_cases hlt : k < K.length
            case pos =>
              have hlt' : (k : Int) < (K.length : Int) := by omega
              obtain ⟨hs, ⟨u, d0⟩, df, d1⟩ := Own.over (i := 4) (j := 5) (h := gl) (q := pl) HQ.out rfl rfl hlK2 hlt
              obtain ⟨v, hv⟩ : ∃ v, K2.getD k 0 = v := ⟨_, rfl⟩
              rw [hv] at hs d1
              have HS : Hid (Own w (w18.setCell ⟨gk, k, none⟩ (.int .u8 v)) [(w.heap.size, CA, 26), (g, XA, 28), (gd, DA, 26), (gy, YA, 28), (q1, CA, 26), (q2, XA, 28), (q3, LA, 24)] [(ga, pa, A2), (gb, pb, A2), (gm, pm, B2), (gn, pn, B2), (gk, pk, K2.take (k + 1) ++ K.drop (k + 1)), (gl, pl, K2)]) := hs
              clear hs HQ hv
              go_wp2_with fail
              go_roundw
              case rel => exact ⟨k + 1, by go_num, by omega, HS.out⟩
              case measure => simp [intOf]; omega
            case neg =>
              have hlt' : ¬ (k : Int) < (K.length : Int) := by omega
              have HO18 : Hid (Own w w18 [(w.heap.size, CA, 26), (g, XA, 28), (gd, DA, 26), (gy, YA, 28), (q1, CA, 26), (q2, XA, 28), (q3, LA, 24)] [(ga, pa, A2), (gb, pb, A2), (gm, pm, B2), (gn, pn, B2), (gk, pk, K2), (gl, pl, K2)]) := by
                have h := HQ.out
                rw [show k = K.length by omega, List.drop_length, List.append_nil, ← hlK2, List.take_length] at h
                exact h
              clear HQ
              go_wp2_with fail
              have HSB19 : Hid (SB w18 (.slice (some ⟨ga, 0, none⟩) A.length pa) A2) := by
                have h := (HO18.out.sl 0 ga pa A2 rfl).sb
                rw [hlA2] at h
                exact h
              refine (HGA2.out _ _ HSB19.out).mono ?_
              rintro e wg19 ⟨rfl, hb⟩
              have HOg := hide (HO18.out.low hb)
              have HZ19 : Hid ((wg19.alloc (.cells #[.int .i64 0, .int .i64 0, .int .i64 0, .int .i64 0, .int .i64 0, .int .u32 0, .int .i64 0, .int .i64 0, .string ⟨#[]⟩, .string ⟨#[]⟩, .int .i64 0, .int .i64 0, .int .i64 0, .int .i64 0, .int .i64 0, .string ⟨#[]⟩] 26)).heap[wg19.heap.size]? = some (.cells #[.int .i64 0, .int .i64 0, .int .i64 0, .int .i64 0, .int .i64 0, .int .u32 0, .int .i64 0, .int .i64 0, .string ⟨#[]⟩, .string ⟨#[]⟩, .int .i64 0, .int .i64 0, .int .i64 0, .int .i64 0, .int .i64 0, .string ⟨#[]⟩] 26 (0, 0))) := heap_alloc_new _ _
              obtain ⟨w19, hwn⟩ : ∃ y, wg19.alloc (.cells DA 26) = y := ⟨_, rfl⟩
              have HWN19 : Hid ((wg19.alloc (.cells #[.int .i64 0, .int .i64 0, .int .i64 0, .int .i64 0, .int .i64 0, .int .u32 0, .int .i64 0, .int .i64 0, .string ⟨#[]⟩, .string ⟨#[]⟩, .int .i64 0, .int .i64 0, .int .i64 0, .int .i64 0, .int .i64 0, .string ⟨#[]⟩] 26)).setRow wg19.heap.size DA = w19) := by show _ = _; rw [World.setRow_alloc_new]; exact hwn
              obtain ⟨q4, hgz⟩ : ∃ k, k = wg19.heap.size := ⟨_, rfl⟩
              have HO19 : Hid (Own w w19 [(w.heap.size, CA, 26), (g, XA, 28), (gd, DA, 26), (gy, YA, 28), (q1, CA, 26), (q2, XA, 28), (q3, LA, 24), (q4, DA, 26)] [(ga, pa, A2), (gb, pb, A2), (gm, pm, B2), (gn, pn, B2), (gk, pk, K2), (gl, pl, K2)]) := by rw [← hwn, hgz]; exact HOg.out.box DA 26
              rw [← hgz] at HZ19 HWN19
              have hgz19 := hgz.symm
              clear hb hwn HOg HO18 hgz HSB19
              go_wp2_with (first | ((with_reducible refine wpList_stC q4 DA #[.int .i64 0, .int .i64 0, .int .i64 0, .int .i64 0, .int .i64 0, .int .u32 0, .int .i64 0, .int .i64 0, .string ⟨#[]⟩, .string ⟨#[]⟩, .int .i64 0, .int .i64 0, .int .i64 0, .int .i64 0, .int .i64 0, .string ⟨#[]⟩] HSDA.out rfl HVDA.out ?hx ?hy HZ19.out ?_); (case hx => rfl); (case hy => rfl); rw [HWN19.out]))
              clear HZ19 HWN19 hgz19
              have HSB20 : Hid (SB w19 (.slice (some ⟨gm, 0, none⟩) B.length pm) B2) := by
                have h := (HO19.out.sl 2 gm pm B2 rfl).sb
                rw [hlB2] at h
                exact h
              refine (HGB2.out _ _ HSB20.out).mono ?_
              rintro e wg20 ⟨rfl, hb⟩
              have HOg := hide (HO19.out.low hb)
              have HZ20 : Hid ((wg20.alloc (.cells #[.int .i64 0, .int .i64 0, .int .i64 0, .int .i64 0, .int .i64 0, .int .i64 0, .string ⟨#[]⟩] 28)).heap[wg20.heap.size]? = some (.cells #[.int .i64 0, .int .i64 0, .int .i64 0, .int .i64 0, .int .i64 0, .int .i64 0, .string ⟨#[]⟩] 28 (0, 0))) := heap_alloc_new _ _
              obtain ⟨w20, hwn⟩ : ∃ y, wg20.alloc (.cells YA 28) = y := ⟨_, rfl⟩
              have HWN20 : Hid ((wg20.alloc (.cells #[.int .i64 0, .int .i64 0, .int .i64 0, .int .i64 0, .int .i64 0, .int .i64 0, .string ⟨#[]⟩] 28)).setRow wg20.heap.size YA = w20) := by show _ = _; rw [World.setRow_alloc_new]; exact hwn
              obtain ⟨q5, hgz⟩ : ∃ k, k = wg20.heap.size := ⟨_, rfl⟩
              have HO20 : Hid (Own w w20 [(w.heap.size, CA, 26), (g, XA, 28), (gd, DA, 26), (gy, YA, 28), (q1, CA, 26), (q2, XA, 28), (q3, LA, 24), (q4, DA, 26), (q5, YA, 28)] [(ga, pa, A2), (gb, pb, A2), (gm, pm, B2), (gn, pn, B2), (gk, pk, K2), (gl, pl, K2)]) := by rw [← hwn, hgz]; exact HOg.out.box YA 28
              rw [← hgz] at HZ20 HWN20
              have hgz20 := hgz.symm
              clear hb hwn HOg HO19 hgz HSB20
              go_wp2_with (first | ((with_reducible refine wpList_stE q5 YA #[.int .i64 0, .int .i64 0, .int .i64 0, .int .i64 0, .int .i64 0, .int .i64 0, .string ⟨#[]⟩] HSYA.out rfl HVYA.out ?hx ?hy HZ20.out ?_); (case hx => rfl); (case hy => rfl); rw [HWN20.out]))
              clear HZ20 HWN20 hgz20
              have HSB21 : Hid (SB w20 (.slice (some ⟨gk, 0, none⟩) K.length pk) K2) := by
                have h := (HO20.out.sl 4 gk pk K2 rfl).sb
                rw [hlK2] at h
                exact h
              refine (HGK2.out _ _ HSB21.out).mono ?_
              rintro e wg21 ⟨rfl, hb⟩
              have HOg := hide (HO20.out.low hb)
              have HZ21 : Hid ((wg21.alloc (.cells #[.int .i64 0, .int .i64 0, .int .i64 0, .int .i64 0, .int .i64 0, .int .u32 0, .int .i64 0, .int .i64 0, .string ⟨#[]⟩, .string ⟨#[]⟩] 24)).heap[wg21.heap.size]? = some (.cells #[.int .i64 0, .int .i64 0, .int .i64 0, .int .i64 0, .int .i64 0, .int .u32 0, .int .i64 0, .int .i64 0, .string ⟨#[]⟩, .string ⟨#[]⟩] 24 (0, 0))) := heap_alloc_new _ _
              obtain ⟨w21, hwn⟩ : ∃ y, wg21.alloc (.cells MA 24) = y := ⟨_, rfl⟩
              have HWN21 : Hid ((wg21.alloc (.cells #[.int .i64 0, .int .i64 0, .int .i64 0, .int .i64 0, .int .i64 0, .int .u32 0, .int .i64 0, .int .i64 0, .string ⟨#[]⟩, .string ⟨#[]⟩] 24)).setRow wg21.heap.size MA = w21) := by show _ = _; rw [World.setRow_alloc_new]; exact hwn
              obtain ⟨q6, hgz⟩ : ∃ k, k = wg21.heap.size := ⟨_, rfl⟩
              have HO21 : Hid (Own w w21 [(w.heap.size, CA, 26), (g, XA, 28), (gd, DA, 26), (gy, YA, 28), (q1, CA, 26), (q2, XA, 28), (q3, LA, 24), (q4, DA, 26), (q5, YA, 28), (q6, MA, 24)] [(ga, pa, A2), (gb, pb, A2), (gm, pm, B2), (gn, pn, B2), (gk, pk, K2), (gl, pl, K2)]) := by rw [← hwn, hgz]; exact HOg.out.box MA 24
              rw [← hgz] at HZ21 HWN21
              have hgz21 := hgz.symm
              clear hb hwn HOg HO20 hgz HSB21
              have HN0_21 := hide (HO21.out.bx 0 w.heap.size CA 26 rfl).1
              have HN1_21 := hide (HO21.out.bx 1 g XA 28 rfl).1
              have HN2_21 := hide (HO21.out.bx 2 gd DA 26 rfl).1
              have HN3_21 := hide (HO21.out.bx 3 gy YA 28 rfl).1
              have HN4_21 := hide (HO21.out.bx 4 q1 CA 26 rfl).1
              have HN5_21 := hide (HO21.out.bx 5 q2 XA 28 rfl).1
              have HN6_21 := hide (range_of (HO21.out.bx 6 q3 LA 24 rfl).1)
              have HN7_21 := hide (HO21.out.bx 7 q4 DA 26 rfl).1
              have HN8_21 := hide (HO21.out.bx 8 q5 YA 28 rfl).1
              have HN9_21 := hide (range_of (HO21.out.bx 9 q6 MA 24 rfl).1)
              have HM0_21 : Hid (w21.rangeAt w.heap.size 0 LA.toList) := by
                have h := (HO21.out.bx 0 w.heap.size CA 26 rfl).1
                rw [HECA.out] at h
                rw [HELA.out]
                exact cen_loc c h
              have HM2_21 : Hid (w21.rangeAt gd 0 MA.toList) := by
                have h := (HO21.out.bx 2 gd DA 26 rfl).1
                rw [HEDA.out] at h
                rw [HEMA.out]
                exact cen_loc (flipC c) h
              have e1 := HQC.out
              have e2 := HQD.out
              have e3 := HQX.out
              have e4 := HQY.out
              have e5 := HQL.out
              have e6 := HQM.out
              obtain ⟨gf, hgf⟩ : ∃ k, w21.heap.size = k := ⟨_, rfl⟩
              obtain ⟨wf, hwf⟩ : ∃ y, w21.alloc (.cells #[.int .i64 1, .string ⟨#[97]⟩] 67) = y := ⟨_, rfl⟩
              have HFb : Hid (Below w21.heap.size w21 wf) := by rw [← hwf]; exact (Below.refl _ _).alloc (Nat.le_refl _) _
              have HFn : Hid (wf.heap[gf]? = some (.cells #[.int .i64 1, .string ⟨#[97]⟩] 67 (0, 0))) := by rw [← hwf, ← hgf]; exact heap_alloc_new _ _
              go_wp2_with (first | ((with_reducible refine wpList_stL q6 MA #[.int .i64 0, .int .i64 0, .int .i64 0, .int .i64 0, .int .i64 0, .int .u32 0, .int .i64 0, .int .i64 0, .string ⟨#[]⟩, .string ⟨#[]⟩] HSMA.out rfl HVMA.out ?hx ?hy HZ21.out ?_); (case hx => rfl); (case hy => rfl); rw [HWN21.out]) | ((with_reducible refine wpList_gC w.heap.size CA HSCA.out ?hw ?hx HN0_21.out ?_); (case hw => rfl); (case hx => rfl)) | ((with_reducible refine wpList_gE g XA HSXA.out ?hw ?hx HN1_21.out ?_); (case hw => rfl); (case hx => rfl)) | ((with_reducible refine wpList_gC gd DA HSDA.out ?hw ?hx HN2_21.out ?_); (case hw => rfl); (case hx => rfl)) | ((with_reducible refine wpList_gE gy YA HSYA.out ?hw ?hx HN3_21.out ?_); (case hw => rfl); (case hx => rfl)) | ((with_reducible refine wpList_gC q1 CA HSCA.out ?hw ?hx HN4_21.out ?_); (case hw => rfl); (case hx => rfl)) | ((with_reducible refine wpList_gE q2 XA HSXA.out ?hw ?hx HN5_21.out ?_); (case hw => rfl); (case hx => rfl)) | ((with_reducible refine wpList_gM q3 LA HSLA.out ?hw ?hx HN6_21.out ?_); (case hw => rfl); (case hx => rfl)) | ((with_reducible refine wpList_gC q4 DA HSDA.out ?hw ?hx HN7_21.out ?_); (case hw => rfl); (case hx => rfl)) | ((with_reducible refine wpList_gE q5 YA HSYA.out ?hw ?hx HN8_21.out ?_); (case hw => rfl); (case hx => rfl)) | ((with_reducible refine wpList_gM q6 MA HSMA.out ?hw ?hx HN9_21.out ?_); (case hw => rfl); (case hx => rfl)) | ((with_reducible refine wpList_gM w.heap.size LA HSLA.out ?hw ?hx HM0_21.out ?_); (case hw => rfl); (case hx => rfl)) | ((with_reducible refine wpList_gM gd MA HSMA.out ?hw ?hx HM2_21.out ?_); (case hw => rfl); (case hx => rfl)))
              clear HZ21 HWN21 hgz21
              clear e1 e2 e3 e4 e5 e6
              refine (joinExtra_any _ [(1, ⟨#[97]⟩)] wf (sr_one (1, ⟨#[97]⟩) HFn.out) (by intro r hr; simp at hr; subst hr; exact ⟨by unfold Ok64; omega, by decide⟩)).mono ?_
              rintro e wj ⟨rfl, hb⟩
              rw [join_a.1, join_a.2]
              have HJn : wj.heap[gf]? = some (.cells #[.int .i64 1, .string ⟨#[97]⟩] 67 (0, 0)) := (hb.block _ (Array.getElem?_eq_some_iff.1 HFn.out).1).trans HFn.out
              obtain ⟨d1, f1⟩ := box_at (j := 1) HJn rfl
              obtain ⟨wk, hwk⟩ : ∃ y, wj.setCell ⟨gf, 1, none⟩ (.string ⟨#[98]⟩) = y := ⟨_, rfl⟩
              have HKn : Hid (wk.heap[gf]? = some (.cells #[.int .i64 1, .string ⟨#[98]⟩] 67 (0, 0))) := by rw [← hwk]; exact heap_setCell_at _ HJn
              have HBl : Hid (Below w.heap.size w wk) := by
                have h1 := HO21.out.bel.trans (HFb.out.mono HO21.out.bel.size)
                have h2 := h1.trans (hb.mono h1.size)
                rw [← hwk]
                exact h2.setCell (p := ⟨gf, 1, none⟩) (by show _ ≤ gf; rw [← hgf]; exact HO21.out.bel.size) _
              clear HJn hb
              go_wp2_with fail
              refine (joinExtra_any _ [(1, ⟨#[98]⟩)] wk (sr_one (1, ⟨#[98]⟩) HKn.out) (by intro r hr; simp at hr; subst hr; exact ⟨by unfold Ok64; omega, by decide⟩)).mono ?_
              rintro e wE ⟨rfl, hb⟩
              rw [join_b.1, join_b.2]
              have HBE := hide (HBl.out.trans (hb.mono HBl.out.size))
              clear hb
              go_wp2
              go_ret
              exact ⟨rfl, HBE.out⟩
end Go.Proofs.Ytijmmfimkibgbaa

