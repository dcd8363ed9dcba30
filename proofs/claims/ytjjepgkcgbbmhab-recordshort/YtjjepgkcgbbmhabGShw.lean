import Derived.Test.YtjjepgkcgbbmhabGShn
namespace Go.Proofs.Ytjjepgkcgbbmhab
open Go.RowKit Go.Maps
set_option maxRecDepth 20000
set_option linter.unusedVariables false
set_option linter.unusedSimpArgs false

set_option maxHeartbeats 4000000 in
theorem short_no1 (c : Cen) (x : Enr) (m bt : Int) (okc : c.Ok) (okx : x.Ok) (h64 : Ok64 m) (hb64 : Ok64 bt) (w : World) (hf : ¬ fitI (ceI c)) :
    Calls Try.prog 4 #[c.v, x.v, .int .i64 m, .int .i64 bt] w fun e w' => e = .returned (.bool true) ∧ Below w.heap.size w w' := by
  obtain ⟨CA, hCA⟩ : ∃ A, A = c.cs := ⟨_, rfl⟩
  have HCV : Hid (c.v = .agg CA) := by show _ = _; rw [hCA]; rfl
  have HCS : Hid (CA.size = 16) := by rw [hCA]; exact rsC c
  obtain ⟨XA, hXA⟩ : ∃ A, A = x.cs := ⟨_, rfl⟩
  have HXV : Hid (x.v = .agg XA) := by show _ = _; rw [hXA]; rfl
  have HXS : Hid (XA.size = 7) := by rw [hXA]; exact rsE x
  have HXE : Hid (XA = #[.int .i64 x.disk, .int .i64 x.dirDisk, .int .i64 x.here, .int .i64 x.total, .int .i64 x.dirSize, .int .i64 x.dirAt, .string x.comment]) := hXA
  have HXV2 : Hid (x.v = .agg #[.int .i64 x.disk, .int .i64 x.dirDisk, .int .i64 x.here, .int .i64 x.total, .int .i64 x.dirSize, .int .i64 x.dirAt, .string x.comment]) := rfl
  have HKC := hide okc
  have HKX := hide okx
  rw [HCV.out, HXV.out]
  obtain ⟨w1, hw1⟩ : ∃ y, w.alloc (.cells CA 40) = y := ⟨_, rfl⟩
  obtain ⟨w2, hw2⟩ : ∃ y, w1.alloc (.cells XA 24) = y := ⟨_, rfl⟩
  have s1 : w1.heap.size = w.heap.size + 1 := by rw [← hw1]; exact size_alloc' _ _
  have HB2 : Hid (Below w.heap.size w w2) := by rw [← hw2, ← hw1]; exact ((Below.refl _ _).alloc (Nat.le_refl _) _).alloc (by rw [size_alloc']; omega) _
  have n1 : w1.heap[w.heap.size]? = some (.cells CA 40 (0, 0)) := by rw [← hw1]; exact heap_alloc_new w _
  have HNC : Hid (w2.heap[w.heap.size]? = some (.cells CA 40 (0, 0))) := by rw [← hw2]; exact (Below.heap_alloc _ _ _ (by omega)).trans n1
  obtain ⟨g, hg⟩ : ∃ g, w1.heap.size = g := ⟨_, rfl⟩
  have HNX : Hid (w2.heap[g]? = some (.cells XA 24 (0, 0))) := by rw [← hw2, ← hg]; exact heap_alloc_new w1 _
  clear hCA hXA n1 s1 okc okx
  go_enter Try.func4, Try.ntmps4
  go_wp2_with ((with_reducible refine wpList_ldC w.heap.size CA HCS.out ?hx HNC.out ?_); (case hx => rfl))
  clear hw1 hw2
  rw [← HCV.out]
  refine (centralFits_any c HKC.out w2).mono ?_
  rintro e w3 ⟨rfl, hb⟩
  have HB3 := hide (HB2.out.trans (hb.mono HB2.out.size))
  have HNC3 := hide ((hb.block _ (Array.getElem?_eq_some_iff.1 HNC.out).1).trans HNC.out)
  have HNX3 := hide ((hb.block _ (Array.getElem?_eq_some_iff.1 HNX.out).1).trans HNX.out)
  clear hb HB2 HNC HNX
  rw [show decide (fitI (ceI c)) = false from decide_eq_false hf]
  clear hf
  go_wp2
  go_ret
  exact ⟨rfl, HB3.out⟩

set_option maxHeartbeats 4000000 in
theorem short_no2 (c : Cen) (x : Enr) (m bt : Int) (okc : c.Ok) (okx : x.Ok) (h64 : Ok64 m) (hb64 : Ok64 bt) (w : World) (hf : fitI (ceI c)) (hf2 : ¬ fitI (enI x)) :
    Calls Try.prog 4 #[c.v, x.v, .int .i64 m, .int .i64 bt] w fun e w' => e = .returned (.bool true) ∧ Below w.heap.size w w' := by
  obtain ⟨CA, hCA⟩ : ∃ A, A = c.cs := ⟨_, rfl⟩
  have HCV : Hid (c.v = .agg CA) := by show _ = _; rw [hCA]; rfl
  have HCS : Hid (CA.size = 16) := by rw [hCA]; exact rsC c
  obtain ⟨XA, hXA⟩ : ∃ A, A = x.cs := ⟨_, rfl⟩
  have HXV : Hid (x.v = .agg XA) := by show _ = _; rw [hXA]; rfl
  have HXS : Hid (XA.size = 7) := by rw [hXA]; exact rsE x
  have HXE : Hid (XA = #[.int .i64 x.disk, .int .i64 x.dirDisk, .int .i64 x.here, .int .i64 x.total, .int .i64 x.dirSize, .int .i64 x.dirAt, .string x.comment]) := hXA
  have HXV2 : Hid (x.v = .agg #[.int .i64 x.disk, .int .i64 x.dirDisk, .int .i64 x.here, .int .i64 x.total, .int .i64 x.dirSize, .int .i64 x.dirAt, .string x.comment]) := rfl
  have HKC := hide okc
  have HKX := hide okx
  rw [HCV.out, HXV.out]
  obtain ⟨w1, hw1⟩ : ∃ y, w.alloc (.cells CA 40) = y := ⟨_, rfl⟩
  obtain ⟨w2, hw2⟩ : ∃ y, w1.alloc (.cells XA 24) = y := ⟨_, rfl⟩
  have s1 : w1.heap.size = w.heap.size + 1 := by rw [← hw1]; exact size_alloc' _ _
  have HB2 : Hid (Below w.heap.size w w2) := by rw [← hw2, ← hw1]; exact ((Below.refl _ _).alloc (Nat.le_refl _) _).alloc (by rw [size_alloc']; omega) _
  have n1 : w1.heap[w.heap.size]? = some (.cells CA 40 (0, 0)) := by rw [← hw1]; exact heap_alloc_new w _
  have HNC : Hid (w2.heap[w.heap.size]? = some (.cells CA 40 (0, 0))) := by rw [← hw2]; exact (Below.heap_alloc _ _ _ (by omega)).trans n1
  obtain ⟨g, hg⟩ : ∃ g, w1.heap.size = g := ⟨_, rfl⟩
  have HNX : Hid (w2.heap[g]? = some (.cells XA 24 (0, 0))) := by rw [← hw2, ← hg]; exact heap_alloc_new w1 _
  clear hCA hXA n1 s1 okc okx
  go_enter Try.func4, Try.ntmps4
  go_wp2_with ((with_reducible refine wpList_ldC w.heap.size CA HCS.out ?hx HNC.out ?_); (case hx => rfl))
  clear hw1 hw2
  rw [← HCV.out]
  refine (centralFits_any c HKC.out w2).mono ?_
  rintro e w3 ⟨rfl, hb⟩
  have HB3 := hide (HB2.out.trans (hb.mono HB2.out.size))
  have HNC3 := hide ((hb.block _ (Array.getElem?_eq_some_iff.1 HNC.out).1).trans HNC.out)
  have HNX3 := hide ((hb.block _ (Array.getElem?_eq_some_iff.1 HNX.out).1).trans HNX.out)
  clear hb HB2 HNC HNX
  rw [show decide (fitI (ceI c)) = true from decide_eq_true hf]
  clear hf
  have hbx := HNX3.out
  rw [HXE.out] at hbx
  obtain ⟨d0, d1, d2, d3, d4, d5, d6⟩ := box7 hbx
  clear hbx
  go_wp2_with fail
  clear d0 d1 d2 d3 d4 d5 d6
  rw [← HXV2.out]
  refine (endFits_any x HKX.out w3).mono ?_
  rintro e w4 ⟨rfl, hb⟩
  rw [show decide (fitI (enI x)) = false from decide_eq_false hf2]
  have HB4 := hide (HB3.out.trans (hb.mono HB3.out.size))
  clear hb hf2
  go_wp2
  go_ret
  exact ⟨rfl, HB4.out⟩

set_option maxHeartbeats 16000000 in
theorem short_yes (c : Cen) (x : Enr) (m bt : Int) (okc : c.Ok) (okx : x.Ok) (h64 : Ok64 m) (hb64 : Ok64 bt) (w : World) (hf : fitI (ceI c)) (hf2 : fitI (enI x)) :
    Calls Try.prog 4 #[c.v, x.v, .int .i64 m, .int .i64 bt] w fun e w' => e = .returned (.bool true) ∧ Below w.heap.size w w' := by
  obtain ⟨CA, hCA⟩ : ∃ A, A = c.cs := ⟨_, rfl⟩
  have HCV : Hid (c.v = .agg CA) := by show _ = _; rw [hCA]; rfl
  have HCS : Hid (CA.size = 16) := by rw [hCA]; exact rsC c
  obtain ⟨XA, hXA⟩ : ∃ A, A = x.cs := ⟨_, rfl⟩
  have HXV : Hid (x.v = .agg XA) := by show _ = _; rw [hXA]; rfl
  have HXS : Hid (XA.size = 7) := by rw [hXA]; exact rsE x
  have HXE : Hid (XA = #[.int .i64 x.disk, .int .i64 x.dirDisk, .int .i64 x.here, .int .i64 x.total, .int .i64 x.dirSize, .int .i64 x.dirAt, .string x.comment]) := hXA
  have HXV2 : Hid (x.v = .agg #[.int .i64 x.disk, .int .i64 x.dirDisk, .int .i64 x.here, .int .i64 x.total, .int .i64 x.dirSize, .int .i64 x.dirAt, .string x.comment]) := rfl
  have HKC := hide okc
  have HKX := hide okx
  rw [HCV.out, HXV.out]
  obtain ⟨w1, hw1⟩ : ∃ y, w.alloc (.cells CA 40) = y := ⟨_, rfl⟩
  obtain ⟨w2, hw2⟩ : ∃ y, w1.alloc (.cells XA 24) = y := ⟨_, rfl⟩
  have s1 : w1.heap.size = w.heap.size + 1 := by rw [← hw1]; exact size_alloc' _ _
  have HB2 : Hid (Below w.heap.size w w2) := by rw [← hw2, ← hw1]; exact ((Below.refl _ _).alloc (Nat.le_refl _) _).alloc (by rw [size_alloc']; omega) _
  have n1 : w1.heap[w.heap.size]? = some (.cells CA 40 (0, 0)) := by rw [← hw1]; exact heap_alloc_new w _
  have HNC : Hid (w2.heap[w.heap.size]? = some (.cells CA 40 (0, 0))) := by rw [← hw2]; exact (Below.heap_alloc _ _ _ (by omega)).trans n1
  obtain ⟨g, hg⟩ : ∃ g, w1.heap.size = g := ⟨_, rfl⟩
  have HNX : Hid (w2.heap[g]? = some (.cells XA 24 (0, 0))) := by rw [← hw2, ← hg]; exact heap_alloc_new w1 _
  have hfl := ce_lo_fit hf
  have HRA := hide (rwL c.loc hfl)
  have HRB := hide (rwC c hf)
  have HRC := hide (rwE x hf2)
  have HPA : Hid (puL (loI c.loc) = rowI (loI c.loc) ∧ puE (loI c.loc) = 0) := ⟨if_pos hfl, if_pos hfl⟩
  have HPB : Hid (puL (ceI c) = rowI (ceI c) ∧ puE (ceI c) = 0) := ⟨if_pos hf, if_pos hf⟩
  have HPC : Hid (puL (enI x) = rowI (enI x) ∧ puE (enI x) = 0) := ⟨if_pos hf2, if_pos hf2⟩
  obtain ⟨A, hA⟩ : ∃ A, A = rowI (loI c.loc) := ⟨_, rfl⟩
  obtain ⟨B, hB⟩ : ∃ B, B = rowI (ceI c) := ⟨_, rfl⟩
  obtain ⟨C, hC⟩ : ∃ C, C = rowI (enI x) := ⟨_, rfl⟩
  rw [← hA] at HRA HPA
  rw [← hB] at HRB HPB
  rw [← hC] at HRC HPC
  have HLV : Hid (c.loc.v = .agg #[.int .i64 c.loc.need, .int .i64 c.loc.flags, .int .i64 c.loc.method, .int .i64 c.loc.clock, .int .i64 c.loc.date, .int .u32 c.loc.sum, .int .i64 c.loc.packed, .int .i64 c.loc.size, .string c.loc.name, .string c.loc.extra]) := rfl
  have HCE : Hid (CA = #[.int .i64 c.loc.need, .int .i64 c.loc.flags, .int .i64 c.loc.method, .int .i64 c.loc.clock, .int .i64 c.loc.date, .int .u32 c.loc.sum, .int .i64 c.loc.packed, .int .i64 c.loc.size, .string c.loc.name, .string c.loc.extra, .int .i64 c.made, .int .i64 c.disk, .int .i64 c.internal, .int .i64 c.external, .int .i64 c.at', .string c.comment]) := hCA
  have hA0 := HRA.out.n
  have hB0 := HRB.out.n
  have hC0 := HRC.out.n
  have hA1 := HRA.out.len
  have hB1 := HRB.out.len
  have hC1 := HRC.out.len
  clear hA hB hC hfl
  clear hCA hXA n1 s1 okc okx
  go_enter Try.func4, Try.ntmps4
  go_wp2_with ((with_reducible refine wpList_ldC w.heap.size CA HCS.out ?hx HNC.out ?_); (case hx => rfl))
  clear hw1 hw2
  rw [← HCV.out]
  refine (centralFits_any c HKC.out w2).mono ?_
  rintro e w3 ⟨rfl, hb⟩
  have HB3 := hide (HB2.out.trans (hb.mono HB2.out.size))
  have HNC3 := hide ((hb.block _ (Array.getElem?_eq_some_iff.1 HNC.out).1).trans HNC.out)
  have HNX3 := hide ((hb.block _ (Array.getElem?_eq_some_iff.1 HNX.out).1).trans HNX.out)
  clear hb HB2 HNC HNX
  rw [show decide (fitI (ceI c)) = true from decide_eq_true hf]
  clear hf
  have hbx := HNX3.out
  rw [HXE.out] at hbx
  obtain ⟨d0, d1, d2, d3, d4, d5, d6⟩ := box7 hbx
  clear hbx
  go_wp2_with fail
  clear d0 d1 d2 d3 d4 d5 d6
  rw [← HXV2.out]
  refine (endFits_any x HKX.out w3).mono ?_
  rintro e w4 ⟨rfl, hb⟩
  rw [show decide (fitI (enI x)) = true from decide_eq_true hf2]
  have HB4 := hide (HB3.out.trans (hb.mono HB3.out.size))
  have HNC4 := hide ((hb.block _ (Array.getElem?_eq_some_iff.1 HNC3.out).1).trans HNC3.out)
  have HNX4 := hide ((hb.block _ (Array.getElem?_eq_some_iff.1 HNX3.out).1).trans HNX3.out)
  clear hb hf2 HB3 HNC3 HNX3
  have hbx := HNC4.out
  rw [HCE.out] at hbx
  obtain ⟨l0, hl0⟩ : ∃ y, y = c.loc.need := ⟨_, rfl⟩
  obtain ⟨c0, c1, c2, c3, c4, c5, c6, c7, c8, c9, -, -, -, -, -, -⟩ := box16 hbx
  clear hbx hl0
  go_wp2_with fail
  rw [← HLV.out]
  refine (putLocal_any c.loc HKC.out.loc w4).mono ?_
  rintro e w5 ⟨xa, ya, rfl, hoa, hb⟩
  rw [HPA.out.1, HPA.out.2]
  rw [HPA.out.1] at hoa
  have HB5 := hide (HB4.out.trans (hb.mono HB4.out.size))
  have HNC5 := hide ((hb.block _ (Array.getElem?_eq_some_iff.1 HNC4.out).1).trans HNC4.out)
  have HNX5 := hide ((hb.block _ (Array.getElem?_eq_some_iff.1 HNX4.out).1).trans HNX4.out)
  obtain ⟨ga, pa, hv, za1, za2⟩ := OB.some hoa (by omega)
  rw [hv] at hoa ⊢
  have HOA := hide hoa
  have HGA := hide (hoa.lt ga rfl)
  have HS4 := hide HB4.out.size
  clear hb hoa hv c0 c1 c2 c3 c4 c5 c6 c7 c8 c9 HNC4 HNX4 HB4
  go_wp2_with ((with_reducible refine wpList_ldC w.heap.size CA HCS.out ?hx HNC5.out ?_); (case hx => rfl))
  rw [← HCV.out]
  refine (putCentral_any c HKC.out w5).mono ?_
  rintro e w6 ⟨xb, yb, rfl, hob, hb⟩
  rw [HPB.out.1, HPB.out.2]
  rw [HPB.out.1] at hob
  have HB6 := hide (HB5.out.trans (hb.mono HB5.out.size))
  have HNX6 := hide ((hb.block _ (Array.getElem?_eq_some_iff.1 HNX5.out).1).trans HNX5.out)
  have HOA6 := hide (HOA.out.below hb (Nat.le_refl _))
  obtain ⟨gb, pb, hv, zb1, zb2⟩ := OB.some hob (by omega)
  rw [hv] at hob ⊢
  have HOB := hide hob
  have HGB := hide (hob.lt gb rfl)
  have HS5 := hide HB5.out.size
  clear hb hob hv HNC5 HNX5 HB5 HOA
  go_wp2_with ((with_reducible refine wpList_ldE g XA HXS.out ?hx HNX6.out ?_); (case hx => rfl))
  rw [← HXV.out]
  refine (putEnd_any x HKX.out w6).mono ?_
  rintro e w7 ⟨xc, yc, rfl, hoc, hb⟩
  rw [HPC.out.1, HPC.out.2]
  rw [HPC.out.1] at hoc
  have HOB7 := hide (HOB.out.below hb (Nat.le_refl _))
  have HOA7 := hide (HOA6.out.below hb (Nat.le_refl _))
  obtain ⟨gc, pc, hv, zc1, zc2⟩ := OB.some hoc (by omega)
  rw [hv] at hoc ⊢
  have HT7 : Hid (T3 w ga gb gc pa pb pc A B C w7) := by
    have e1 := HGA.out
    have e2 := HGB.out
    have e3 := hoc.lt gc rfl
    have e4 := HS4.out
    have e5 := HS5.out
    have e6 := HB6.out.size
    exact ⟨HB6.out.trans (hb.mono HB6.out.size), HOA7.out.base (by omega), HOB7.out.base (by omega), hoc.base (by omega), by omega, by omega⟩
  clear hb hoc hv HNX6 HB6 HOA6 HOA7 HOB HOB7 HGA HGB HS4 HS5 xa ya xb yb xc yc
  obtain ⟨kA, HKA⟩ : ∃ k, Hid (k = m % (A.length : Int)) := ⟨_, rfl⟩
  have hkA0 : 0 ≤ kA := by rw [HKA.out]; exact Int.emod_nonneg _ (by omega)
  have hkA1 : kA < (A.length : Int) := by rw [HKA.out]; exact Int.emod_lt_of_pos _ (by omega)
  obtain ⟨qA, hqA⟩ : ∃ q : Nat, (A.length : Int) - 1 - kA = q := ⟨((A.length : Int) - 1 - kA).toNat, by omega⟩
  have hqA1 : qA < A.length := by omega
  have hqA2 : qA ≤ pa := by omega
  have HWH := hide (fun W => which_any m (A.length : Int) (by omega) (by omega) W)
  rw [← HKA.out] at HWH
  have HBT := hide (byt_take HRA.out.byt qA)
  have HTL : Hid ((A.take qA).length = qA) := by show _ = _; rw [List.length_take]; omega
  have HCU := hide (lo_cut HRA.out.ok HRA.out.plc hqA1)
  go_wp2_with fail
  refine (HWH.out _).mono ?_
  rintro e wxA ⟨rfl, hwx⟩
  subst hwx
  go_wp2_with fail
  refine (getL_cut _ (A.take qA) _ (HT7.out.oa.sb.first11 (Nat.le_of_lt hqA1)) HBT.out (by rw [HTL.out]; omega) HCU.out).mono ?_
  rintro e wA1 ⟨rfl, hb⟩
  have HTA1 := hide (HT7.out.low hb)
  obtain ⟨ZA, hZ⟩ : ∃ Z, Z = Loc.zero.cs := ⟨_, rfl⟩
  have HZSA : Hid (ZA.size = 10) := by rw [hZ]; exact rsL _
  have HZOA : Hid (ZA.all (·.oneCell') = true) := by rw [hZ]; exact roL _
  rw [← hZ]
  have HZA : Hid ((wA1.alloc (.cells #[.int .i64 0, .int .i64 0, .int .i64 0, .int .i64 0, .int .i64 0, .int .u32 0, .int .i64 0, .int .i64 0, .string ⟨#[]⟩, .string ⟨#[]⟩] 30)).heap[wA1.heap.size]? = some (.cells #[.int .i64 0, .int .i64 0, .int .i64 0, .int .i64 0, .int .i64 0, .int .u32 0, .int .i64 0, .int .i64 0, .string ⟨#[]⟩, .string ⟨#[]⟩] 30 (0, 0))) := heap_alloc_new _ _
  obtain ⟨wA2, hw2⟩ : ∃ y, wA1.alloc (.cells ZA 30) = y := ⟨_, rfl⟩
  have HTA2 : Hid (T3 w ga gb gc pa pb pc A B C wA2) := by rw [← hw2]; exact HTA1.out.low ((Below.refl _ _).alloc (Nat.le_refl _) _)
  have HWA : Hid ((wA1.alloc (.cells #[.int .i64 0, .int .i64 0, .int .i64 0, .int .i64 0, .int .i64 0, .int .u32 0, .int .i64 0, .int .i64 0, .string ⟨#[]⟩, .string ⟨#[]⟩] 30)).setRow wA1.heap.size ZA = wA2) := by show _ = _; rw [World.setRow_alloc_new]; exact hw2
  clear hb hZ hw2 HT7 HCU HTL HBT HWH hkA0 hkA1 hqA hqA1 hqA2
  obtain ⟨kB, HKB⟩ : ∃ k, Hid (k = m % (B.length : Int)) := ⟨_, rfl⟩
  have hkB0 : 0 ≤ kB := by rw [HKB.out]; exact Int.emod_nonneg _ (by omega)
  have hkB1 : kB < (B.length : Int) := by rw [HKB.out]; exact Int.emod_lt_of_pos _ (by omega)
  obtain ⟨qB, hqB⟩ : ∃ q : Nat, (B.length : Int) - 1 - kB = q := ⟨((B.length : Int) - 1 - kB).toNat, by omega⟩
  have hqB1 : qB < B.length := by omega
  have hqB2 : qB ≤ pb := by omega
  have HWH := hide (fun W => which_any m (B.length : Int) (by omega) (by omega) W)
  rw [← HKB.out] at HWH
  have HBT := hide (byt_take HRB.out.byt qB)
  have HTL : Hid ((B.take qB).length = qB) := by show _ = _; rw [List.length_take]; omega
  have HCU := hide (ce_cut HRB.out.ok HRB.out.plc hqB1)
  go_wp2_with ((with_reducible refine wpList_stL wA1.heap.size ZA #[.int .i64 0, .int .i64 0, .int .i64 0, .int .i64 0, .int .i64 0, .int .u32 0, .int .i64 0, .int .i64 0, .string ⟨#[]⟩, .string ⟨#[]⟩] HZSA.out rfl HZOA.out ?hx ?hy HZA.out ?_); (case hx => rfl); (case hy => rfl); rw [HWA.out])
  clear HZA HWA HTA1
  refine (HWH.out _).mono ?_
  rintro e wxB ⟨rfl, hwx⟩
  subst hwx
  go_wp2_with fail
  refine (getC_cut _ (B.take qB) _ (HTA2.out.ob.sb.first11 (Nat.le_of_lt hqB1)) HBT.out (by rw [HTL.out]; omega) HCU.out).mono ?_
  rintro e wB1 ⟨rfl, hb⟩
  have HTB1 := hide (HTA2.out.low hb)
  obtain ⟨ZB, hZ⟩ : ∃ Z, Z = Cen.zero.cs := ⟨_, rfl⟩
  have HZSB : Hid (ZB.size = 16) := by rw [hZ]; exact rsC _
  have HZOB : Hid (ZB.all (·.oneCell') = true) := by rw [hZ]; exact roC _
  rw [← hZ]
  have HZB : Hid ((wB1.alloc (.cells #[.int .i64 0, .int .i64 0, .int .i64 0, .int .i64 0, .int .i64 0, .int .u32 0, .int .i64 0, .int .i64 0, .string ⟨#[]⟩, .string ⟨#[]⟩, .int .i64 0, .int .i64 0, .int .i64 0, .int .i64 0, .int .i64 0, .string ⟨#[]⟩] 40)).heap[wB1.heap.size]? = some (.cells #[.int .i64 0, .int .i64 0, .int .i64 0, .int .i64 0, .int .i64 0, .int .u32 0, .int .i64 0, .int .i64 0, .string ⟨#[]⟩, .string ⟨#[]⟩, .int .i64 0, .int .i64 0, .int .i64 0, .int .i64 0, .int .i64 0, .string ⟨#[]⟩] 40 (0, 0))) := heap_alloc_new _ _
  obtain ⟨wB2, hw2⟩ : ∃ y, wB1.alloc (.cells ZB 40) = y := ⟨_, rfl⟩
  have HTB2 : Hid (T3 w ga gb gc pa pb pc A B C wB2) := by rw [← hw2]; exact HTB1.out.low ((Below.refl _ _).alloc (Nat.le_refl _) _)
  have HWB : Hid ((wB1.alloc (.cells #[.int .i64 0, .int .i64 0, .int .i64 0, .int .i64 0, .int .i64 0, .int .u32 0, .int .i64 0, .int .i64 0, .string ⟨#[]⟩, .string ⟨#[]⟩, .int .i64 0, .int .i64 0, .int .i64 0, .int .i64 0, .int .i64 0, .string ⟨#[]⟩] 40)).setRow wB1.heap.size ZB = wB2) := by show _ = _; rw [World.setRow_alloc_new]; exact hw2
  clear hb hZ hw2 HTA2 HCU HTL HBT HWH hkB0 hkB1 hqB hqB1 hqB2
  obtain ⟨kC, HKC⟩ : ∃ k, Hid (k = m % (C.length : Int)) := ⟨_, rfl⟩
  have hkC0 : 0 ≤ kC := by rw [HKC.out]; exact Int.emod_nonneg _ (by omega)
  have hkC1 : kC < (C.length : Int) := by rw [HKC.out]; exact Int.emod_lt_of_pos _ (by omega)
  obtain ⟨qC, hqC⟩ : ∃ q : Nat, (C.length : Int) - 1 - kC = q := ⟨((C.length : Int) - 1 - kC).toNat, by omega⟩
  have hqC1 : qC < C.length := by omega
  have hqC2 : qC ≤ pc := by omega
  have HWH := hide (fun W => which_any m (C.length : Int) (by omega) (by omega) W)
  rw [← HKC.out] at HWH
  have HBT := hide (byt_take HRC.out.byt qC)
  have HTL : Hid ((C.take qC).length = qC) := by show _ = _; rw [List.length_take]; omega
  have HCU := hide (en_cut HRC.out.ok HRC.out.plc hqC1)
  go_wp2_with ((with_reducible refine wpList_stC wB1.heap.size ZB #[.int .i64 0, .int .i64 0, .int .i64 0, .int .i64 0, .int .i64 0, .int .u32 0, .int .i64 0, .int .i64 0, .string ⟨#[]⟩, .string ⟨#[]⟩, .int .i64 0, .int .i64 0, .int .i64 0, .int .i64 0, .int .i64 0, .string ⟨#[]⟩] HZSB.out rfl HZOB.out ?hx ?hy HZB.out ?_); (case hx => rfl); (case hy => rfl); rw [HWB.out])
  clear HZB HWB HTB1
  refine (HWH.out _).mono ?_
  rintro e wxC ⟨rfl, hwx⟩
  subst hwx
  go_wp2_with fail
  refine (getE_cut _ (C.take qC) _ (HTB2.out.oc.sb.first11 (Nat.le_of_lt hqC1)) HBT.out (by rw [HTL.out]; omega) HCU.out).mono ?_
  rintro e wC1 ⟨rfl, hb⟩
  have HTC1 := hide (HTB2.out.low hb)
  obtain ⟨ZC, hZ⟩ : ∃ Z, Z = Enr.zero.cs := ⟨_, rfl⟩
  have HZSC : Hid (ZC.size = 7) := by rw [hZ]; exact rsE _
  have HZOC : Hid (ZC.all (·.oneCell') = true) := by rw [hZ]; exact roE _
  rw [← hZ]
  have HZC : Hid ((wC1.alloc (.cells #[.int .i64 0, .int .i64 0, .int .i64 0, .int .i64 0, .int .i64 0, .int .i64 0, .string ⟨#[]⟩] 24)).heap[wC1.heap.size]? = some (.cells #[.int .i64 0, .int .i64 0, .int .i64 0, .int .i64 0, .int .i64 0, .int .i64 0, .string ⟨#[]⟩] 24 (0, 0))) := heap_alloc_new _ _
  obtain ⟨wC2, hw2⟩ : ∃ y, wC1.alloc (.cells ZC 24) = y := ⟨_, rfl⟩
  have HTC2 : Hid (T3 w ga gb gc pa pb pc A B C wC2) := by rw [← hw2]; exact HTC1.out.low ((Below.refl _ _).alloc (Nat.le_refl _) _)
  have HWC : Hid ((wC1.alloc (.cells #[.int .i64 0, .int .i64 0, .int .i64 0, .int .i64 0, .int .i64 0, .int .i64 0, .string ⟨#[]⟩] 24)).setRow wC1.heap.size ZC = wC2) := by show _ = _; rw [World.setRow_alloc_new]; exact hw2
  clear hb hZ hw2 HTB2 HCU HTL HBT HWH hkC0 hkC1 hqC hqC1 hqC2
  obtain ⟨kk, hkk, hkl⟩ : ∃ k : Nat, bt % 32 = k ∧ k < 32 := ⟨(bt % 32).toNat, by omega, by omega⟩
  have HWH := hide (fun W => which_any bt 32 (by omega) (by omega) W)
  rw [hkk] at HWH
  obtain ⟨j, hj⟩ : ∃ j, kk / 8 = j := ⟨_, rfl⟩
  obtain ⟨i, hi⟩ : ∃ i, kk % 8 = i := ⟨_, rfl⟩
  have hj4 : j < 4 := by omega
  have hi8 : i < 8 := by omega
  have hq1 : (kk : Int).tdiv 8 = (j : Int) := by rw [Int.tdiv_eq_ediv_of_nonneg (by omega)]; omega
  have hr1 : (kk : Int).tmod 8 = (i : Int) := by rw [Int.tmod_eq_emod_of_nonneg (by omega)]; omega
  have hu1 : IntKind.u64.wrap (i : Int) = (i : Int) := by rw [IntKind.wrap_u64]; omega
  obtain ⟨S, hS⟩ : ∃ S : Int, (2 : Int) ^ i = S := ⟨_, rfl⟩
  have hS2 : S % 256 = S := by rw [← hS]; exact pow_256 i hi8
  have hsh : ∀ W : World, (Op.shift BinOp.shl IntKind.u8 1 IntKind.u64 (i : Int)).run Try.prog W = .ok (.int .u8 S) W := fun W => by rw [← hS]; exact shl_run i hi8 W
  obtain ⟨vA, hvA⟩ : ∃ v, A.getD j 0 = v := ⟨_, rfl⟩
  obtain ⟨xA, hxA⟩ : ∃ v, bits .xor .u8 vA S = v := ⟨_, rfl⟩
  have HFA : Hid (0 ≤ xA ∧ xA < 256 ∧ xA ≠ A.getD j 0) := by
    have := HRA.out.byt j
    rw [← hxA, ← hS, ← hvA]
    exact flip_any this.1 this.2 hi8
  obtain ⟨vB, hvB⟩ : ∃ v, B.getD j 0 = v := ⟨_, rfl⟩
  obtain ⟨xB, hxB⟩ : ∃ v, bits .xor .u8 vB S = v := ⟨_, rfl⟩
  have HFB : Hid (0 ≤ xB ∧ xB < 256 ∧ xB ≠ B.getD j 0) := by
    have := HRB.out.byt j
    rw [← hxB, ← hS, ← hvB]
    exact flip_any this.1 this.2 hi8
  obtain ⟨vC, hvC⟩ : ∃ v, C.getD j 0 = v := ⟨_, rfl⟩
  obtain ⟨xC, hxC⟩ : ∃ v, bits .xor .u8 vC S = v := ⟨_, rfl⟩
  have HFC : Hid (0 ≤ xC ∧ xC < 256 ∧ xC ≠ C.getD j 0) := by
    have := HRC.out.byt j
    rw [← hxC, ← hS, ← hvC]
    exact flip_any this.1 this.2 hi8
  obtain ⟨wp, hwp⟩ : ∃ y, wC2.setCell ⟨ga, j, none⟩ (.int .u8 xA) = y := ⟨_, rfl⟩
  have HTp : Hid (T3 w ga gb gc pa pb pc (A.set j xA) B C wp) := by rw [← hwp]; exact HTC2.out.setA j xA
  obtain ⟨wq, hwq⟩ : ∃ y, wp.setCell ⟨gb, j, none⟩ (.int .u8 xB) = y := ⟨_, rfl⟩
  have HTq : Hid (T3 w ga gb gc pa pb pc (A.set j xA) (B.set j xB) C wq) := by rw [← hwq]; exact HTp.out.setB j xB
  obtain ⟨wr, hwr⟩ : ∃ y, wq.setCell ⟨gc, j, none⟩ (.int .u8 xC) = y := ⟨_, rfl⟩
  have HTr : Hid (T3 w ga gb gc pa pb pc (A.set j xA) (B.set j xB) (C.set j xC) wr) := by rw [← hwr]; exact HTq.out.setC j xC
  obtain ⟨ca, fa⟩ := HTC2.out.oa.cellAt (j := j) (by omega)
  obtain ⟨cb, fb⟩ := HTp.out.ob.cellAt (j := j) (by omega)
  obtain ⟨cc, fc⟩ := HTq.out.oc.cellAt (j := j) (by omega)
  rw [hvA] at ca
  rw [hvB] at cb
  rw [hvC] at cc
  have jA : (j : Int) < (A.length : Int) := by omega
  have jB : (j : Int) < (B.length : Int) := by omega
  have jC : (j : Int) < (C.length : Int) := by omega
  go_wp2_with ((with_reducible refine wpList_stE wC1.heap.size ZC #[.int .i64 0, .int .i64 0, .int .i64 0, .int .i64 0, .int .i64 0, .int .i64 0, .string ⟨#[]⟩] HZSC.out rfl HZOC.out ?hx ?hy HZC.out ?_); (case hx => rfl); (case hy => rfl); rw [HWC.out])
  clear HZC HWC HTC1
  refine (HWH.out _).mono ?_
  rintro e wx ⟨rfl, hwx⟩
  subst hwx
  go_wp2_with fail
  clear hwp hwq hwr ca fa cb fb cc fc hsh hu1 hq1 hr1
  have HSPA := hide (lo_spoilt (D := A.set j xA) (by rw [List.length_set]; omega) (by have := fld_set HRA.out.byt (by omega) hj4 HFA.out.1 HFA.out.2.1 HFA.out.2.2; rw [HRA.out.sig] at this; exact this))
  have HSBA : Hid (SB wr (.slice (some ⟨ga, 0, none⟩) A.length pa) (A.set j xA)) := by
    have := HTr.out.oa.sb
    rwa [List.length_set] at this
  refine (getL_sig _ (A.set j xA) _ HSBA.out (byt_set HRA.out.byt j HFA.out.1 HFA.out.2.1) (by rw [List.length_set]; omega) HSPA.out).mono ?_
  rintro e wr1 ⟨⟨u1, rfl⟩, hb⟩
  have HTr1 := hide (HTr.out.low hb)
  clear hb HTr HSBA HSPA
  go_wp2_with fail
  have HSPB := hide (ce_spoilt (D := B.set j xB) (by rw [List.length_set]; omega) (by have := fld_set HRB.out.byt (by omega) hj4 HFB.out.1 HFB.out.2.1 HFB.out.2.2; rw [HRB.out.sig] at this; exact this))
  have HSBB : Hid (SB wr1 (.slice (some ⟨gb, 0, none⟩) B.length pb) (B.set j xB)) := by
    have := HTr1.out.ob.sb
    rwa [List.length_set] at this
  refine (getC_sig _ (B.set j xB) _ HSBB.out (byt_set HRB.out.byt j HFB.out.1 HFB.out.2.1) (by rw [List.length_set]; omega) HSPB.out).mono ?_
  rintro e wr2 ⟨⟨u2, rfl⟩, hb⟩
  have HTr2 := hide (HTr1.out.low hb)
  clear hb HTr1 HSBB HSPB
  go_wp2_with fail
  have HSPC := hide (en_spoilt (D := C.set j xC) (by rw [List.length_set]; omega) (by have := fld_set HRC.out.byt (by omega) hj4 HFC.out.1 HFC.out.2.1 HFC.out.2.2; rw [HRC.out.sig] at this; exact this))
  have HSBC : Hid (SB wr2 (.slice (some ⟨gc, 0, none⟩) C.length pc) (C.set j xC)) := by
    have := HTr2.out.oc.sb
    rwa [List.length_set] at this
  refine (getE_sig _ (C.set j xC) _ HSBC.out (byt_set HRC.out.byt j HFC.out.1 HFC.out.2.1) (by rw [List.length_set]; omega) HSPC.out).mono ?_
  rintro e wr3 ⟨⟨u3, rfl⟩, hb⟩
  have HTr3 := hide (HTr2.out.low hb)
  clear hb HTr2 HSBC HSPC
  go_wp2
  go_ret
  exact ⟨rfl, HTr3.out.bel⟩

theorem short_walk (c : Cen) (x : Enr) (m bt : Int) (okc : c.Ok) (okx : x.Ok) (h64 : Ok64 m) (hb64 : Ok64 bt) (w : World) :
    Calls Try.prog 4 #[c.v, x.v, .int .i64 m, .int .i64 bt] w fun e w' => e = .returned (.bool true) ∧ Below w.heap.size w w' := by
  by_cases h1 : fitI (ceI c)
  · by_cases h2 : fitI (enI x)
    · exact short_yes c x m bt okc okx h64 hb64 w h1 h2
    · exact short_no2 c x m bt okc okx h64 hb64 w h1 h2
  · exact short_no1 c x m bt okc okx h64 hb64 w h1
end Go.Proofs.Ytjjepgkcgbbmhab

