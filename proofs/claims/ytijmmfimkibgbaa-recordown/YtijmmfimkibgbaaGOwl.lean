import Derived.Test.YtijmmfimkibgbaaGOws
namespace Go.Proofs.Ytijmmfimkibgbaa
open Go.RowKit Go.Maps
set_option maxRecDepth 20000
set_option linter.unusedVariables false
set_option linter.unusedSimpArgs false

set_option maxHeartbeats 16000000 in
theorem own_yes (c : Cen) (x : Enr) (okc : c.Ok) (okx : x.Ok) (w : World) (hf : fitI (ceI c)) (hf2 : fitI (enI x))
    (hask : ∀ w, Calls Try.prog 11 #[c.v, x.v] w fun e w' => e = .returned (.bool true) ∧ Below w.heap.size w w')
    (hagn : ∀ w, Calls Try.prog 12 #[c.v, x.v] w fun e w' => e = .returned (.bool true) ∧ Below w.heap.size w w') :
    Calls Try.prog 3 #[c.v, x.v] w fun e w' => e = .returned (.bool true) ∧ Below w.heap.size w w' := by
  obtain ⟨CA, hCA⟩ : ∃ A, A = c.cs := ⟨_, rfl⟩
  obtain ⟨XA, hXA⟩ : ∃ A, A = x.cs := ⟨_, rfl⟩
  have HCV : Hid (c.v = .agg CA) := by show _ = _; rw [hCA]; rfl
  have HCS : Hid (CA.size = 16) := by rw [hCA]; exact rsC c
  have HCO : Hid (CA.all (·.oneCell') = true) := by rw [hCA]; exact roC c
  have HXV : Hid (x.v = .agg XA) := by show _ = _; rw [hXA]; rfl
  have HXS : Hid (XA.size = 7) := by rw [hXA]; exact rsE x
  have HEQ : Hid (∀ W, (Op.equalIn 10000 26 (.agg CA) (.agg CA)).run Try.prog W = .ok true W) := by rw [hCA]; exact eqCo c
  obtain ⟨A, hA⟩ : ∃ A, A = rowI (ceI c) := ⟨_, rfl⟩
  obtain ⟨B, hB⟩ : ∃ B, B = rowI (enI x) := ⟨_, rfl⟩
  have HPC : Hid (Puts 6 #[.agg CA] A) := by rw [hCA, hA]; exact putsC c okc hf
  have HPE : Hid (Puts 7 #[.agg XA] B) := by rw [hXA, hB]; exact putsE x okx hf2
  have HGC : Hid (Gets 10 A CA) := by rw [hCA, hA]; exact getsC c hf
  have HFC : Hid (∀ W, Calls Try.prog 4 #[.agg CA] W fun e w' => e = .returned (.bool true) ∧ Below W.heap.size W w') := fun W => by
    have := centralFits_any c okc W
    rw [show decide (fitI (ceI c)) = true from decide_eq_true hf, HCV.out] at this
    exact this
  have HFE : Hid (∀ W, Calls Try.prog 5 #[.agg XA] W fun e w' => e = .returned (.bool true) ∧ Below W.heap.size W w') := fun W => by
    have := endFits_any x okx W
    rw [show decide (fitI (enI x)) = true from decide_eq_true hf2, HXV.out] at this
    exact this
  have HAS : Hid (∀ W, Calls Try.prog 11 #[.agg CA, .agg XA] W fun e w' => e = .returned (.bool true) ∧ Below W.heap.size W w') := by rw [HCV.out, HXV.out] at hask; exact hask
  have HAG : Hid (∀ W, Calls Try.prog 12 #[.agg CA, .agg XA] W fun e w' => e = .returned (.bool true) ∧ Below W.heap.size W w') := by rw [HCV.out, HXV.out] at hagn; exact hagn
  have hA0 : 46 ≤ A.length := by rw [hA]; exact (rwC c hf).n
  have hA1 : A.length ≤ 200000 := by rw [hA]; exact (rwC c hf).len
  have hB0 : 22 ≤ B.length := by rw [hB]; exact (rwE x hf2).n
  have hB1 : B.length ≤ 200000 := by rw [hB]; exact (rwE x hf2).len
  rw [HCV.out, HXV.out]
  clear hA hB hf hf2 hask hagn hCA hXA okc okx HCV HXV
  obtain ⟨w1, hw1⟩ : ∃ y, w.alloc (.cells CA 26) = y := ⟨_, rfl⟩
  obtain ⟨w2, hw2⟩ : ∃ y, w1.alloc (.cells XA 28) = y := ⟨_, rfl⟩
  obtain ⟨g, hg⟩ : ∃ g, w1.heap.size = g := ⟨_, rfl⟩
  have HO2 : Hid (Own w w2 [(w.heap.size, CA, 26), (g, XA, 28)] []) := by rw [← hw2, ← hg, ← hw1]; exact ((Own.start w).box CA 26).box XA 28
  have HNC2 := hide (HO2.out.bx 0 w.heap.size CA 26 rfl).1
  have HNX2 := hide (HO2.out.bx 1 g XA 28 rfl).1
  go_enter Try.func3, Try.ntmps3
  go_wp2_with (first | ((with_reducible refine wpList_gC w.heap.size CA HCS.out ?hw ?hx HNC2.out ?_); (case hw => rfl); (case hx => rfl)) | ((with_reducible refine wpList_gE g XA HXS.out ?hw ?hx HNX2.out ?_); (case hw => rfl); (case hx => rfl)))
  clear hw1 hw2 hg
  refine (HFC.out _).mono ?_
  rintro e w3 ⟨rfl, hb⟩
  have HO3 : Hid (Own w w3 [(w.heap.size, CA, 26), (g, XA, 28)] []) := HO2.out.low hb
  clear hb HO2 HNC2 HNX2
  have HNC3 := hide (HO3.out.bx 0 w.heap.size CA 26 rfl).1
  have HNX3 := hide (HO3.out.bx 1 g XA 28 rfl).1
  go_wp2_with (first | ((with_reducible refine wpList_gC w.heap.size CA HCS.out ?hw ?hx HNC3.out ?_); (case hw => rfl); (case hx => rfl)) | ((with_reducible refine wpList_gE g XA HXS.out ?hw ?hx HNX3.out ?_); (case hw => rfl); (case hx => rfl)))
  refine (HFE.out _).mono ?_
  rintro e w4 ⟨rfl, hb⟩
  have HO4 : Hid (Own w w4 [(w.heap.size, CA, 26), (g, XA, 28)] []) := HO3.out.low hb
  clear hb HO3 HNC3 HNX3
  have HNC4 := hide (HO4.out.bx 0 w.heap.size CA 26 rfl).1
  have HNX4 := hide (HO4.out.bx 1 g XA 28 rfl).1
  go_wp2_with (first | ((with_reducible refine wpList_gC w.heap.size CA HCS.out ?hw ?hx HNC4.out ?_); (case hw => rfl); (case hx => rfl)) | ((with_reducible refine wpList_gE g XA HXS.out ?hw ?hx HNX4.out ?_); (case hw => rfl); (case hx => rfl)))
  refine (HPC.out _).mono ?_
  rintro e w5 ⟨ga, pa, rfl, ho, hb, za1, za2⟩
  have HO5 : Hid (Own w w5 [(w.heap.size, CA, 26), (g, XA, 28)] [(ga, pa, A)]) := HO4.out.add hb ho
  clear hb ho HO4 HNC4 HNX4
  have HNC5 := hide (HO5.out.bx 0 w.heap.size CA 26 rfl).1
  have HNX5 := hide (HO5.out.bx 1 g XA 28 rfl).1
  go_wp2_with (first | ((with_reducible refine wpList_gC w.heap.size CA HCS.out ?hw ?hx HNC5.out ?_); (case hw => rfl); (case hx => rfl)) | ((with_reducible refine wpList_gE g XA HXS.out ?hw ?hx HNX5.out ?_); (case hw => rfl); (case hx => rfl)))
  refine (HPE.out _).mono ?_
  rintro e w6 ⟨gb, pb, rfl, ho, hb, zb1, zb2⟩
  have HO6 : Hid (Own w w6 [(w.heap.size, CA, 26), (g, XA, 28)] [(ga, pa, A), (gb, pb, B)]) := HO5.out.add hb ho
  clear hb ho HO5 HNC5 HNX5
  have HNC6 := hide (HO6.out.bx 0 w.heap.size CA 26 rfl).1
  have HNX6 := hide (HO6.out.bx 1 g XA 28 rfl).1
  go_wp2_with fail
  refine (copied_any _ A _ (HO6.out.sl 0 ga pa A rfl).sb (by omega)).mono ?_
  rintro e w7 ⟨ac, pc, rfl, ho, hb⟩
  obtain ⟨gc, qc, hv, zc1, zc2⟩ := OB.some ho (by omega)
  simp only [Value.slice.injEq] at hv
  obtain ⟨rfl, -, rfl⟩ := hv
  have HO7 : Hid (Own w w7 [(w.heap.size, CA, 26), (g, XA, 28)] [(ga, pa, A), (gb, pb, B), (gc, pc, A)]) := HO6.out.add hb ho
  clear hb ho HO6 HNC6 HNX6
  have HNC7 := hide (HO7.out.bx 0 w.heap.size CA 26 rfl).1
  have HNX7 := hide (HO7.out.bx 1 g XA 28 rfl).1
  go_wp2_with fail
  refine (copied_any _ B _ (HO7.out.sl 1 gb pb B rfl).sb (by omega)).mono ?_
  rintro e w8 ⟨ad, pd, rfl, ho, hb⟩
  obtain ⟨gd, qd, hv, zd1, zd2⟩ := OB.some ho (by omega)
  simp only [Value.slice.injEq] at hv
  obtain ⟨rfl, -, rfl⟩ := hv
  have HO8 : Hid (Own w w8 [(w.heap.size, CA, 26), (g, XA, 28)] [(ga, pa, A), (gb, pb, B), (gc, pc, A), (gd, pd, B)]) := HO7.out.add hb ho
  clear hb ho HO7 HNC7 HNX7
  have HNC8 := hide (HO8.out.bx 0 w.heap.size CA 26 rfl).1
  have HNX8 := hide (HO8.out.bx 1 g XA 28 rfl).1
  go_wp2_with fail
  obtain ⟨A1, hA1⟩ : ∃ l, l = List.replicate A.length (1 : Int) := ⟨_, rfl⟩
  have HLA1 : Hid (A1.length = A.length) := by rw [hA1]; exact List.length_replicate
  have HGA1 : Hid (∀ j, j < A.length → A1.getD j 0 = 1) := by rw [hA1]; intro j hj; simp [List.getD, hj]
  have HEA1 := hide hA1
  clear hA1
  go_loopw [11] (fun i wq => ∃ k : Nat, i = .int .i64 (k : Int) ∧ k ≤ A.length ∧ Hid (OB wq w.heap.size (.slice (some ⟨ga, 0, none⟩) A.length pa) (List.replicate k 1 ++ A.drop k)) ∧ Hid (w8.grownBy wq (some ga))) (fun i _ => A.length - (intOf i).toNat)
  case atStart => exact ⟨0, rfl, Nat.zero_le _, by have := HO8.out.sl 0 ga pa A rfl; show OB _ _ _ _; simpa using this, World.grownBy.refl _ _⟩
  case round =>
    obtain ⟨k, rfl, hk, HQ, HGr⟩ := hrel
    by_cases hlt : k < A.length
    case pos =>
      have hlt' : (k : Int) < (A.length : Int) := by omega
      obtain ⟨hs, ⟨u, d0⟩, df⟩ := OB.mark 1 HQ.out hlt
      have HS := hide hs
      have HG2 : Hid (w8.grownBy (wr.setCell ⟨ga, k, none⟩ (.int .u8 1)) (some ga)) := HGr.out.trans (grownBy_set rfl)
      clear hs HQ HGr
      go_wp2_with fail
      go_roundw
      case rel => exact ⟨k + 1, by go_num, by omega, HS.out, HG2.out⟩
      case measure => simp [intOf]; omega
    case neg =>
      have hlt' : ¬ (k : Int) < (A.length : Int) := by omega
      obtain ⟨w9, hwn⟩ : ∃ y, y = wr := ⟨_, rfl⟩
      subst hwn
      have HO9 : Hid (Own w w9 [(w.heap.size, CA, 26), (g, XA, 28)] [(ga, pa, A1), (gb, pb, B), (gc, pc, A), (gd, pd, B)]) := by
        have h := HQ.out
        rw [show k = A.length by omega, List.drop_length, List.append_nil, ← HEA1.out, ← HLA1.out] at h
        exact HO8.out.set (i := 0) rfl HGr.out h
      clear HQ HGr HO8 HNC8 HNX8
      have HNC9 := hide (HO9.out.bx 0 w.heap.size CA 26 rfl).1
      have HNX9 := hide (HO9.out.bx 1 g XA 28 rfl).1
      go_wp2_with fail
      obtain ⟨B1, hB1⟩ : ∃ l, l = List.replicate B.length (2 : Int) := ⟨_, rfl⟩
      have HLB1 : Hid (B1.length = B.length) := by rw [hB1]; exact List.length_replicate
      have HGB1 : Hid (∀ j, j < B.length → B1.getD j 0 = 2) := by rw [hB1]; intro j hj; simp [List.getD, hj]
      have HEB1 := hide hB1
      clear hB1
      go_loopw [12] (fun i wq => ∃ k : Nat, i = .int .i64 (k : Int) ∧ k ≤ B.length ∧ Hid (OB wq w.heap.size (.slice (some ⟨gb, 0, none⟩) B.length pb) (List.replicate k 2 ++ B.drop k)) ∧ Hid (w9.grownBy wq (some gb))) (fun i _ => B.length - (intOf i).toNat)
      case atStart => exact ⟨0, rfl, Nat.zero_le _, by have := HO9.out.sl 1 gb pb B rfl; show OB _ _ _ _; simpa using this, World.grownBy.refl _ _⟩
      case round =>
        obtain ⟨k, rfl, hk, HQ, HGr⟩ := hrel
        by_cases hlt : k < B.length
        case pos =>
          have hlt' : (k : Int) < (B.length : Int) := by omega
          obtain ⟨hs, ⟨u, d0⟩, df⟩ := OB.mark 2 HQ.out hlt
          have HS := hide hs
          have HG2 : Hid (w9.grownBy (wr.setCell ⟨gb, k, none⟩ (.int .u8 2)) (some gb)) := HGr.out.trans (grownBy_set rfl)
          clear hs HQ HGr
          go_wp2_with fail
          go_roundw
          case rel => exact ⟨k + 1, by go_num, by omega, HS.out, HG2.out⟩
          case measure => simp [intOf]; omega
        case neg =>
          have hlt' : ¬ (k : Int) < (B.length : Int) := by omega
          obtain ⟨w10, hwn⟩ : ∃ y, y = wr := ⟨_, rfl⟩
          subst hwn
          have HO10 : Hid (Own w w10 [(w.heap.size, CA, 26), (g, XA, 28)] [(ga, pa, A1), (gb, pb, B1), (gc, pc, A), (gd, pd, B)]) := by
            have h := HQ.out
            rw [show k = B.length by omega, List.drop_length, List.append_nil, ← HEB1.out, ← HLB1.out] at h
            exact HO9.out.set (i := 1) rfl HGr.out h
          clear HQ HGr HO9 HNC9 HNX9
          have HNC10 := hide (HO10.out.bx 0 w.heap.size CA 26 rfl).1
          have HNX10 := hide (HO10.out.bx 1 g XA 28 rfl).1
          go_wp2_with (first | ((with_reducible refine wpList_gC w.heap.size CA HCS.out ?hw ?hx HNC10.out ?_); (case hw => rfl); (case hx => rfl)) | ((with_reducible refine wpList_gE g XA HXS.out ?hw ?hx HNX10.out ?_); (case hw => rfl); (case hx => rfl)))
          refine (HPC.out _).mono ?_
          rintro e w11 ⟨gm, pm, rfl, ho, hb, zm1, zm2⟩
          have HO11 : Hid (Own w w11 [(w.heap.size, CA, 26), (g, XA, 28)] [(ga, pa, A1), (gb, pb, B1), (gc, pc, A), (gd, pd, B), (gm, pm, A)]) := HO10.out.add hb ho
          clear hb ho HO10 HNC10 HNX10
          have HNC11 := hide (HO11.out.bx 0 w.heap.size CA 26 rfl).1
          have HNX11 := hide (HO11.out.bx 1 g XA 28 rfl).1
          go_wp2_with (first | ((with_reducible refine wpList_gC w.heap.size CA HCS.out ?hw ?hx HNC11.out ?_); (case hw => rfl); (case hx => rfl)) | ((with_reducible refine wpList_gE g XA HXS.out ?hw ?hx HNX11.out ?_); (case hw => rfl); (case hx => rfl)))
          refine (HPE.out _).mono ?_
          rintro e w12 ⟨gn, pn, rfl, ho, hb, zn1, zn2⟩
          have HO12 : Hid (Own w w12 [(w.heap.size, CA, 26), (g, XA, 28)] [(ga, pa, A1), (gb, pb, B1), (gc, pc, A), (gd, pd, B), (gm, pm, A), (gn, pn, B)]) := HO11.out.add hb ho
          clear hb ho HO11 HNC11 HNX11
          have HNC12 := hide (HO12.out.bx 0 w.heap.size CA 26 rfl).1
          have HNX12 := hide (HO12.out.bx 1 g XA 28 rfl).1
          have HSM13 : Hid (Calls Try.prog 9 #[.slice (some ⟨gm, 0, none⟩) A.length pm, .slice (some ⟨gc, 0, none⟩) A.length pc] w12 fun e w' => e = .returned (.bool true) ∧ ∃ n, w' = w12.drewN n) := by
            have := same_any _ _ A A w12 (HO12.out.sl 4 gm pm A rfl).sb (HO12.out.sl 2 gc pc A rfl).sb
            rw [show eqB A A = true by simp [eqB]] at this
            exact this
          go_wp2_with fail
          refine HSM13.out.mono ?_
          rintro e w13 ⟨rfl, nn13, hd⟩
          have HO13 : Hid (Own w w13 [(w.heap.size, CA, 26), (g, XA, 28)] [(ga, pa, A1), (gb, pb, B1), (gc, pc, A), (gd, pd, B), (gm, pm, A), (gn, pn, B)]) := by rw [hd]; exact HO12.out.low (below_drewN (Below.refl _ _) nn13)
          clear hd HSM13 HO12 HNC12 HNX12
          have HNC13 := hide (HO13.out.bx 0 w.heap.size CA 26 rfl).1
          have HNX13 := hide (HO13.out.bx 1 g XA 28 rfl).1
          have HSM14 : Hid (Calls Try.prog 9 #[.slice (some ⟨gn, 0, none⟩) B.length pn, .slice (some ⟨gd, 0, none⟩) B.length pd] w13 fun e w' => e = .returned (.bool true) ∧ ∃ n, w' = w13.drewN n) := by
            have := same_any _ _ B B w13 (HO13.out.sl 5 gn pn B rfl).sb (HO13.out.sl 3 gd pd B rfl).sb
            rw [show eqB B B = true by simp [eqB]] at this
            exact this
          go_wp2_with fail
          refine HSM14.out.mono ?_
          rintro e w14 ⟨rfl, nn14, hd⟩
          have HO14 : Hid (Own w w14 [(w.heap.size, CA, 26), (g, XA, 28)] [(ga, pa, A1), (gb, pb, B1), (gc, pc, A), (gd, pd, B), (gm, pm, A), (gn, pn, B)]) := by rw [hd]; exact HO13.out.low (below_drewN (Below.refl _ _) nn14)
          clear hd HSM14 HO13 HNC13 HNX13
          have HNC14 := hide (HO14.out.bx 0 w.heap.size CA 26 rfl).1
          have HNX14 := hide (HO14.out.bx 1 g XA 28 rfl).1
          go_wp2_with fail
          go_loopw [17] (fun i wq => ∃ k : Nat, i = .int .i64 (k : Int) ∧ k ≤ A.length ∧ Hid (Own w wq [(w.heap.size, CA, 26), (g, XA, 28)] [(ga, pa, A1), (gb, pb, B1), (gc, pc, A), (gd, pd, B), (gm, pm, A), (gn, pn, B)])) (fun i _ => A.length - (intOf i).toNat)
          case atStart => exact ⟨0, rfl, Nat.zero_le _, HO14.out⟩
          case round =>
            obtain ⟨w15, hwn⟩ : ∃ y, y = wr := ⟨_, rfl⟩
            subst hwn
            clear HO14 HNC14 HNX14
            obtain ⟨kA, rfl, hkA, HO15⟩ := hrel
            by_cases hlt : kA < A.length
            case pos =>
              have hlt' : (kA : Int) < (A.length : Int) := by omega
              have d0 := ((HO15.out.sl 0 ga pa A1 rfl).cellAt (j := kA) (by rw [HLA1.out]; exact hlt)).1
              rw [HGA1.out _ hlt] at d0
              go_wp2_with fail
              go_roundw
              case rel => exact ⟨kA + 1, by go_num, by omega, HO15.out⟩
              case measure => simp [intOf]; omega
            case neg =>
              have hltA : ¬ (kA : Int) < (A.length : Int) := by omega
              have HNC15 := hide (HO15.out.bx 0 w.heap.size CA 26 rfl).1
              have HNX15 := hide (HO15.out.bx 1 g XA 28 rfl).1
              go_wp2_with fail
              go_loopw [18] (fun i wq => ∃ k : Nat, i = .int .i64 (k : Int) ∧ k ≤ B.length ∧ Hid (Own w wq [(w.heap.size, CA, 26), (g, XA, 28)] [(ga, pa, A1), (gb, pb, B1), (gc, pc, A), (gd, pd, B), (gm, pm, A), (gn, pn, B)])) (fun i _ => B.length - (intOf i).toNat)
              case atStart => exact ⟨0, rfl, Nat.zero_le _, HO15.out⟩
              case round =>
                obtain ⟨w16, hwn⟩ : ∃ y, y = wr := ⟨_, rfl⟩
                subst hwn
                clear HO15 HNC15 HNX15
                obtain ⟨kB, rfl, hkB, HO16⟩ := hrel
                by_cases hlt : kB < B.length
                case pos =>
                  have hlt' : (kB : Int) < (B.length : Int) := by omega
                  have d0 := ((HO16.out.sl 1 gb pb B1 rfl).cellAt (j := kB) (by rw [HLB1.out]; exact hlt)).1
                  rw [HGB1.out _ hlt] at d0
                  go_wp2_with fail
                  go_roundw
                  case rel => exact ⟨kB + 1, by go_num, by omega, HO16.out⟩
                  case measure => simp [intOf]; omega
                case neg =>
                  have hltB : ¬ (kB : Int) < (B.length : Int) := by omega
                  have HNC16 := hide (HO16.out.bx 0 w.heap.size CA 26 rfl).1
                  have HNX16 := hide (HO16.out.bx 1 g XA 28 rfl).1
                  go_wp2_with fail
                  refine (HGC.out _ _ (HO16.out.sl 4 gm pm A rfl).sb).mono ?_
                  rintro e wg ⟨rfl, hb⟩
                  have HOg := hide (HO16.out.low hb)
                  have HZ : Hid ((wg.alloc (.cells #[.int .i64 0, .int .i64 0, .int .i64 0, .int .i64 0, .int .i64 0, .int .u32 0, .int .i64 0, .int .i64 0, .string ⟨#[]⟩, .string ⟨#[]⟩, .int .i64 0, .int .i64 0, .int .i64 0, .int .i64 0, .int .i64 0, .string ⟨#[]⟩] 26)).heap[wg.heap.size]? = some (.cells #[.int .i64 0, .int .i64 0, .int .i64 0, .int .i64 0, .int .i64 0, .int .u32 0, .int .i64 0, .int .i64 0, .string ⟨#[]⟩, .string ⟨#[]⟩, .int .i64 0, .int .i64 0, .int .i64 0, .int .i64 0, .int .i64 0, .string ⟨#[]⟩] 26 (0, 0))) := heap_alloc_new _ _
                  obtain ⟨w17, hwn⟩ : ∃ y, wg.alloc (.cells CA 26) = y := ⟨_, rfl⟩
                  have HWN : Hid ((wg.alloc (.cells #[.int .i64 0, .int .i64 0, .int .i64 0, .int .i64 0, .int .i64 0, .int .u32 0, .int .i64 0, .int .i64 0, .string ⟨#[]⟩, .string ⟨#[]⟩, .int .i64 0, .int .i64 0, .int .i64 0, .int .i64 0, .int .i64 0, .string ⟨#[]⟩] 26)).setRow wg.heap.size CA = w17) := by show _ = _; rw [World.setRow_alloc_new]; exact hwn
                  obtain ⟨gz, hgz⟩ : ∃ k, k = wg.heap.size := ⟨_, rfl⟩
                  have HO17 : Hid (Own w w17 [(w.heap.size, CA, 26), (g, XA, 28), (gz, CA, 26)] [(ga, pa, A1), (gb, pb, B1), (gc, pc, A), (gd, pd, B), (gm, pm, A), (gn, pn, B)]) := by rw [← hwn, hgz]; exact HOg.out.box CA 26
                  rw [← hgz] at HZ HWN
                  have hgz2 := hgz.symm
                  clear hb hwn HOg HO16 HNC16 HNX16 hgz
                  have HNC17 := hide (HO17.out.bx 0 w.heap.size CA 26 rfl).1
                  have HNX17 := hide (HO17.out.bx 1 g XA 28 rfl).1
                  have HNZ17 := hide (HO17.out.bx 2 gz CA 26 rfl).1
                  go_wp2_with ((with_reducible refine wpList_stC gz CA #[.int .i64 0, .int .i64 0, .int .i64 0, .int .i64 0, .int .i64 0, .int .u32 0, .int .i64 0, .int .i64 0, .string ⟨#[]⟩, .string ⟨#[]⟩, .int .i64 0, .int .i64 0, .int .i64 0, .int .i64 0, .int .i64 0, .string ⟨#[]⟩] HCS.out rfl HCO.out ?hx ?hy HZ.out ?_); (case hx => rfl); (case hy => rfl); rw [HWN.out])
                  clear HZ HWN hgz2
                  clear HNZ17
                  obtain ⟨A3, hA3⟩ : ∃ l, l = List.replicate A.length (3 : Int) := ⟨_, rfl⟩
                  have HLA3 : Hid (A3.length = A.length) := by rw [hA3]; exact List.length_replicate
                  have HGA3 : Hid (∀ j, j < A.length → A3.getD j 0 = 3) := by rw [hA3]; intro j hj; simp [List.getD, hj]
                  have HEA3 := hide hA3
                  clear hA3
                  go_loopw [22] (fun i wq => ∃ k : Nat, i = .int .i64 (k : Int) ∧ k ≤ A.length ∧ Hid (OB wq w.heap.size (.slice (some ⟨gm, 0, none⟩) A.length pm) (List.replicate k 3 ++ A.drop k)) ∧ Hid (w17.grownBy wq (some gm))) (fun i _ => A.length - (intOf i).toNat)
                  case atStart => exact ⟨0, rfl, Nat.zero_le _, by have := HO17.out.sl 4 gm pm A rfl; show OB _ _ _ _; simpa using this, World.grownBy.refl _ _⟩
                  case round =>
                    obtain ⟨k, rfl, hk, HQ, HGr⟩ := hrel
                    by_cases hlt : k < A.length
                    case pos =>
                      have hlt' : (k : Int) < (A.length : Int) := by omega
                      obtain ⟨hs, ⟨u, d0⟩, df⟩ := OB.mark 3 HQ.out hlt
                      have HS := hide hs
                      have HG2 : Hid (w17.grownBy (wr.setCell ⟨gm, k, none⟩ (.int .u8 3)) (some gm)) := HGr.out.trans (grownBy_set rfl)
                      clear hs HQ HGr
                      go_wp2_with fail
                      go_roundw
                      case rel => exact ⟨k + 1, by go_num, by omega, HS.out, HG2.out⟩
                      case measure => simp [intOf]; omega
                    case neg =>
                      have hlt' : ¬ (k : Int) < (A.length : Int) := by omega
                      obtain ⟨w18, hwn⟩ : ∃ y, y = wr := ⟨_, rfl⟩
                      subst hwn
                      have HO18 : Hid (Own w w18 [(w.heap.size, CA, 26), (g, XA, 28), (gz, CA, 26)] [(ga, pa, A1), (gb, pb, B1), (gc, pc, A), (gd, pd, B), (gm, pm, A3), (gn, pn, B)]) := by
                        have h := HQ.out
                        rw [show k = A.length by omega, List.drop_length, List.append_nil, ← HEA3.out, ← HLA3.out] at h
                        exact HO17.out.set (i := 4) rfl HGr.out h
                      clear HQ HGr HO17 HNC17 HNX17
                      have HNC18 := hide (HO18.out.bx 0 w.heap.size CA 26 rfl).1
                      have HNX18 := hide (HO18.out.bx 1 g XA 28 rfl).1
                      have HNZ18 := hide (HO18.out.bx 2 gz CA 26 rfl).1
                      have heq := HEQ.out
                      go_wp2_with (first | ((with_reducible refine wpList_gC w.heap.size CA HCS.out ?hw ?hx HNC18.out ?_); (case hw => rfl); (case hx => rfl)) | ((with_reducible refine wpList_gE g XA HXS.out ?hw ?hx HNX18.out ?_); (case hw => rfl); (case hx => rfl)) | ((with_reducible refine wpList_gC gz CA HCS.out ?hw ?hx HNZ18.out ?_); (case hw => rfl); (case hx => rfl)))
                      clear heq
                      refine (HAS.out _).mono ?_
                      rintro e w19 ⟨rfl, hb⟩
                      have HO19 : Hid (Own w w19 [(w.heap.size, CA, 26), (g, XA, 28), (gz, CA, 26)] [(ga, pa, A1), (gb, pb, B1), (gc, pc, A), (gd, pd, B), (gm, pm, A3), (gn, pn, B)]) := HO18.out.low hb
                      clear hb HO18 HNC18 HNX18 HNZ18
                      have HNC19 := hide (HO19.out.bx 0 w.heap.size CA 26 rfl).1
                      have HNX19 := hide (HO19.out.bx 1 g XA 28 rfl).1
                      go_wp2_with (first | ((with_reducible refine wpList_gC w.heap.size CA HCS.out ?hw ?hx HNC19.out ?_); (case hw => rfl); (case hx => rfl)) | ((with_reducible refine wpList_gE g XA HXS.out ?hw ?hx HNX19.out ?_); (case hw => rfl); (case hx => rfl)))
                      refine (HAG.out _).mono ?_
                      rintro e wE ⟨rfl, hb⟩
                      have HOE := hide (HO19.out.low hb)
                      go_wp2
                      go_ret
                      exact ⟨rfl, HOE.out.bel⟩
end Go.Proofs.Ytijmmfimkibgbaa

