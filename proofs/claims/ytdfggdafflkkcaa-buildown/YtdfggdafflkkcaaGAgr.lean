import Derived.Test.YtdfggdafflkkcaaGAgq
namespace Go.Proofs.Ytdfggdafflkkcaa
open Go.RowKit Go.Maps
set_option maxRecDepth 20000
set_option linter.unusedVariables false
set_option linter.unusedSimpArgs false

set_option maxHeartbeats 16000000 in
theorem again6_walk (f : List Int) (L : Nat) (hs : Sound f) (hL : 1 ≤ L ∧ L ≤ 15) (hu : (us f).length ≤ 2 ^ L) (v : Value) (w : World) (h : SI w v f) :
    Calls Try.prog 12 #[v, .int .i64 (L : Int)] w fun e w' => e = .returned (.bool true) ∧ Below w.heap.size w w' := by
  obtain ⟨ao, cap, rfl, hlc, hcm⟩ := h.open
  have HS := hide h
  have h288 : f.length ≤ 288 := hs.len
  have hsr := sound_rev hs
  have hur : (us f.reverse).length ≤ 2 ^ L := by rw [us_rev]; exact hu
  obtain ⟨R, hR⟩ : ∃ R, R = f.reverse := ⟨_, rfl⟩
  rw [← hR] at hsr hur
  have HLR : Hid (R.length = f.length) := by show _ = _; rw [hR]; exact List.length_reverse
  have HGR : Hid (∀ i, i < f.length → R.getD i 0 = f.getD (f.length - 1 - i) 0) := by rw [hR]; exact fun i hi => getD_rev hi
  obtain ⟨D, hD⟩ : ∃ D, D = dpt f := ⟨_, rfl⟩
  obtain ⟨M, hM⟩ : ∃ M, M = lmt f L := ⟨_, rfl⟩
  obtain ⟨D2, hD2⟩ : ∃ D, D = dpt R := ⟨_, rfl⟩
  obtain ⟨M2, hM2⟩ : ∃ M, M = lmt R L := ⟨_, rfl⟩
  have HLD2 : Hid (D2.length = f.length) := by show _ = _; rw [hD2, ← HLR.out]; simp [dpt]
  have h64 : (L : Int) ≤ 9223372036854775807 ∧ -9223372036854775808 ≤ (L : Int) := by omega
  have HDE : Hid (∀ W v, SI W v f → Calls Try.prog 7 #[v] W fun e w' => ∃ a c, e = .returned (.tuple #[.slice a f.length c, .int .i64 0]) ∧ OI w' W.heap.size (.slice a f.length c) D ∧ Below W.heap.size W w') := fun W v h => by rw [hD]; exact depths_ok hs v W h
  have HLI : Hid (∀ W v, SI W v f → (∀ k, v.ownBlock = some k → k < W.heap.size) → Calls Try.prog 8 #[v, .int .i64 (L : Int)] W fun e w' => ∃ a c, e = .returned (.tuple #[.slice a f.length c, .int .i64 0]) ∧ OI w' W.heap.size (.slice a f.length c) M ∧ Below W.heap.size W w') := fun W v h hk => by rw [hM]; exact limited_ok hs hL hu v W h hk
  have HDR : Hid (∀ W v, SI W v R → Calls Try.prog 7 #[v] W fun e w' => ∃ a c, e = .returned (.tuple #[.slice a f.length c, .int .i64 0]) ∧ OI w' W.heap.size (.slice a f.length c) D2 ∧ Below W.heap.size W w') := fun W v h => by have := depths_ok hsr v W h; rw [HLR.out, ← hD2] at this; exact this
  have HLM : Hid (∀ W v, SI W v R → (∀ k, v.ownBlock = some k → k < W.heap.size) → Calls Try.prog 8 #[v, .int .i64 (L : Int)] W fun e w' => ∃ a c, e = .returned (.tuple #[.slice a f.length c, .int .i64 0]) ∧ OI w' W.heap.size (.slice a f.length c) M2 ∧ Below W.heap.size W w') := fun W v h hk => by have := limited_ok hsr hL hur v W h hk; rw [HLR.out, ← hM2] at this; exact this
  have HG1 : Hid (∀ W v u, SI W v f → SI W u D → Calls Try.prog 22 #[v, u, .int .i64 60] W fun e w' => e = .returned (.bool true) ∧ w' = W) := fun W v u h1 h2 => good_gd v u f D 60 W h1 h2 hs (by rw [hD]; exact gd_dpt hs) (by omega)
  have HG2 : Hid (∀ W v u, SI W v f → SI W u M → Calls Try.prog 22 #[v, u, .int .i64 (L : Int)] W fun e w' => e = .returned (.bool true) ∧ w' = W) := fun W v u h1 h2 => good_gd v u f M L W h1 h2 hs (by rw [hM]; exact gd_lmt hs hL hu) h64
  have HG3 : Hid (∀ W v u, SI W v R → SI W u D2 → Calls Try.prog 22 #[v, u, .int .i64 60] W fun e w' => e = .returned (.bool true) ∧ w' = W) := fun W v u h1 h2 => good_gd v u R D2 60 W h1 h2 hsr (by rw [hD2]; exact gd_dpt hsr) (by omega)
  have HG4 : Hid (∀ W v u, SI W v R → SI W u M2 → Calls Try.prog 22 #[v, u, .int .i64 (L : Int)] W fun e w' => e = .returned (.bool true) ∧ w' = W) := fun W v u h1 h2 => good_gd v u R M2 L W h1 h2 hsr (by rw [hM2]; exact gd_lmt hsr hL hur) h64
  obtain ⟨cV, hcV⟩ : ∃ c, c = cstV R D2 := ⟨_, rfl⟩
  have HK : Hid (∀ W v u, SI W v R → SI W u D2 → Calls Try.prog 10 #[v, u] W fun e w' => e = .returned (.tuple #[.int .i64 cV, .int .i64 0]) ∧ ∃ q, w' = W.drewN q) := fun W v u h1 h2 => by
    have h := cost_any v u R D2 W h1 h2
    rw [cst_gd hsr (by rw [hD2]; exact gd_dpt hsr), ← hcV] at h
    exact h
  have HK1 : Hid (∀ W v u, SI W v [1, 1, 2] → SI W u [2, 2, 1] → Calls Try.prog 10 #[v, u] W fun e w' => e = .returned (.tuple #[.int .i64 6, .int .i64 0]) ∧ ∃ q, w' = W.drewN q) := fun W v u h1 h2 => by have h := cost_any v u _ _ W h1 h2; rw [few_c1.1, few_c1.2] at h; exact h
  have HK2 : Hid (∀ W v u, SI W v [5, 1, 2] → SI W u [2, 2, 1] → Calls Try.prog 10 #[v, u] W fun e w' => e = .returned (.tuple #[.int .i64 14, .int .i64 0]) ∧ ∃ q, w' = W.drewN q) := fun W v u h1 h2 => by have h := cost_any v u _ _ W h1 h2; rw [few_c2.1, few_c2.2] at h; exact h
  have HK3 : Hid (∀ W v u, SI W v [5, 1, 2] → SI W u [2, 2, 2] → Calls Try.prog 10 #[v, u] W fun e w' => e = .returned (.tuple #[.int .i64 16, .int .i64 0]) ∧ ∃ q, w' = W.drewN q) := fun W v u h1 h2 => by have h := cost_any v u _ _ W h1 h2; rw [few_c3.1, few_c3.2] at h; exact h
  have HO0 : Hid (OwI w w []) := OwI.start w
  clear hR hD hM hD2 hM2 hcV h hs hsr hu hur h64
  go_enter Try.func12, Try.ntmps12
  go_wp2_with fail
  refine (copied_any _ f _ (HS.out.below HO0.out.bel) (by omega)).mono ?_
  rintro e w1 ⟨ai, ci, rfl, ho, hb⟩
  have HO1 : Hid (OwI w w1 [(.slice ai f.length ci, f)]) := HO0.out.add hb ho
  clear ho hb HO0
  go_wp2_with fail
  refine (HDE.out _ _ (HO1.out.sl 0 _ _ rfl).sb).mono ?_
  rintro e w2 ⟨aa, ca, rfl, ho, hb⟩
  have HO2 : Hid (OwI w w2 [(.slice ai f.length ci, f), (.slice aa f.length ca, D)]) := HO1.out.add hb ho
  clear ho hb HO1
  go_wp2_with fail
  refine (HLI.out _ _ (HO2.out.sl 0 _ _ rfl).sb (fun k hk => ((HO2.out.sl 0 _ _ rfl).lt k hk).2)).mono ?_
  rintro e w3 ⟨ax, cx, rfl, ho, hb⟩
  have HO3 : Hid (OwI w w3 [(.slice ai f.length ci, f), (.slice aa f.length ca, D), (.slice ax f.length cx, M)]) := HO2.out.add hb ho
  clear ho hb HO2
  go_wp2_with fail
  go_loopw [10] (fun i wq => ∃ k : Nat, i = .int .i64 (k : Int) ∧ k ≤ f.length ∧ Hid (OI wq w.heap.size (.slice ai f.length ci) (R.take k ++ f.drop k)) ∧ Hid (w3.grownBy wq (Value.slice ai f.length ci).ownBlock)) (fun i _ => f.length - (intOf i).toNat)
  case atStart => exact ⟨0, rfl, Nat.zero_le _, by have := HO3.out.sl 0 _ _ rfl; show OI _ _ _ _; simpa using this, World.grownBy.refl _ _⟩
  case round =>
    obtain ⟨k, rfl, hk, HQ, HG⟩ := hrel
    by_cases hlt : k < f.length
    case pos =>
      have hlt' : (k : Int) < (f.length : Int) := by omega
      have hlen : (R.take k ++ f.drop k).length = f.length := by have := HLR.out; simp; omega
      have hq := HQ.out
      rw [← hlen] at hq
      obtain ⟨gi, pi, hv, z1, z2⟩ := OI.some hq (by omega)
      simp only [Value.slice.injEq] at hv
      obtain ⟨rfl, -, rfl⟩ := hv
      obtain ⟨d0, df⟩ := hq.cellAt (j := k) (by omega)
      have hs := hq.setAt (j := k) (R.getD k 0)
      rw [set_turn HLR.out hlt, hlen] at hs
      have HBr : Below w.heap.size w wr := HO3.out.bel.grown HG.out HO3.out.bel.size (fun b hb => ((HO3.out.sl 0 _ _ rfl).lt b hb).1)
      obtain ⟨j, hj⟩ : ∃ j : Nat, (f.length : Int) - 1 - (k : Int) = (j : Int) := ⟨f.length - 1 - k, by omega⟩
      have hj1 : (j : Int) < (f.length : Int) := by omega
      have hjk : f.length - 1 - k = j := by omega
      obtain ⟨b0, o0, hao, d1⟩ := HS.out.get HBr (k := j) (by omega)
      subst hao
      have hx := HGR.out k hlt
      rw [hjk] at hx
      rw [← hx] at d1
      obtain ⟨x, hxx⟩ : ∃ x, R.getD k 0 = x := ⟨_, rfl⟩
      rw [hxx] at d1 hs
      have HSS := hide hs
      have HG2' : Hid (w3.grownBy (wr.setCell ⟨gi, k, none⟩ (.int .i64 x)) (Value.slice (some ⟨gi, 0, none⟩) f.length ci).ownBlock) := HG.out.trans (grownBy_set rfl)
      clear hs hq hx hxx hlen HBr HQ HG hjk
      go_wp2_with fail
      go_roundw
      case rel => exact ⟨k + 1, by go_num, by omega, HSS.out, HG2'.out⟩
      case measure => simp [intOf]; omega
    case neg =>
      have hlt' : ¬ (k : Int) < (f.length : Int) := by omega
      obtain ⟨w4, hwn⟩ : ∃ y, y = wr := ⟨_, rfl⟩
      subst hwn
      have HO4 : Hid (OwI w w4 [(.slice ai f.length ci, R), (.slice aa f.length ca, D), (.slice ax f.length cx, M)]) := by
        have h := HQ.out
        rw [show k = f.length by omega, List.drop_length, List.append_nil, ← HLR.out, List.take_length, HLR.out] at h
        exact HO3.out.set (i := 0) rfl HG.out h
      clear HQ HG HO3
      go_wp2_with fail
      refine (HDR.out _ _ (HO4.out.sl 0 _ _ rfl).sb).mono ?_
      rintro e w5 ⟨ab, cb, rfl, ho, hb⟩
      have HO5 : Hid (OwI w w5 [(.slice ai f.length ci, R), (.slice aa f.length ca, D), (.slice ax f.length cx, M), (.slice ab f.length cb, D2)]) := HO4.out.add hb ho
      clear ho hb HO4
      go_wp2_with fail
      refine (HLM.out _ _ (HO5.out.sl 0 _ _ rfl).sb (fun k hk => ((HO5.out.sl 0 _ _ rfl).lt k hk).2)).mono ?_
      rintro e w6 ⟨ay, cy, rfl, ho, hb⟩
      have HO6 : Hid (OwI w w6 [(.slice ai f.length ci, R), (.slice aa f.length ca, D), (.slice ax f.length cx, M), (.slice ab f.length cb, D2), (.slice ay f.length cy, M2)]) := HO5.out.add hb ho
      clear ho hb HO5
      go_wp2_with fail
      refine (HG1.out _ _ _ (HS.out.below HO6.out.bel) (HO6.out.sl 1 _ _ rfl).sb).mono ?_
      rintro e wx ⟨rfl, hwx⟩
      rw [hwx]
      clear hwx
      go_wp2_with fail
      refine (HG2.out _ _ _ (HS.out.below HO6.out.bel) (HO6.out.sl 2 _ _ rfl).sb).mono ?_
      rintro e wx ⟨rfl, hwx⟩
      rw [hwx]
      clear hwx
      go_wp2_with fail
      refine (HG3.out _ _ _ (HO6.out.sl 0 _ _ rfl).sb (HO6.out.sl 3 _ _ rfl).sb).mono ?_
      rintro e wx ⟨rfl, hwx⟩
      rw [hwx]
      clear hwx
      go_wp2_with fail
      refine (HG4.out _ _ _ (HO6.out.sl 0 _ _ rfl).sb (HO6.out.sl 4 _ _ rfl).sb).mono ?_
      rintro e wx ⟨rfl, hwx⟩
      rw [hwx]
      clear hwx
      go_wp2_with fail
      have HCC : Hid (∀ v, SI w6 v R → Calls Try.prog 6 #[v] w6 fun e w' => ∃ a c, e = .returned (.slice a f.length c) ∧ OI w' w6.heap.size (.slice a f.length c) R ∧ Below w6.heap.size w6 w') := fun v hv => by
        have h := copied_any v R _ hv (by have := HLR.out; omega)
        rw [HLR.out] at h
        exact h
      refine (HCC.out _ (HO6.out.sl 0 _ _ rfl).sb).mono ?_
      rintro e w7 ⟨qa, qc, rfl, ho, hb⟩
      have HO7 : Hid (OwI w w7 [(.slice ai f.length ci, R), (.slice aa f.length ca, D), (.slice ax f.length cx, M), (.slice ab f.length cb, D2), (.slice ay f.length cy, M2)]) := HO6.out.low hb
      have HC := hide ho
      clear ho hb HO6 HCC
      go_wp2_with fail
      refine (HDR.out _ _ HC.out.sb).mono ?_
      rintro e w8 ⟨ac, cc, rfl, ho, hb⟩
      have HO8 : Hid (OwI w w8 [(.slice ai f.length ci, R), (.slice aa f.length ca, D), (.slice ax f.length cx, M), (.slice ab f.length cb, D2), (.slice ay f.length cy, M2), (.slice ac f.length cc, D2)]) := HO7.out.add hb ho
      clear ho hb HO7 HC
      go_wp2_with fail
      have HCC : Hid (∀ v, SI w8 v R → Calls Try.prog 6 #[v] w8 fun e w' => ∃ a c, e = .returned (.slice a f.length c) ∧ OI w' w8.heap.size (.slice a f.length c) R ∧ Below w8.heap.size w8 w') := fun v hv => by
        have h := copied_any v R _ hv (by have := HLR.out; omega)
        rw [HLR.out] at h
        exact h
      refine (HCC.out _ (HO8.out.sl 0 _ _ rfl).sb).mono ?_
      rintro e w9 ⟨qa, qc, rfl, ho, hb⟩
      have HO9 : Hid (OwI w w9 [(.slice ai f.length ci, R), (.slice aa f.length ca, D), (.slice ax f.length cx, M), (.slice ab f.length cb, D2), (.slice ay f.length cy, M2), (.slice ac f.length cc, D2)]) := HO8.out.low hb
      have HC := hide ho
      clear ho hb HO8 HCC
      go_wp2_with fail
      refine (HLM.out _ _ HC.out.sb (fun k hk => (HC.out.lt k hk).2)).mono ?_
      rintro e w10 ⟨az, cz, rfl, ho, hb⟩
      have HO10 : Hid (OwI w w10 [(.slice ai f.length ci, R), (.slice aa f.length ca, D), (.slice ax f.length cx, M), (.slice ab f.length cb, D2), (.slice ay f.length cy, M2), (.slice ac f.length cc, D2), (.slice az f.length cz, M2)]) := HO9.out.add hb ho
      clear ho hb HO9 HC
      go_wp2_with fail
      refine (HK.out _ _ _ (HO10.out.sl 0 _ _ rfl).sb (HO10.out.sl 3 _ _ rfl).sb).mono ?_
      rintro e w11 ⟨rfl, nq, hd⟩
      have HO11 : Hid (OwI w w11 [(.slice ai f.length ci, R), (.slice aa f.length ca, D), (.slice ax f.length cx, M), (.slice ab f.length cb, D2), (.slice ay f.length cy, M2), (.slice ac f.length cc, D2), (.slice az f.length cz, M2)]) := by rw [hd]; exact HO10.out.low ⟨rfl, rfl, rfl, Nat.le_refl _, fun _ _ => rfl⟩
      clear hd HO10
      go_wp2_with fail
      have HCC : Hid (∀ v, SI w11 v R → Calls Try.prog 6 #[v] w11 fun e w' => ∃ a c, e = .returned (.slice a f.length c) ∧ OI w' w11.heap.size (.slice a f.length c) R ∧ Below w11.heap.size w11 w') := fun v hv => by
        have h := copied_any v R _ hv (by have := HLR.out; omega)
        rw [HLR.out] at h
        exact h
      refine (HCC.out _ (HO11.out.sl 0 _ _ rfl).sb).mono ?_
      rintro e w12 ⟨qa, qc, rfl, ho, hb⟩
      have HO12 : Hid (OwI w w12 [(.slice ai f.length ci, R), (.slice aa f.length ca, D), (.slice ax f.length cx, M), (.slice ab f.length cb, D2), (.slice ay f.length cy, M2), (.slice ac f.length cc, D2), (.slice az f.length cz, M2)]) := HO11.out.low hb
      have HC := hide ho
      clear ho hb HO11 HCC
      have HCR : Hid (OI w12 _ (.slice qa f.length qc) R) := HC.out
      clear HC
      obtain ⟨ra, hra⟩ : ∃ y, y = qa := ⟨_, rfl⟩
      obtain ⟨rc, hrc⟩ : ∃ y, y = qc := ⟨_, rfl⟩
      subst hra hrc
      go_wp2_with fail
      have HCC : Hid (∀ v, SI w12 v D2 → Calls Try.prog 6 #[v] w12 fun e w' => ∃ a c, e = .returned (.slice a f.length c) ∧ OI w' w12.heap.size (.slice a f.length c) D2 ∧ Below w12.heap.size w12 w') := fun v hv => by
        have h := copied_any v D2 _ hv (by have := HLD2.out; omega)
        rw [HLD2.out] at h
        exact h
      refine (HCC.out _ (HO12.out.sl 3 _ _ rfl).sb).mono ?_
      rintro e w13 ⟨qa, qc, rfl, ho, hb⟩
      have HO13 : Hid (OwI w w13 [(.slice ai f.length ci, R), (.slice aa f.length ca, D), (.slice ax f.length cx, M), (.slice ab f.length cb, D2), (.slice ay f.length cy, M2), (.slice ac f.length cc, D2), (.slice az f.length cz, M2)]) := HO12.out.low hb
      have HBC := hide hb
      have HC := hide ho
      clear ho hb HO12 HCC
      have HCR2 : Hid (SI w13 (.slice ra f.length rc) R) := HCR.out.sb.below HBC.out
      go_wp2_with fail
      refine (HK.out _ _ _ HCR2.out HC.out.sb).mono ?_
      rintro e w14 ⟨rfl, nq, hd⟩
      have HO14 : Hid (OwI w w14 [(.slice ai f.length ci, R), (.slice aa f.length ca, D), (.slice ax f.length cx, M), (.slice ab f.length cb, D2), (.slice ay f.length cy, M2), (.slice ac f.length cc, D2), (.slice az f.length cz, M2)]) := by rw [hd]; exact HO13.out.low ⟨rfl, rfl, rfl, Nat.le_refl _, fun _ _ => rfl⟩
      clear hd HO13 HC HCR HCR2 HBC
      go_wp2_with fail
      have HSM : Hid (Calls Try.prog 9 #[.slice ab f.length cb, .slice ac f.length cc] w14 fun e w' => e = .returned (.bool true) ∧ ∃ n, w' = World.drewN w14 n) := by
        have h := isame_any _ _ D2 D2 w14 (HO14.out.sl 3 _ _ rfl).sb (HO14.out.sl 5 _ _ rfl).sb
        rw [show eqI D2 D2 = true by simp [eqI]] at h
        exact h
      refine HSM.out.mono ?_
      rintro e w15 ⟨rfl, nq, hd⟩
      have HO15 : Hid (OwI w w15 [(.slice ai f.length ci, R), (.slice aa f.length ca, D), (.slice ax f.length cx, M), (.slice ab f.length cb, D2), (.slice ay f.length cy, M2), (.slice ac f.length cc, D2), (.slice az f.length cz, M2)]) := by rw [hd]; exact HO14.out.low ⟨rfl, rfl, rfl, Nat.le_refl _, fun _ _ => rfl⟩
      clear hd HSM HO14
      go_wp2_with fail
      have HSM : Hid (Calls Try.prog 9 #[.slice ay f.length cy, .slice az f.length cz] w15 fun e w' => e = .returned (.bool true) ∧ ∃ n, w' = World.drewN w15 n) := by
        have h := isame_any _ _ M2 M2 w15 (HO15.out.sl 4 _ _ rfl).sb (HO15.out.sl 6 _ _ rfl).sb
        rw [show eqI M2 M2 = true by simp [eqI]] at h
        exact h
      refine HSM.out.mono ?_
      rintro e w16 ⟨rfl, nq, hd⟩
      have HO16 : Hid (OwI w w16 [(.slice ai f.length ci, R), (.slice aa f.length ca, D), (.slice ax f.length cx, M), (.slice ab f.length cb, D2), (.slice ay f.length cy, M2), (.slice ac f.length cc, D2), (.slice az f.length cz, M2)]) := by rw [hd]; exact HO15.out.low ⟨rfl, rfl, rfl, Nat.le_refl _, fun _ _ => rfl⟩
      clear hd HSM HO15
      obtain ⟨gf, hgf⟩ : ∃ k, w16.heap.size = k := ⟨_, rfl⟩
      obtain ⟨x1, hx1⟩ : ∃ y, w16.alloc (.cells #[.int .i64 1, .int .i64 1, .int .i64 2] 3) = y := ⟨_, rfl⟩
      obtain ⟨gl, hgl⟩ : ∃ k, x1.heap.size = k := ⟨_, rfl⟩
      obtain ⟨x2, hx2⟩ : ∃ y, x1.alloc (.cells #[.int .i64 2, .int .i64 2, .int .i64 1] 3) = y := ⟨_, rfl⟩
      have e1 : x1.heap.size = w16.heap.size + 1 := by rw [← hx1]; exact size_alloc' _ _
      have hb2 : Below w16.heap.size w16 x2 := by rw [← hx2, ← hx1]; exact ((Below.refl _ _).alloc (Nat.le_refl _) _).alloc (by rw [size_alloc']; omega) _
      have of1 : OI x1 w16.heap.size (.slice (some ⟨gf, 0, none⟩) 3 3) [1, 1, 2] := by rw [← hx1, ← hgf]; exact lit3 _ 1 1 2
      have ol2 : OI x2 w16.heap.size (.slice (some ⟨gl, 0, none⟩) 3 3) [2, 2, 1] := by rw [← hx2, ← hgl]; exact (lit3 x1 2 2 1).base (by omega)
      have of2 : OI x2 w16.heap.size (.slice (some ⟨gf, 0, none⟩) 3 3) [1, 1, 2] := by rw [← hx2]; exact of1.alloc _
      have HN : Hid (gf ≠ gl) := by show _ ≠ _; omega
      have HX2 : Hid (Below w.heap.size w x2) := HO16.out.bel.trans (hb2.mono HO16.out.bel.size)
      have HBg : Hid (w.heap.size ≤ gf ∧ w.heap.size ≤ gl) := by have := HO16.out.bel.size; constructor <;> omega
      have HF2 := hide of2
      have HL2 := hide ol2
      clear e1 hb2 of1 ol2 of2
      go_wp2_with fail
      clear hgf hgl hx1 hx2
      refine (HK1.out _ _ _ HF2.out.sb HL2.out.sb).mono ?_
      rintro e x3 ⟨rfl, nq, hd⟩
      have bd : Below x2.heap.size x2 x3 := by rw [hd]; exact ⟨rfl, rfl, rfl, Nat.le_refl _, fun _ _ => rfl⟩
      have f3 := HF2.out.below bd (Nat.le_refl _)
      have l3 := HL2.out.below bd (Nat.le_refl _)
      have HX3 := hide (HX2.out.trans (bd.mono HX2.out.size))
      obtain ⟨d0, df⟩ := f3.cellAt (j := 0) (by decide)
      have f4 := f3.setAt (j := 0) 5
      obtain ⟨x4, hx4⟩ : ∃ y, x3.setCell ⟨gf, 0, none⟩ (.int .i64 5) = y := ⟨_, rfl⟩
      rw [hx4] at f4
      have l4 : OI x4 w16.heap.size (.slice (some ⟨gl, 0, none⟩) 3 3) [2, 2, 1] := by rw [← hx4]; exact l3.move fun b hb => setCell_others _ _ _ _ b (by simp [Value.ownBlock] at hb; have := HN.out; omega)
      have HX4 : Hid (Below w.heap.size w x4) := by rw [← hx4]; exact HX3.out.setCell (p := ⟨gf, 0, none⟩) HBg.out.1 _
      have HF4 : Hid (OI x4 w16.heap.size (.slice (some ⟨gf, 0, none⟩) 3 3) [5, 1, 2]) := f4
      have HL4 := hide l4
      clear hd bd f3 l3 f4 l4 HF2 HL2 HX2 HX3
      go_wp2_with fail
      clear hx4 d0 df
      refine (HK2.out _ _ _ HF4.out.sb HL4.out.sb).mono ?_
      rintro e x5 ⟨rfl, nq, hd⟩
      have bd : Below x4.heap.size x4 x5 := by rw [hd]; exact ⟨rfl, rfl, rfl, Nat.le_refl _, fun _ _ => rfl⟩
      have f5 := HF4.out.below bd (Nat.le_refl _)
      have l5 := HL4.out.below bd (Nat.le_refl _)
      have HX5 := hide (HX4.out.trans (bd.mono HX4.out.size))
      obtain ⟨d0, df⟩ := l5.cellAt (j := 2) (by decide)
      have l6 := l5.setAt (j := 2) 2
      obtain ⟨x6, hx6⟩ : ∃ y, x5.setCell ⟨gl, 2, none⟩ (.int .i64 2) = y := ⟨_, rfl⟩
      rw [hx6] at l6
      have f6 : OI x6 w16.heap.size (.slice (some ⟨gf, 0, none⟩) 3 3) [5, 1, 2] := by rw [← hx6]; exact f5.move fun b hb => setCell_others _ _ _ _ b (by simp [Value.ownBlock] at hb; have := HN.out; omega)
      have HX6 : Hid (Below w.heap.size w x6) := by rw [← hx6]; exact HX5.out.setCell (p := ⟨gl, 2, none⟩) HBg.out.2 _
      have HL6 : Hid (OI x6 w16.heap.size (.slice (some ⟨gl, 0, none⟩) 3 3) [2, 2, 2]) := l6
      have HF6 := hide f6
      clear hd bd f5 l5 f6 l6 HF4 HL4 HX4 HX5
      go_wp2_with fail
      clear hx6 d0 df
      refine (HK3.out _ _ _ HF6.out.sb HL6.out.sb).mono ?_
      rintro e x7 ⟨rfl, nq, hd⟩
      have HX7 : Hid (Below w.heap.size w x7) := by rw [hd]; exact HX6.out.trans (⟨rfl, rfl, rfl, Nat.le_refl _, fun _ _ => rfl⟩)
      clear hd
      go_wp2
      go_ret
      exact ⟨rfl, HX7.out⟩
end Go.Proofs.Ytdfggdafflkkcaa

