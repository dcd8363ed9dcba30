import Derived.Test.YtdfggdafflkkcaaGBwp
namespace Go.Proofs.Ytdfggdafflkkcaa
open Go.RowKit Go.Maps
set_option maxRecDepth 20000
set_option linter.unusedVariables false
set_option linter.unusedSimpArgs false

set_option maxHeartbeats 16000000 in
theorem own6_yes (f : List Int) (L : Nat) (hs : Sound f) (hL : 1 ≤ L ∧ L ≤ 15) (hu : (us f).length ≤ 2 ^ L) (v : Value) (w : World) (h : SI w v f) :
    Calls Try.prog 3 #[v, .int .i64 (L : Int)] w fun e w' => e = .returned (.bool true) ∧ Below w.heap.size w w' := by
  obtain ⟨ao, cap, rfl, hlc, hcm⟩ := h.open
  have HS := hide h
  have h288 : f.length ≤ 288 := hs.len
  obtain ⟨D, hD⟩ : ∃ D, D = dpt f := ⟨_, rfl⟩
  obtain ⟨M, hM⟩ : ∃ M, M = lmt f L := ⟨_, rfl⟩
  have HLD : Hid (D.length = f.length) := by show _ = _; rw [hD]; simp [dpt]
  have HLM : Hid (M.length = f.length) := by show _ = _; rw [hM]; simp [lmt]
  have HSO : Hid (∀ W v, SI W v f → Calls Try.prog 4 #[v] W fun e w' => e = .returned (.bool true) ∧ w' = W) := fun W v h => by
    have h2 := sound_any v f W h
    rw [show (decide (f.length ≤ 288) && bnb f 4294967296) = true by rw [bnb_iff.2 hs.ok]; simp [hs.len]] at h2
    exact h2
  obtain ⟨U, hU⟩ : ∃ U, U = (us f).length := ⟨_, rfl⟩
  have HUS : Hid (∀ W v, SI W v f → Calls Try.prog 5 #[v] W fun e w' => e = .returned (.int .i64 (U : Int)) ∧ w' = W) := fun W v h => by rw [hU]; exact uses_any v f W h hs.len
  obtain ⟨p2, hp2⟩ : ∃ p : Nat, p = 2 ^ L := ⟨_, rfl⟩
  have hUp : ¬ ((p2 : Nat) : Int) < (U : Int) := by rw [hU, hp2]; omega
  have hsh : ∀ W : World, (Op.shift BinOp.shl IntKind.i64 1 IntKind.u64 (L : Int)).run Try.prog W = .ok (.int .i64 (p2 : Int)) W := fun W => by rw [hp2]; exact shl_run L (by omega) W
  have hu1 : (L : Int) % 18446744073709551616 = (L : Int) := by omega
  have hpw : wrap64 ((2 : Int) ^ L) = (p2 : Int) := by
    have h3 := w64shl (m := L) (p := p2) (by omega) (by rw [hp2]; exact Nat.le_trans (Nat.pow_le_pow_right (by omega) hL.2) (by decide)) hp2
    rwa [Nat.min_eq_left (by omega)] at h3
  have hL1 : decide ((L : Int) < 1) = false := by simp; omega
  have hL2 : decide ((15 : Int) < (L : Int)) = false := by simp; omega
  have hL3 : decide ((p2 : Int) < (U : Int)) = false := decide_eq_false hUp
  have HDE : Hid (∀ W v, SI W v f → Calls Try.prog 7 #[v] W fun e w' => ∃ a c, e = .returned (.tuple #[.slice a f.length c, .int .i64 0]) ∧ OI w' W.heap.size (.slice a f.length c) D ∧ Below W.heap.size W w') := fun W v h => by rw [hD]; exact depths_ok hs v W h
  have HLI : Hid (∀ W v, SI W v f → (∀ k, v.ownBlock = some k → k < W.heap.size) → Calls Try.prog 8 #[v, .int .i64 (L : Int)] W fun e w' => ∃ a c, e = .returned (.tuple #[.slice a f.length c, .int .i64 0]) ∧ OI w' W.heap.size (.slice a f.length c) M ∧ Below W.heap.size W w') := fun W v h hk => by rw [hM]; exact limited_ok hs hL hu v W h hk
  obtain ⟨cV, hcV⟩ : ∃ c, c = cstV f M := ⟨_, rfl⟩
  have HK : Hid (∀ W v u, SI W v f → SI W u M → Calls Try.prog 10 #[v, u] W fun e w' => e = .returned (.tuple #[.int .i64 cV, .int .i64 0]) ∧ ∃ q, w' = W.drewN q) := fun W v u h1 h2 => by
    have h := cost_any v u f M W h1 h2
    rw [cst_gd hs (by rw [hM]; exact gd_lmt hs hL hu), ← hcV] at h
    exact h
  have HAS : Hid (∀ W v, SI W v f → Calls Try.prog 11 #[v, .int .i64 (L : Int)] W fun e w' => e = .returned (.bool true) ∧ Below W.heap.size W w') := fun W v h => asked6_walk f L hs hL hu v W h
  have HAG : Hid (∀ W v, SI W v f → Calls Try.prog 12 #[v, .int .i64 (L : Int)] W fun e w' => e = .returned (.bool true) ∧ Below W.heap.size W w') := fun W v h => again6_walk f L hs hL hu v W h
  obtain ⟨N7, hN7⟩ : ∃ l, l = List.replicate f.length (-7 : Int) := ⟨_, rfl⟩
  obtain ⟨N9, hN9⟩ : ∃ l, l = List.replicate f.length (-9 : Int) := ⟨_, rfl⟩
  have HE7 := hide hN7
  have HE9 := hide hN9
  have HL7 : Hid (N7.length = f.length) := by show _ = _; rw [hN7]; simp
  have HL9 : Hid (N9.length = f.length) := by show _ = _; rw [hN9]; simp
  have HV7 : Hid (∀ j, j ≤ f.length → (N7 ++ [-7]).getD j 0 = -7 ∧ (j < f.length → N7.getD j 0 = -7)) := by
    intro j hj
    have e : N7 ++ [-7] = List.replicate (f.length + 1) (-7 : Int) := by rw [hN7, List.replicate_succ']
    rw [e, hN7]
    exact ⟨by simp [List.getD, show j < f.length + 1 by omega], fun h => by simp [List.getD, h]⟩
  have HV9 : Hid (∀ j, j ≤ f.length → (N9 ++ [-9]).getD j 0 = -9 ∧ (j < f.length → N9.getD j 0 = -9)) := by
    intro j hj
    have e : N9 ++ [-9] = List.replicate (f.length + 1) (-9 : Int) := by rw [hN9, List.replicate_succ']
    rw [e, hN9]
    exact ⟨by simp [List.getD, show j < f.length + 1 by omega], fun h => by simp [List.getD, h]⟩
  have HO0 : Hid (OwI w w []) := OwI.start w
  clear hD hM hcV h hs hu hU hp2 hN7 hN9
  go_enter Try.func3, Try.ntmps3
  go_wp2_with fail
  refine (HSO.out _ _ HS.out).mono ?_
  rintro e wx ⟨rfl, hwx⟩
  rw [hwx]
  clear hwx
  go_wp2_with fail
  refine (HUS.out _ _ HS.out).mono ?_
  rintro e wx ⟨rfl, hwx⟩
  rw [hwx]
  clear hwx
  go_wp2_with fail
  have HCC : Hid (∀ v, SI w v f → Calls Try.prog 6 #[v] w fun e w' => ∃ a c, e = .returned (.slice a f.length c) ∧ OI w' w.heap.size (.slice a f.length c) f ∧ Below w.heap.size w w') := fun v hv => by
    have h := copied_any v f _ hv (by omega)
    exact h
  refine (HCC.out _ (HS.out.below HO0.out.bel)).mono ?_
  rintro e w1 ⟨ag, cg, rfl, ho, hb⟩
  have HO1 : Hid (OwI w w1 [(.slice ag f.length cg, f)]) := HO0.out.add hb ho
  clear ho hb HO0 HCC
  clear hsh hu1 hUp hL1 hL2 hL3 hpw
  go_wp2_with fail
  refine (HDE.out _ _ (HO1.out.sl 0 _ _ rfl).sb).mono ?_
  rintro e w2 ⟨ad, cd, rfl, ho, hb⟩
  have HO2 : Hid (OwI w w2 [(.slice ag f.length cg, f), (.slice ad f.length cd, D)]) := HO1.out.add hb ho
  clear ho hb HO1
  go_wp2_with fail
  refine (HLI.out _ _ (HO2.out.sl 0 _ _ rfl).sb (fun k hk => ((HO2.out.sl 0 _ _ rfl).lt k hk).2)).mono ?_
  rintro e w3 ⟨al, cl, rfl, ho, hb⟩
  have HO3 : Hid (OwI w w3 [(.slice ag f.length cg, f), (.slice ad f.length cd, D), (.slice al f.length cl, M)]) := HO2.out.add hb ho
  clear ho hb HO2
  have HSM : Hid (Calls Try.prog 9 #[.slice ag f.length cg, .slice ao f.length cap] w3 fun e w' => e = .returned (.bool true) ∧ ∃ n, w' = World.drewN w3 n) := by
    have h := isame_any _ _ f f w3 (HO3.out.sl 0 _ _ rfl).sb (HS.out.below HO3.out.bel)
    rw [show eqI f f = true by simp [eqI]] at h
    exact h
  go_wp2_with fail
  refine HSM.out.mono ?_
  rintro e w4 ⟨rfl, nq, hd⟩
  have HO4 : Hid (OwI w w4 [(.slice ag f.length cg, f), (.slice ad f.length cd, D), (.slice al f.length cl, M)]) := by rw [hd]; exact HO3.out.low ⟨rfl, rfl, rfl, Nat.le_refl _, fun _ _ => rfl⟩
  clear hd HSM HO3
  go_wp2_with fail
  have HCC : Hid (∀ v, SI w4 v D → Calls Try.prog 6 #[v] w4 fun e w' => ∃ a c, e = .returned (.slice a f.length c) ∧ OI w' w4.heap.size (.slice a f.length c) D ∧ Below w4.heap.size w4 w') := fun v hv => by
    have h := copied_any v D _ hv (by have := HLD.out; omega)
    rw [HLD.out] at h
    exact h
  refine (HCC.out _ (HO4.out.sl 1 _ _ rfl).sb).mono ?_
  rintro e w5 ⟨ax, cx, rfl, ho, hb⟩
  have HO5 : Hid (OwI w w5 [(.slice ag f.length cg, f), (.slice ad f.length cd, D), (.slice al f.length cl, M), (.slice ax f.length cx, D)]) := HO4.out.add hb ho
  clear ho hb HO4 HCC
  go_wp2_with fail
  have HCC : Hid (∀ v, SI w5 v M → Calls Try.prog 6 #[v] w5 fun e w' => ∃ a c, e = .returned (.slice a f.length c) ∧ OI w' w5.heap.size (.slice a f.length c) M ∧ Below w5.heap.size w5 w') := fun v hv => by
    have h := copied_any v M _ hv (by have := HLM.out; omega)
    rw [HLM.out] at h
    exact h
  refine (HCC.out _ (HO5.out.sl 2 _ _ rfl).sb).mono ?_
  rintro e w6 ⟨ay, cy, rfl, ho, hb⟩
  have HO6 : Hid (OwI w w6 [(.slice ag f.length cg, f), (.slice ad f.length cd, D), (.slice al f.length cl, M), (.slice ax f.length cx, D), (.slice ay f.length cy, M)]) := HO5.out.add hb ho
  clear ho hb HO5 HCC
  go_wp2_with fail
  refine (HK.out _ _ _ (HO6.out.sl 0 _ _ rfl).sb (HO6.out.sl 2 _ _ rfl).sb).mono ?_
  rintro e w7 ⟨rfl, nq, hd⟩
  have HO7 : Hid (OwI w w7 [(.slice ag f.length cg, f), (.slice ad f.length cd, D), (.slice al f.length cl, M), (.slice ax f.length cx, D), (.slice ay f.length cy, M)]) := by rw [hd]; exact HO6.out.low ⟨rfl, rfl, rfl, Nat.le_refl _, fun _ _ => rfl⟩
  clear hd HO6
  have HSM : Hid (Calls Try.prog 9 #[.slice ag f.length cg, .slice ao f.length cap] w7 fun e w' => e = .returned (.bool true) ∧ ∃ n, w' = World.drewN w7 n) := by
    have h := isame_any _ _ f f w7 (HO7.out.sl 0 _ _ rfl).sb (HS.out.below HO7.out.bel)
    rw [show eqI f f = true by simp [eqI]] at h
    exact h
  go_wp2_with fail
  refine HSM.out.mono ?_
  rintro e w8 ⟨rfl, nq, hd⟩
  have HO8 : Hid (OwI w w8 [(.slice ag f.length cg, f), (.slice ad f.length cd, D), (.slice al f.length cl, M), (.slice ax f.length cx, D), (.slice ay f.length cy, M)]) := by rw [hd]; exact HO7.out.low ⟨rfl, rfl, rfl, Nat.le_refl _, fun _ _ => rfl⟩
  clear hd HSM HO7
  have HSM : Hid (Calls Try.prog 9 #[.slice al f.length cl, .slice ay f.length cy] w8 fun e w' => e = .returned (.bool true) ∧ ∃ n, w' = World.drewN w8 n) := by
    have h := isame_any _ _ M M w8 (HO8.out.sl 2 _ _ rfl).sb (HO8.out.sl 4 _ _ rfl).sb
    rw [show eqI M M = true by simp [eqI]] at h
    exact h
  go_wp2_with fail
  refine HSM.out.mono ?_
  rintro e w9 ⟨rfl, nq, hd⟩
  have HO9 : Hid (OwI w w9 [(.slice ag f.length cg, f), (.slice ad f.length cd, D), (.slice al f.length cl, M), (.slice ax f.length cx, D), (.slice ay f.length cy, M)]) := by rw [hd]; exact HO8.out.low ⟨rfl, rfl, rfl, Nat.le_refl _, fun _ _ => rfl⟩
  clear hd HSM HO8
  go_wp2_with fail
  go_loopw [14] (fun i wq => ∃ k : Nat, i = .int .i64 (k : Int) ∧ k ≤ f.length ∧ Hid (OwI w wq [(.slice ag f.length cg, f), (.slice ad f.length cd, List.replicate k (-7) ++ D.drop k), (.slice al f.length cl, List.replicate k (-9) ++ M.drop k), (.slice ax f.length cx, D), (.slice ay f.length cy, M)])) (fun i _ => f.length - (intOf i).toNat)
  case atStart => exact ⟨0, rfl, Nat.zero_le _, by show OwI _ _ _; simpa only [List.replicate_zero, List.drop_zero, List.nil_append] using HO9.out⟩
  case round =>
    obtain ⟨w10, hwn⟩ : ∃ y, y = wr := ⟨_, rfl⟩
    subst hwn
    clear HO9
    obtain ⟨k, rfl, hk, HQ⟩ := hrel
    by_cases hlt : k < f.length
    case pos =>
      have hlt' : (k : Int) < (f.length : Int) := by omega
      obtain ⟨g7, hg7, hs7, ⟨u7, c7⟩, f7⟩ := OwI.mark (i := 1) HQ.out rfl HLD.out hlt
      obtain ⟨wz, hwz⟩ : ∃ y, w10.setCell ⟨g7, k, none⟩ (.int .i64 (-7)) = y := ⟨_, rfl⟩
      rw [hwz] at hs7
      obtain ⟨g9, hg9, hs9, ⟨u9, c9⟩, f9⟩ := OwI.mark (i := 2) hs7 rfl HLM.out hlt
      subst hg7 hg9
      have HQ2 := hide hs9
      clear hs7 hs9 HQ
      go_wp2_with fail
      go_roundw
      case rel => exact ⟨k + 1, by go_num, by omega, HQ2.out⟩
      case measure => simp [intOf]; omega
    case neg =>
      have hlt' : ¬ (k : Int) < (f.length : Int) := by omega
      have HO10 : Hid (OwI w w10 [(.slice ag f.length cg, f), (.slice ad f.length cd, N7), (.slice al f.length cl, N9), (.slice ax f.length cx, D), (.slice ay f.length cy, M)]) := by
        have h := HQ.out
        have e1 : D.drop k = [] := List.drop_eq_nil_of_le (by have := HLD.out; omega)
        have e2 : M.drop k = [] := List.drop_eq_nil_of_le (by have := HLM.out; omega)
        rw [e1, e2, List.append_nil, List.append_nil, show k = f.length by omega, ← HE7.out, ← HE9.out] at h
        exact h
      clear HQ
      have HBS : Hid (w.heap.size ≤ w10.heap.size + 1) := by show _ ≤ _; have := HO10.out.bel.size; omega
      have HNN : Hid (N7.length + [(-7 : Int)].length ≤ 17592186044416) := by show _ ≤ _; rw [HL7.out]; simp; omega
      go_wp2_with (at_builtin; refine wpList_appK rfl _ _ 22 rfl w.heap.size _ _ N7 [-7] rfl ((HO10.out.sl 1 _ _ rfl).alloc _) rfl (built_srcI w10 [-7]) HNN.out (by rw [size_alloc']; exact HBS.out) ?_)
      intro vM w11 hown hgrew hkeep
      obtain ⟨hO, hgb, hpl⟩ := OwI.app (i := 1) HO10.out rfl hgrew hkeep
      have HO11 : Hid (OwI w w11 [(.slice ag f.length cg, f), (.slice ad f.length cd, N7), (.slice al f.length cl, N9), (.slice ax f.length cx, D), (.slice ay f.length cy, M)]) := hO
      obtain ⟨aM, cM, hv⟩ := hown.shape
      have e9 : (N7 ++ [-7]).length = f.length + 1 := by rw [List.length_append, HL7.out]; rfl
      rw [e9] at hv
      subst hv
      have HM11 := hide hown.sb
      have HPM : Hid (∀ b, (Value.slice aM (f.length + 1) cM).ownBlock = some b → (Value.slice al f.length cl).ownBlock ≠ some b) := fun b hb => hpl 2 _ _ rfl (by decide) b hb
      have HMl := hide hown
      clear hown hgrew hkeep hO hgb hpl e9 HBS HNN HO10
      have HBS : Hid (w.heap.size ≤ w11.heap.size + 1) := by show _ ≤ _; have := HO11.out.bel.size; omega
      have HNN : Hid (N9.length + [(-9 : Int)].length ≤ 17592186044416) := by show _ ≤ _; rw [HL9.out]; simp; omega
      go_wp2_with (at_builtin; refine wpList_appK rfl _ _ 22 rfl w.heap.size _ _ N9 [-9] rfl ((HO11.out.sl 2 _ _ rfl).alloc _) rfl (built_srcI w11 [-9]) HNN.out (by rw [size_alloc']; exact HBS.out) ?_)
      intro vT w12 hown hgrew hkeep
      obtain ⟨hO, hgb, hpl⟩ := OwI.app (i := 2) HO11.out rfl hgrew hkeep
      have HO12 : Hid (OwI w w12 [(.slice ag f.length cg, f), (.slice ad f.length cd, N7), (.slice al f.length cl, N9), (.slice ax f.length cx, D), (.slice ay f.length cy, M)]) := hO
      obtain ⟨aT, cT, hv⟩ := hown.shape
      have e9 : (N9 ++ [-9]).length = f.length + 1 := by rw [List.length_append, HL9.out]; rfl
      rw [e9] at hv
      subst hv
      have HT12 := hide hown.sb
      have HPT : Hid (∀ b, (Value.slice aT (f.length + 1) cT).ownBlock = some b → (Value.slice ad f.length cd).ownBlock ≠ some b) := fun b hb => hpl 1 _ _ rfl (by decide) b hb
      have HTl := hide hown
      have HM12 : Hid (SI w12 (.slice aM (f.length + 1) cM) (N7 ++ [-7])) := (HMl.out.move fun b hb => hgb.block b (HMl.out.lt b hb).2 (fun e2 => HPM.out b hb e2.symm)).sb
      clear hown hgrew hkeep hO hgb hpl e9 HBS HNN HO11 HM11 HMl HTl HPM HPT
      have HSM : Hid (Calls Try.prog 9 #[.slice ag f.length cg, .slice ao f.length cap] w12 fun e w' => e = .returned (.bool true) ∧ ∃ n, w' = World.drewN w12 n) := by
        have h := isame_any _ _ f f w12 (HO12.out.sl 0 _ _ rfl).sb (HS.out.below HO12.out.bel)
        rw [show eqI f f = true by simp [eqI]] at h
        exact h
      go_wp2_with fail
      refine HSM.out.mono ?_
      rintro e w13 ⟨rfl, nq, hd⟩
      have HO13 : Hid (OwI w w13 [(.slice ag f.length cg, f), (.slice ad f.length cd, N7), (.slice al f.length cl, N9), (.slice ax f.length cx, D), (.slice ay f.length cy, M)]) := by rw [hd]; exact HO12.out.low ⟨rfl, rfl, rfl, Nat.le_refl _, fun _ _ => rfl⟩
      have HM13 : Hid (SI w13 (.slice aM (f.length + 1) cM) (N7 ++ [-7])) := HM12.out.below (by rw [hd]; exact ⟨rfl, rfl, rfl, Nat.le_refl _, fun _ _ => rfl⟩)
      have HT13 : Hid (SI w13 (.slice aT (f.length + 1) cT) (N9 ++ [-9])) := HT12.out.below (by rw [hd]; exact ⟨rfl, rfl, rfl, Nat.le_refl _, fun _ _ => rfl⟩)
      clear HM12 HT12
      clear hd HSM HO12
      go_wp2_with fail
      refine (HDE.out _ _ (HO13.out.sl 0 _ _ rfl).sb).mono ?_
      rintro e w14 ⟨ac, cc, rfl, ho, hb⟩
      have HO14 : Hid (OwI w w14 [(.slice ag f.length cg, f), (.slice ad f.length cd, N7), (.slice al f.length cl, N9), (.slice ax f.length cx, D), (.slice ay f.length cy, M), (.slice ac f.length cc, D)]) := HO13.out.add hb ho
      have HM14 : Hid (SI w14 (.slice aM (f.length + 1) cM) (N7 ++ [-7])) := HM13.out.below hb
      have HT14 : Hid (SI w14 (.slice aT (f.length + 1) cT) (N9 ++ [-9])) := HT13.out.below hb
      clear HM13 HT13
      clear ho hb HO13
      go_wp2_with fail
      refine (HLI.out _ _ (HO14.out.sl 0 _ _ rfl).sb (fun k hk => ((HO14.out.sl 0 _ _ rfl).lt k hk).2)).mono ?_
      rintro e w15 ⟨ak, ck, rfl, ho, hb⟩
      have HO15 : Hid (OwI w w15 [(.slice ag f.length cg, f), (.slice ad f.length cd, N7), (.slice al f.length cl, N9), (.slice ax f.length cx, D), (.slice ay f.length cy, M), (.slice ac f.length cc, D), (.slice ak f.length ck, M)]) := HO14.out.add hb ho
      have HM15 : Hid (SI w15 (.slice aM (f.length + 1) cM) (N7 ++ [-7])) := HM14.out.below hb
      have HT15 : Hid (SI w15 (.slice aT (f.length + 1) cT) (N9 ++ [-9])) := HT14.out.below hb
      clear HM14 HT14
      clear ho hb HO14
      go_wp2_with fail
      have HCC : Hid (∀ v, SI w15 v f → Calls Try.prog 6 #[v] w15 fun e w' => ∃ a c, e = .returned (.slice a f.length c) ∧ OI w' w15.heap.size (.slice a f.length c) f ∧ Below w15.heap.size w15 w') := fun v hv => by
        have h := copied_any v f _ hv (by omega)
        exact h
      refine (HCC.out _ (HS.out.below HO15.out.bel)).mono ?_
      rintro e w16 ⟨aq, cq, rfl, ho, hb⟩
      have HO16 : Hid (OwI w w16 [(.slice ag f.length cg, f), (.slice ad f.length cd, N7), (.slice al f.length cl, N9), (.slice ax f.length cx, D), (.slice ay f.length cy, M), (.slice ac f.length cc, D), (.slice ak f.length ck, M)]) := HO15.out.low hb
      have HC := hide ho
      have HM16 : Hid (SI w16 (.slice aM (f.length + 1) cM) (N7 ++ [-7])) := HM15.out.below hb
      have HT16 : Hid (SI w16 (.slice aT (f.length + 1) cT) (N9 ++ [-9])) := HT15.out.below hb
      clear HM15 HT15
      clear ho hb HO15 HCC
      go_wp2_with fail
      refine (HK.out _ _ _ HC.out.sb (HO16.out.sl 4 _ _ rfl).sb).mono ?_
      rintro e w17 ⟨rfl, nq, hd⟩
      have HO17 : Hid (OwI w w17 [(.slice ag f.length cg, f), (.slice ad f.length cd, N7), (.slice al f.length cl, N9), (.slice ax f.length cx, D), (.slice ay f.length cy, M), (.slice ac f.length cc, D), (.slice ak f.length ck, M)]) := by rw [hd]; exact HO16.out.low ⟨rfl, rfl, rfl, Nat.le_refl _, fun _ _ => rfl⟩
      have HM17 : Hid (SI w17 (.slice aM (f.length + 1) cM) (N7 ++ [-7])) := HM16.out.below (by rw [hd]; exact ⟨rfl, rfl, rfl, Nat.le_refl _, fun _ _ => rfl⟩)
      have HT17 : Hid (SI w17 (.slice aT (f.length + 1) cT) (N9 ++ [-9])) := HT16.out.below (by rw [hd]; exact ⟨rfl, rfl, rfl, Nat.le_refl _, fun _ _ => rfl⟩)
      clear HM16 HT16
      clear hd HO16
      clear HC
      have HSM : Hid (Calls Try.prog 9 #[.slice ac f.length cc, .slice ax f.length cx] w17 fun e w' => e = .returned (.bool true) ∧ ∃ n, w' = World.drewN w17 n) := by
        have h := isame_any _ _ D D w17 (HO17.out.sl 5 _ _ rfl).sb (HO17.out.sl 3 _ _ rfl).sb
        rw [show eqI D D = true by simp [eqI]] at h
        exact h
      go_wp2_with fail
      refine HSM.out.mono ?_
      rintro e w18 ⟨rfl, nq, hd⟩
      have HO18 : Hid (OwI w w18 [(.slice ag f.length cg, f), (.slice ad f.length cd, N7), (.slice al f.length cl, N9), (.slice ax f.length cx, D), (.slice ay f.length cy, M), (.slice ac f.length cc, D), (.slice ak f.length ck, M)]) := by rw [hd]; exact HO17.out.low ⟨rfl, rfl, rfl, Nat.le_refl _, fun _ _ => rfl⟩
      have HM18 : Hid (SI w18 (.slice aM (f.length + 1) cM) (N7 ++ [-7])) := HM17.out.below (by rw [hd]; exact ⟨rfl, rfl, rfl, Nat.le_refl _, fun _ _ => rfl⟩)
      have HT18 : Hid (SI w18 (.slice aT (f.length + 1) cT) (N9 ++ [-9])) := HT17.out.below (by rw [hd]; exact ⟨rfl, rfl, rfl, Nat.le_refl _, fun _ _ => rfl⟩)
      clear HM17 HT17
      clear hd HSM HO17
      have HSM : Hid (Calls Try.prog 9 #[.slice ak f.length ck, .slice ay f.length cy] w18 fun e w' => e = .returned (.bool true) ∧ ∃ n, w' = World.drewN w18 n) := by
        have h := isame_any _ _ M M w18 (HO18.out.sl 6 _ _ rfl).sb (HO18.out.sl 4 _ _ rfl).sb
        rw [show eqI M M = true by simp [eqI]] at h
        exact h
      go_wp2_with fail
      refine HSM.out.mono ?_
      rintro e w19 ⟨rfl, nq, hd⟩
      have HO19 : Hid (OwI w w19 [(.slice ag f.length cg, f), (.slice ad f.length cd, N7), (.slice al f.length cl, N9), (.slice ax f.length cx, D), (.slice ay f.length cy, M), (.slice ac f.length cc, D), (.slice ak f.length ck, M)]) := by rw [hd]; exact HO18.out.low ⟨rfl, rfl, rfl, Nat.le_refl _, fun _ _ => rfl⟩
      have HM19 : Hid (SI w19 (.slice aM (f.length + 1) cM) (N7 ++ [-7])) := HM18.out.below (by rw [hd]; exact ⟨rfl, rfl, rfl, Nat.le_refl _, fun _ _ => rfl⟩)
      have HT19 : Hid (SI w19 (.slice aT (f.length + 1) cT) (N9 ++ [-9])) := HT18.out.below (by rw [hd]; exact ⟨rfl, rfl, rfl, Nat.le_refl _, fun _ _ => rfl⟩)
      clear HM18 HT18
      clear hd HSM HO18
      have HSM : Hid (Calls Try.prog 9 #[.slice ag f.length cg, .slice ao f.length cap] w19 fun e w' => e = .returned (.bool true) ∧ ∃ n, w' = World.drewN w19 n) := by
        have h := isame_any _ _ f f w19 (HO19.out.sl 0 _ _ rfl).sb (HS.out.below HO19.out.bel)
        rw [show eqI f f = true by simp [eqI]] at h
        exact h
      go_wp2_with fail
      refine HSM.out.mono ?_
      rintro e w20 ⟨rfl, nq, hd⟩
      have HO20 : Hid (OwI w w20 [(.slice ag f.length cg, f), (.slice ad f.length cd, N7), (.slice al f.length cl, N9), (.slice ax f.length cx, D), (.slice ay f.length cy, M), (.slice ac f.length cc, D), (.slice ak f.length ck, M)]) := by rw [hd]; exact HO19.out.low ⟨rfl, rfl, rfl, Nat.le_refl _, fun _ _ => rfl⟩
      have HM20 : Hid (SI w20 (.slice aM (f.length + 1) cM) (N7 ++ [-7])) := HM19.out.below (by rw [hd]; exact ⟨rfl, rfl, rfl, Nat.le_refl _, fun _ _ => rfl⟩)
      have HT20 : Hid (SI w20 (.slice aT (f.length + 1) cT) (N9 ++ [-9])) := HT19.out.below (by rw [hd]; exact ⟨rfl, rfl, rfl, Nat.le_refl _, fun _ _ => rfl⟩)
      clear HM19 HT19
      clear hd HSM HO19
      go_wp2_with fail
      go_loopw [21] (fun i wq => ∃ k : Nat, i = .int .i64 (k : Int) ∧ k ≤ f.length ∧ Hid (OwI w wq [(.slice ag f.length cg, f), (.slice ad f.length cd, N7), (.slice al f.length cl, N9), (.slice ax f.length cx, D), (.slice ay f.length cy, M), (.slice ac f.length cc, D), (.slice ak f.length ck, M)] ∧ SI wq (.slice aM (f.length + 1) cM) (N7 ++ [-7]) ∧ SI wq (.slice aT (f.length + 1) cT) (N9 ++ [-9]))) (fun i _ => f.length - (intOf i).toNat)
      case atStart => exact ⟨0, rfl, Nat.zero_le _, ⟨HO20.out, HM20.out, HT20.out⟩⟩
      case round =>
        obtain ⟨w21, hwn⟩ : ∃ y, y = wr := ⟨_, rfl⟩
        subst hwn
        clear HO20 HM20 HT20
        obtain ⟨j, rfl, hj, HQ⟩ := hrel
        have em : (N7 ++ [-7]).length = f.length + 1 := by rw [List.length_append, HL7.out]; rfl
        have et : (N9 ++ [-9]).length = f.length + 1 := by rw [List.length_append, HL9.out]; rfl
        have hqm := HQ.out.2.1
        have hqt := HQ.out.2.2
        rw [← em] at hqm
        rw [← et] at hqt
        by_cases hlt2 : j < f.length
        case pos =>
          have hlt2' : (j : Int) < (f.length : Int) := by omega
          have hlt3 : (j : Int) < (f.length : Int) + 1 := by omega
          obtain ⟨bm, om, hbm, cm1⟩ := hqm.get (Below.refl _ _) (k := j) (by omega)
          obtain ⟨bt, ot, hbt, ct1⟩ := hqt.get (Below.refl _ _) (k := j) (by omega)
          rw [(HV7.out j (by omega)).1] at cm1
          rw [(HV9.out j (by omega)).1] at ct1
          have hd1 := (HQ.out.1.sl 1 _ _ rfl).sb
          have hd2 := (HQ.out.1.sl 2 _ _ rfl).sb
          rw [← HL7.out] at hd1
          rw [← HL9.out] at hd2
          obtain ⟨bd, od, hbd, cd1⟩ := hd1.get (Below.refl _ _) (k := j) (by rw [HL7.out]; omega)
          obtain ⟨bl, ol, hbl, cl1⟩ := hd2.get (Below.refl _ _) (k := j) (by rw [HL9.out]; omega)
          rw [(HV7.out j (by omega)).2 hlt2] at cd1
          rw [(HV9.out j (by omega)).2 hlt2] at cl1
          subst hbm hbt hbd hbl
          clear hqm hqt hd1 hd2 em et
          go_wp2_with fail
          go_roundw
          case rel => exact ⟨j + 1, by go_num, by omega, HQ.out⟩
          case measure => simp [intOf]; omega
        case neg =>
          have hlt2' : ¬ (j : Int) < (f.length : Int) := by omega
          have hlt3 : (f.length : Int) < (f.length : Int) + 1 := by omega
          obtain ⟨bm, om, hbm, cm1⟩ := hqm.get (Below.refl _ _) (k := f.length) (by omega)
          obtain ⟨bt, ot, hbt, ct1⟩ := hqt.get (Below.refl _ _) (k := f.length) (by omega)
          rw [(HV7.out f.length (by omega)).1] at cm1
          rw [(HV9.out f.length (by omega)).1] at ct1
          subst hbm hbt
          have HB := hide HQ.out.1.bel
          clear hqm hqt em et HQ
          go_wp2_with fail
          refine (HAS.out _ _ (HS.out.below HB.out)).mono ?_
          rintro e wy ⟨rfl, hb⟩
          have HB2 := hide (HB.out.trans (hb.mono HB.out.size))
          clear hb cm1 ct1
          go_wp2_with fail
          refine (HAG.out _ _ (HS.out.below HB2.out)).mono ?_
          rintro e wE ⟨rfl, hb⟩
          have HB3 := hide (HB2.out.trans (hb.mono HB2.out.size))
          clear hb
          go_wp2
          go_ret
          exact ⟨rfl, HB3.out⟩
end Go.Proofs.Ytdfggdafflkkcaa

