import Derived.Test.YtmjdpfigkojolaaGreatDoorG28Vac
import Derived.BigQuiet
import Derived.Deep.DeepCutAuto
import Derived.Deep.RegionWith
namespace Go.Proofs.YtmjdpfigkojolaaGreatDoor
open Go.RowKit Go.Maps
set_option maxRecDepth 20000
set_option linter.unusedVariables false

def Cx (ys : List ((Nat → Nat) × Thing)) (p : Option Addr) (l : List Int) : Prop :=
  (p = none ∧ dcE l ≠ 0) ∨ ∃ (gl i : Nat) (K : Nat → Nat), dcE l = 0 ∧ p = some ⟨gl, 0, none⟩ ∧ ys[i]? = some (K, tdx gl l)

noncomputable def cpR (s : Nat) (d row : List Int) (L p : Nat) (out : List Int) : Int × Nat × List Int :=
  if lgE s row p ≠ 0 then (lgE s row p, p, out)
  else if dtE d row (lgP s p) ≠ 0 then (dtE d row (lgP s p), p, out)
  else if agE L out (lgV s row p) (dtV d row (lgP s p)) ≠ 0 then (agE L out (lgV s row p) (dtV d row (lgP s p)), p, out)
  else (0, dtP d row (lgP s p), cpy (dtV d row (lgP s p)) (lgV s row p) out)

theorem cpy_snoc (d : Nat) : ∀ (n : Nat) (out : List Int), cpy d (n + 1) out = cpy d n out ++ [(cpy d n out).getD ((cpy d n out).length - d) 0]
  | 0, out => rfl
  | n + 1, out => by
    show cpy d (n + 1) (out ++ [out.getD (out.length - d) 0]) = cpy d n (out ++ [out.getD (out.length - d) 0]) ++ _
    rw [cpy_snoc d n]
    rfl

set_option maxHeartbeats 8000000 in
theorem vcopied {W w : World} {g r : Nat} {row : List Int} {p L : Nat} {out : List Int} {wh : List (Array Value)} {us : Int} {dn : Bool} {er : Int} {ys : List ((Nat → Nat) × Thing)} (h : SX W w g r row p L out wh us dn er ys) (s : Nat) (h0 : 257 ≤ s) (h1 : s ≤ 287) {pd : Option Addr} {d : List Int} (hc : Cx ys pd d) (hdl : d.length ≤ 32) :
    Calls Tryz.prog 98 #[.pointer (some ⟨g, 0, none⟩), .int .i64 s, .pointer pd] w fun e w' => ∃ E q o, cpR s d row L p out = (E, q, o) ∧ e = .returned (.int .i64 E) ∧ ((E = 0 ∧ SX W w' g r row q L o wh us dn er ys) ∨ (E ≠ 0 ∧ ∃ q', SX W w' g r row q' L out wh us dn er ys)) := by
  have HX0 := hide h
  have HBT := hide h.rd.1
  have HC := hide hc
  obtain ⟨a, c, aw, cw, hst, hob, hoL, hL⟩ := h.cells
  obtain ⟨c0, -, -, -, -, -, -, -⟩ := stO_cells hst
  clear h hc hst hob
  go_enter Tryz.func98, Tryz.ntmps98
  by_cases hs : s ≤ 285
  case neg =>
    have hs1 : (285 : Int) < (s : Int) := by omega
    have HR : Hid (cpR s d row L p out = (83, p, out)) := by
      show _ = _
      have e : lgE s row p = 83 := by unfold lgE; rw [if_pos (by omega)]
      unfold cpR; rw [if_pos (by rw [e]; decide), e]
    go_wp2
    go_ret
    exact ⟨83, p, out, HR.out, rfl, .inr ⟨by decide, p, HX0.out⟩⟩
  have hs1 : ¬ ((285 : Int) < (s : Int)) := by omega
  obtain ⟨F, HF⟩ : ∃ F : Nat, Hid (F = lnF s) := ⟨_, rfl⟩
  have hF5 : F ≤ 5 := by rw [HF.out]; exact lnFle hs
  have HLB : Hid (Calls Tryz.prog 119 #[.int .i64 s] w.drew fun e w' => e = .returned (.int .i64 (F : Nat)) ∧ w' = w.drew) := by rw [HF.out]; exact vlenBits_any s h0 hs w.drew
  have HTK : Hid (Calls Tryz.prog 72 #[.pointer (some ⟨r, 0, none⟩), .int .i64 (F : Nat)] w.drew fun e w' => e = .returned (.tuple #[.int .u32 (takeV row p F), .int .i64 (takeE row p F)]) ∧ SX W w' g r row (takeP row p F) L out wh us dn er ys) := vtakeU (HX0.out.below ((Below.refl _ _).drew)) F (by omega)
  obtain ⟨V, HV⟩ : ∃ V, Hid (V = takeV row p F) := ⟨_, rfl⟩
  obtain ⟨E, HE⟩ : ∃ E, Hid (E = takeE row p F) := ⟨_, rfl⟩
  obtain ⟨P, HP⟩ : ∃ P, Hid (P = takeP row p F) := ⟨_, rfl⟩
  rw [← HV.out, ← HE.out, ← HP.out] at HTK
  have HTO := hide (take_ok8 (row := row) (p := p) (n := F) (by omega))
  rw [← HV.out, ← HE.out, ← HP.out] at HTO
  have c0d : w.drew.cell? ⟨g, 0, none⟩ = some (.pointer (some ⟨r, 0, none⟩)) := c0
  go_wp2
  go_cut [7, 8] (fun s7 s8 wx => s7 = .int .u32 V ∧ s8 = .int .i64 E ∧ Hid (SX W wx g r row P L out wh us dn er ys))
  case first =>
    go_region_with (first | (go_at_call 119; (with_reducible refine HLB.out.mono ?_); rintro e w2 ⟨rfl, hw2⟩; rw [hw2]; clear hw2) | (go_at_call 72; (with_reducible refine HTK.out.mono ?_); rintro e w3 ⟨rfl, h3⟩; have HX3 := hide h3; clear h3))
    all_goals
      go_wp2_with fail
      go_meet
      exact ⟨rfl, rfl, HX3⟩
  case rest =>
  obtain ⟨rfl, rfl, HX3⟩ := hcut
  clear HTK HLB c0 c0d
  by_cases hp : p + F ≤ row.length
  case neg =>
    have hne := HTO.out.2 (by omega)
    have hne' : (E != 0) = true := by simpa using hne
    have HR : Hid (cpR s d row L p out = (80, p, out)) := by
      show _ = _
      have e : lgE s row p = 80 := by unfold lgE; rw [if_neg (by omega), ← HF.out, if_pos (by omega)]
      unfold cpR; rw [if_pos (by rw [e]; decide), e]
    clear hne
    go_wp2
    go_ret
    exact ⟨80, p, out, HR.out, rfl, .inr ⟨by decide, P, HX3.out⟩⟩
  obtain ⟨e1, e2, e3⟩ := HTO.out.1 hp
  subst e1
  rw [e3] at HX3
  have HE2 := hide e2
  have hv0 : 0 ≤ V := by rw [e2]; exact (ahead_bound HBT.out p F).1
  have hv1 : V < 32 := by rw [e2]; exact ahead_le HBT.out p (m := 5) hF5
  obtain ⟨B, HB⟩ : ∃ B : Nat, Hid (B = lnB s) := ⟨_, rfl⟩
  have hB : B ≤ 258 := by rw [HB.out]; exact lnBle ⟨s, by omega⟩
  have HLS : Hid (Calls Tryz.prog 120 #[.int .i64 s] wc fun e w' => e = .returned (.int .i64 (B : Nat)) ∧ w' = wc) := by rw [HB.out]; exact vlenBase_any s h0 hs wc
  have HLG : Hid (lgE s row p = 0) := by show _ = _; unfold lgE; rw [if_neg (by omega), if_neg (by rw [← HF.out]; omega)]
  obtain ⟨M, HM⟩ : ∃ M : Nat, Hid (M = lgV s row p) := ⟨_, rfl⟩
  have hBV : (B : Int) + V = (M : Int) := by rw [HM.out]; unfold lgV; rw [← HB.out, ← HF.out, ← e2]; omega
  have hM : M ≤ 1000 := by rw [HM.out]; exact lgV_le HBT.out HLG.out
  have HQ : Hid (lgP s p = p + F) := by show _ = _; unfold lgP; rw [HF.out]
  clear e2 e3 HTO
  go_wp2_with fail
  refine HLS.out.mono ?_
  rintro e w4 ⟨rfl, hw4⟩
  subst hw4
  obtain ⟨a4, x4, aw4, cw4, hst4, hob4, -, -⟩ := HX3.out.cells
  obtain ⟨d0, -⟩ := stO_cells hst4
  clear hst4 hob4
  rcases HC.out with ⟨rfl, hdz⟩ | ⟨gd, id, Kd, hdz, rfl, hyd⟩
  · have HR : Hid (cpR s d row L p out = (83, p, out)) := by
      show _ = _
      have e : dtE d row (lgP s p) = 83 := by unfold dtE; rw [if_pos hdz]
      unfold cpR; rw [if_neg (by simp [HLG.out]), if_pos (by rw [e]; decide), e]
    go_wp2
    go_ret
    exact ⟨83, p, out, HR.out, rfl, .inr ⟨by decide, p + F, HX3.out⟩⟩
  obtain ⟨Q1, HQ1⟩ : ∃ Q1, Hid (Q1 = lgP s p) := ⟨_, rfl⟩
  rw [← HQ.out, ← HQ1.out] at HX3
  have HNX := hide (vnext HX3.out id hyd)
  have HDZ := hide hdz
  clear hyd hdz HC
  go_wp2_with fail
  refine HNX.out.mono ?_
  rintro e w5 (⟨hsy, rfl, h5⟩ | ⟨hsy, rfl, h5⟩)
  case inr =>
    obtain ⟨Y, HY⟩ : ∃ Y, Hid (Y = syE d row Q1) := ⟨_, rfl⟩
    rw [← HY.out] at hsy ⊢
    have hsy' : (Y != 0) = true := by simpa using hsy
    have HX5 := hide h5
    have HR : Hid (cpR s d row L p out = (Y, p, out)) := by
      show _ = _
      have e : dtE d row (lgP s p) = Y := by unfold dtE; rw [if_neg (by simp [HDZ.out]), ← HQ1.out, ← HY.out, if_pos hsy]
      unfold cpR; rw [if_neg (by simp [HLG.out]), e, if_pos hsy]
    have HYN := hide hsy
    clear h5 d0 hsy
    go_wp2
    go_ret
    exact ⟨Y, p, out, HR.out, rfl, .inr ⟨HYN.out, Q1, HX5.out⟩⟩
  have hnl := nx_lt HDZ.out (sy_nx hsy)
  obtain ⟨S, HS⟩ : ∃ S : Nat, Hid (S = nxS d row Q1) := ⟨_, rfl⟩
  obtain ⟨P2, HP2⟩ : ∃ P2 : Nat, Hid (P2 = nxP d row Q1) := ⟨_, rfl⟩
  rw [← HS.out] at hnl ⊢
  rw [← HP2.out] at h5
  have hS : S ≤ 31 := by omega
  have HSY := hide hsy
  have HX5 := hide h5
  obtain ⟨a5, x5, aw5, cw5, hst5, -, -, -⟩ := h5.cells
  obtain ⟨f0, -⟩ := stO_cells hst5
  have HDT : Hid (dtE d row (lgP s p) = if 29 < S then 83 else if row.length < P2 + dsF S then 80 else 0) := by
    show _ = _
    unfold dtE
    rw [if_neg (by simp [HDZ.out]), ← HQ1.out, if_neg (by simp [HSY.out]), ← HS.out, ← HP2.out]
  clear h5 hst5 hsy hnl d0 HNX
  by_cases hs29 : S ≤ 29
  case neg =>
    have hs2 : (29 : Int) < (S : Int) := by omega
    have HR : Hid (cpR s d row L p out = (83, p, out)) := by
      show _ = _
      have e : dtE d row (lgP s p) = 83 := by rw [HDT.out, if_pos (by omega)]
      unfold cpR; rw [if_neg (by simp [HLG.out]), e, if_pos (by decide)]
    go_wp2
    go_ret
    exact ⟨83, p, out, HR.out, rfl, .inr ⟨by decide, P2, HX5.out⟩⟩
  have hs2 : ¬ ((29 : Int) < (S : Int)) := by omega
  obtain ⟨G, HG⟩ : ∃ G : Nat, Hid (G = dsF S) := ⟨_, rfl⟩
  have hG : G ≤ 13 := by rw [HG.out]; exact dsFle hs29
  have HDB : Hid (Calls Tryz.prog 121 #[.int .i64 (S : Nat)] w5.drew fun e w' => e = .returned (.int .i64 (G : Nat)) ∧ w' = w5.drew) := by rw [HG.out]; exact vdistBits_any S hs29 w5.drew
  have HTK2 : Hid (Calls Tryz.prog 72 #[.pointer (some ⟨r, 0, none⟩), .int .i64 (G : Nat)] w5.drew fun e w' => e = .returned (.tuple #[.int .u32 (takeV row P2 G), .int .i64 (takeE row P2 G)]) ∧ SX W w' g r row (takeP row P2 G) L out wh us dn er ys) := vtakeU (HX5.out.below ((Below.refl _ _).drew)) G (by omega)
  obtain ⟨V2, HV2⟩ : ∃ V, Hid (V = takeV row P2 G) := ⟨_, rfl⟩
  obtain ⟨E2, HE22⟩ : ∃ E, Hid (E = takeE row P2 G) := ⟨_, rfl⟩
  obtain ⟨P3, HP3⟩ : ∃ P, Hid (P = takeP row P2 G) := ⟨_, rfl⟩
  rw [← HV2.out, ← HE22.out, ← HP3.out] at HTK2
  have HTO2 := hide (take_ok8 (row := row) (p := P2) (n := G) (by omega))
  rw [← HV2.out, ← HE22.out, ← HP3.out] at HTO2
  have f0d : w5.drew.cell? ⟨g, 0, none⟩ = some (.pointer (some ⟨r, 0, none⟩)) := f0
  go_wp2
  go_cut [11, 8] (fun s11 s8 wx => s11 = .int .u32 V2 ∧ s8 = .int .i64 E2 ∧ Hid (SX W wx g r row P3 L out wh us dn er ys))
  case first =>
    go_region_with (first | (go_at_call 121; (with_reducible refine HDB.out.mono ?_); rintro e w6 ⟨rfl, hw6⟩; rw [hw6]; clear hw6) | (go_at_call 72; (with_reducible refine HTK2.out.mono ?_); rintro e w7 ⟨rfl, h7⟩; have HX7 := hide h7; clear h7))
    all_goals
      go_wp2_with fail
      go_meet
      exact ⟨rfl, rfl, HX7⟩
  case rest =>
  obtain ⟨rfl, rfl, HX7⟩ := hcut
  clear HTK2 HDB f0 f0d
  by_cases hp2 : P2 + G ≤ row.length
  case neg =>
    have hne := HTO2.out.2 (by omega)
    have hne' : (E2 != 0) = true := by simpa using hne
    have HR : Hid (cpR s d row L p out = (80, p, out)) := by
      show _ = _
      have e : dtE d row (lgP s p) = 80 := by rw [HDT.out, if_neg (by omega), ← HG.out, if_pos (by omega)]
      unfold cpR; rw [if_neg (by simp [HLG.out]), e, if_pos (by decide)]
    clear hne
    go_wp2
    go_ret
    exact ⟨80, p, out, HR.out, rfl, .inr ⟨by decide, P3, HX7.out⟩⟩
  obtain ⟨g1, g2, g3⟩ := HTO2.out.1 hp2
  subst g1
  have hw0 : 0 ≤ V2 := by rw [g2]; exact (ahead_bound HBT.out P2 G).1
  have hw1 : V2 < 8192 := by rw [g2]; exact ahead_le HBT.out P2 (m := 13) hG
  have HDT0 : Hid (dtE d row (lgP s p) = 0) := by show _ = _; rw [HDT.out, if_neg (by omega), ← HG.out, if_neg (by omega)]
  obtain ⟨B2, HB2⟩ : ∃ B : Nat, Hid (B = dsB S) := ⟨_, rfl⟩
  have hB2 : B2 ≤ 24577 := by rw [HB2.out]; exact (dsBle ⟨S, by omega⟩).1
  obtain ⟨D, HD⟩ : ∃ D : Nat, Hid (D = dtV d row (lgP s p)) := ⟨_, rfl⟩
  have hDV : (B2 : Int) + V2 = (D : Int) := by rw [HD.out]; unfold dtV; rw [← HQ1.out, ← HS.out, ← HP2.out, ← HB2.out, ← HG.out, ← g2]; omega
  have HP3e : Hid (P3 = dtP d row (lgP s p)) := by show _ = _; unfold dtP; rw [← HQ1.out, ← HS.out, ← HP2.out, ← HG.out]; exact g3
  have hD0 : 0 < D ∧ D ≤ 40000 := by
    have := dtV_le HBT.out HDT0.out
    rw [← HD.out] at this
    omega
  have HDS : Hid (Calls Tryz.prog 122 #[.int .i64 (S : Nat)] wc fun e w' => e = .returned (.int .i64 (B2 : Nat)) ∧ w' = wc) := by rw [HB2.out]; exact vdistBase_any S hs29 wc
  obtain ⟨a8, x8, aw8, cw8, hst8, -, -, -⟩ := HX7.out.cells
  obtain ⟨l0, l1, l2, -, -, -, -, -⟩ := stO_cells hst8
  obtain ⟨N, HN⟩ : ∃ N : Nat, Hid (N = out.length) := ⟨_, rfl⟩
  rw [← HN.out] at l2 hoL
  have HRR : Hid (cpR s d row L p out = if agE L out M D ≠ 0 then (agE L out M D, p, out) else (0, P3, cpy D M out)) := by
    show _ = _
    unfold cpR
    rw [if_neg (by simp [HLG.out]), if_neg (by simp [HDT0.out]), ← HM.out, ← HD.out, ← HP3e.out]
  clear g2 g3 HTO2 hst8
  go_wp2_with fail
  refine HDS.out.mono ?_
  rintro e w8 ⟨rfl, hw8⟩
  subst hw8
  by_cases hfar : N < D
  · have hfar' : (N : Int) < (D : Int) := by omega
    have HR : Hid (cpR s d row L p out = (84, p, out)) := by
      show _ = _
      have e : agE L out M D = 84 := by unfold agE; rw [← HN.out, if_pos hfar]
      rw [HRR.out, e, if_pos (by decide)]
    go_wp2
    go_ret
    exact ⟨84, p, out, HR.out, rfl, .inr ⟨by decide, P3, HX7.out⟩⟩
  have hfar' : ¬ ((N : Int) < (D : Int)) := by omega
  have l1d : ∀ q, (w8.drewN q).cell? ⟨g, 1, none⟩ = some (.int .i64 L) := fun q => l1
  have l2d : ∀ q, (w8.drewN q).cell? ⟨g, 2, none⟩ = some (.slice a8 N x8) := fun q => l2
  by_cases hlim : N + M ≤ L
  case neg =>
    have hl1 : decide ((L : Int) < (N : Int) + (M : Int)) = true := by simp; omega
    have hl2 : (L : Int) < (N : Int) + (M : Int) := by omega
    have HR : Hid (cpR s d row L p out = (85, p, out)) := by
      show _ = _
      have e : agE L out M D = 85 := by unfold agE; rw [← HN.out, if_neg hfar, if_pos (by omega)]
      rw [HRR.out, e, if_pos (by decide)]
    go_wp2
    go_quiet (fail)
    go_wp2
    go_ret
    exact ⟨85, p, out, HR.out, rfl, .inr ⟨by decide, P3, HX7.out.below (below_drewN (Below.refl _ _) _)⟩⟩
  have hl1 : decide ((L : Int) < (N : Int) + (M : Int)) = false := by simp; omega
  have hl2 : ¬ ((L : Int) < (N : Int) + (M : Int)) := by omega
  have HR : Hid (cpR s d row L p out = (0, P3, cpy D M out)) := by
    show _ = _
    have e : agE L out M D = 0 := by unfold agE; rw [← HN.out, if_neg hfar, if_neg (by omega)]
    rw [HRR.out, e, if_neg (by simp)]
  have HXQ : Hid (∀ q, SX W (w8.drewN q) g r row P3 L out wh us dn er ys) := fun q => HX7.out.below (below_drewN (Below.refl _ _) q)
  go_wp2
  go_quiet (fail)
  go_wp2
  clear l0 l1 l2 l1d l2d hl1 hl2
  go_loopw [13, 14] (fun i c wr => ∃ k : Nat, k ≤ M ∧ i = .int .i64 k ∧ Hid (SX W wr g r row P3 L (cpy D k out) wh us dn er ys)) (fun i _ _ => M - (intOf i).toNat)
  case atStart => exact ⟨0, Nat.zero_le _, rfl, HXQ.out _⟩
  case round =>
    obtain ⟨k, hk, rfl, HX⟩ := hrel
    clear HXQ
    obtain ⟨a9, x9, t2, hob9, hgo⟩ := HX.out.lit
    have hlen : (cpy D k out).length = N + k := by rw [cpy_len, ← HN.out]
    obtain ⟨o', HO'⟩ : ∃ o', Hid (o' = cpy D k out) := ⟨_, rfl⟩
    rw [← HO'.out] at t2 hob9 hgo hlen
    obtain ⟨Z, HZ⟩ : ∃ Z : Nat, Hid (Z = N + k) := ⟨_, rfl⟩
    rw [← HZ.out] at hlen
    obtain ⟨b, cap, hv9, hcp, hcp2⟩ := ob_some8 hob9 (by rw [hlen, HZ.out]; omega)
    simp only [Value.slice.injEq, true_and] at hv9
    obtain ⟨rfl, rfl⟩ := hv9
    by_cases hlt : k < M
    · have hlt' : (k : Int) < (M : Int) := by omega
      obtain ⟨j, HJ⟩ : ∃ j : Nat, Hid (j = Z - D) := ⟨_, rfl⟩
      have hzj : (Z : Int) - (D : Int) = (j : Int) := by rw [HJ.out, HZ.out]; omega
      have hjz : j < Z := by rw [HJ.out, HZ.out]; omega
      obtain ⟨y, HY⟩ : ∃ y, Hid (y = o'.getD j 0) := ⟨_, rfl⟩
      have hcell : wr.cell? ⟨b, j, none⟩ = some (.int .u8 y) := by rw [HY.out]; exact OB.get hob9 (b := b) rfl (i := j) (by rw [hlen]; exact hjz)
      rw [hlen] at t2 hcp
      have hZ2 : Z ≤ 33554432 := by rw [HZ.out]; omega
      have tq : ∀ q, (wr.drewN q).cell? ⟨g, 2, none⟩ = some (.slice (some ⟨b, 0, none⟩) Z x9) := fun q => t2
      have cq : ∀ q, (wr.drewN q).cell? ⟨b, j, none⟩ = some (.int .u8 y) := fun q => hcell
      have HOBQ : Hid (∀ q, OB ((wr.drewN q).alloc (.cells #[.int .u8 y] 5)) 0 (.slice (some ⟨b, 0, none⟩) Z x9) o') := fun q => by
        have h1 : OB (wr.drewN q) 0 (.slice (some ⟨b, 0, none⟩) Z x9) o' := by rw [← hlen]; exact hob9.move fun k hk => rfl
        exact h1.alloc _
      have HSRQ : Hid (∀ q, Src Tryz.prog 1 22 (.slice (some ⟨(wr.drewN q).heap.size, 0, none⟩) 1 1) ([y] : List Int).length (([y] : List Int).map (Value.int .u8)) ((wr.drewN q).alloc (.cells #[.int .u8 y] 5))) := fun q => built_src (wr.drewN q) [y]
      have HLB2 : Hid (o'.length + ([y] : List Int).length ≤ 140737488355328) := by show _ ≤ _; rw [hlen]; simp; omega
      have HGO := hide hgo
      have HLEN := hide hlen
      have hj0 : (j : Int) < (Z : Int) := by omega
      clear hgo hob9 hlen hcp2
      go_wp2
      go_quiet (fail)
      go_wp2_with (at_builtin; refine wpList_app rfl _ _ 22 rfl 0 _ _ o' [y] rfl (HOBQ.out _) rfl (HSRQ.out _) HLB2.out (Nat.zero_le _) ?_)
      intro v6 w6 ho6 hg6
      obtain ⟨o6, HO6⟩ : ∃ o6, Hid (o6 = o' ++ [y]) := ⟨_, rfl⟩
      rw [← HO6.out] at ho6
      obtain ⟨a6, c6, rfl⟩ := ho6.shape
      rw [← HLEN.out] at hg6
      obtain ⟨t3, t4, t5⟩ := HGO.out _ w6 _ o6 ((below_drewN (Below.refl _ _) _).alloc (Nat.le_refl _) _) ho6 hg6
      have HT6 := hide (t5 (by rw [HO6.out, List.length_append, HLEN.out, HZ.out]; simp; omega))
      have HNE : Hid (o6 = cpy D (k + 1) out) := by
        show _ = _
        rw [cpy_snoc, ← HO'.out, HO6.out, HY.out, HLEN.out, HJ.out]
      rw [HLEN.out] at t3
      clear ho6 hg6 t5 t2 tq cq hcell
      go_wp2
      go_roundw
      case rel => exact ⟨k + 1, by omega, by simp, by rw [← HNE.out]; exact HT6⟩
      case measure => simp [intOf]; omega
    · obtain rfl : k = M := by omega
      clear t2
      go_wp2
      (try simp only [Exit.inBlock, Exit.then])
      go_ret
      exact ⟨0, P3, cpy D k out, HR.out, rfl, .inl ⟨rfl, HX.out⟩⟩
end Go.Proofs.YtmjdpfigkojolaaGreatDoor

