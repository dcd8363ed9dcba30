import Derived.Test.YtcgeaidegppiaaaDoorGA29
namespace Go.Proofs.YtcgeaidegppiaaaDoor
open Go.RowKit Go.Maps
set_option maxRecDepth 20000
set_option linter.unusedVariables false

set_option maxHeartbeats 2000000 in
/-- The codes of a dynamic block, off its header. -/
theorem hown {W w : World} {g r : Nat} {row : List Int} {p L : Nat} {out : List Int} {dn : Bool} {ys : List ((Nat → Nat) × Thing)} (H : TX W w g r row p L out dn ys) (T : Tab W) (O : Odr W) :
    Calls Tryd.prog 24 #[.pointer (some ⟨g, 0, none⟩)] w fun e w' => ((rdA row p).1 = 0 ∧ ∃ p1 p2 zs, e = .returned (.agg #[.pointer p1, .pointer p2]) ∧ TX W w' g r row (rdA row p).2.2.2 L out dn (ys ++ zs) ∧ Cd (ys ++ zs) p1 (rdA row p).2.1 ∧ Cd (ys ++ zs) p2 (rdA row p).2.2.1) ∨ ((rdA row p).1 ≠ 0 ∧ Off W (rdA row p).1 e w') := by
  obtain ⟨Kt, Kr, Ko, a, c, fl, fd, HH, hfx, hk⟩ := H
  obtain ⟨KA, hA⟩ := HH.box1 (cdO1 none none)
  have HK := hide hk
  have HFX := hide hfx
  obtain ⟨c0, c1, c2, c3, c4, c5⟩ := txO_cells (hA.tbat 0 rfl)
  have HRD := hide (hread hA 1 rfl T O)
  obtain ⟨A, HAA⟩ : ∃ A, Hid (A = rdA row p) := ⟨_, rfl⟩
  rw [← HAA.out] at HRD ⊢
  obtain ⟨E, l, d, q0⟩ := A
  simp only at HRD ⊢
  clear HH hA hk hfx c1 c2 c3 c4 c5 T O
  go_enter Tryd.func24, Tryd.ntmps24
  go_wp2_with fail
  refine HRD.out.mono ?_
  rintro e w1 ⟨a1, x1, a2, x2, q, K1, K2, rfl, hq, h1⟩
  by_cases he : E = 0
  case neg =>
    have he' : (E != 0) = true := by simpa using he
    have HX := hide h1.bel
    clear h1 hq c0
    go_wp2_with fail
    refine (giveUp_any E _).mono ?_
    rintro e w2 ⟨rfl, rfl⟩
    go_wp2
    exact ⟨rfl, .inr ⟨he, rfl, HX.out⟩⟩
  subst he
  have hqq := hq rfl
  subst hqq
  have HNC := hide (hncodes h1 _ _ (get_front (get_last _ _)) (get_last _ _))
  clear h1 hq HRD c0
  go_wp2_with fail
  refine HNC.out.mono ?_
  rintro e w2 ⟨p1, p2, zs, rfl, h3, hc1, hc2⟩
  simp only [List.cons_append, List.nil_append, List.append_assoc, List.set_cons_succ, List.set_cons_zero] at h3
  obtain ⟨zr, hzr⟩ : ∃ zr, (K1, ti (.slice a1 l.length x1) l) :: (K2, ti (.slice a2 d.length x2) d) :: zs = zr := ⟨_, rfl⟩
  rw [hzr] at h3
  have HC1 : Hid (∀ b, Cd (ys ++ b :: zr) p1 l) := fun b => by
    rw [← hzr, show ys ++ b :: (K1, ti (.slice a1 l.length x1) l) :: (K2, ti (.slice a2 d.length x2) d) :: zs = (ys ++ [b, (K1, ti (.slice a1 l.length x1) l), (K2, ti (.slice a2 d.length x2) d)]) ++ zs by simp]
    exact Cd.pre hc1
  have HC2 : Hid (∀ b, Cd (ys ++ b :: zr) p2 d) := fun b => by
    rw [← hzr, show ys ++ b :: (K1, ti (.slice a1 l.length x1) l) :: (K2, ti (.slice a2 d.length x2) d) :: zs = (ys ++ [b, (K1, ti (.slice a1 l.length x1) l), (K2, ti (.slice a2 d.length x2) d)]) ++ zs by simp]
    exact Cd.pre hc2
  obtain ⟨b0, b1, b2⟩ := cd_cells (h3.tbat _ (at_3 _ _ _ _ _ _))
  have h7 := h3.bput _ (at_3 _ _ _ _ _ _) 0 (.pointer p1)
  rw [set_3] at h7
  have h8 := h7.bput _ (at_3 _ _ _ _ _ _) 1 (.pointer p2)
  rw [set_3] at h8
  obtain ⟨f0, f1, f2⟩ := cd_cells (p := p1) (q := p2) (h8.tbat _ (at_3 _ _ _ _ _ _))
  have HX := hide h8
  clear h3 h7 h8 hc1 hc2 HNC hzr
  go_wp2
  refine bodyPost_ret (v := .agg #[.pointer p1, .pointer p2]) (by simp [results, Tryd.results24, go_sem, f0, f1]) rfl ?_
  exact ⟨_, _, rfl, _, ⟨Kt, Kr, Ko, a, c, _, _, HX.out, HFX.out.app, HK.out⟩, HC1.out _, HC2.out _⟩

theorem Herd.cut8 {W w : World} {xs ys : List ((Nat → Nat) × Thing)} (h : Herd W w (xs ++ ys)) : Herd W w xs :=
  ⟨h.bel, fun i d hd => h.rep i d (get_app hd), fun i d hd => h.up i d (get_app hd), fun i j d e hd he => h.sep i j d e (get_app hd) (get_app he)⟩

theorem algn_le {row : List Int} {p : Nat} (h : p ≤ row.length) (h8 : row.length % 8 = 0) : algn p ≤ row.length := by unfold algn; omega

set_option maxHeartbeats 2000000 in
/-- A stored block behind its first three bits. -/
theorem hstored {W w : World} {g r : Nat} {row : List Int} {p L : Nat} {out : List Int} {dn : Bool} {ys : List ((Nat → Nat) × Thing)} (H : TX W w g r row p L out dn ys) :
    Calls Tryd.prog 21 #[.pointer (some ⟨g, 0, none⟩)] w fun e w' => ((st1 row L p out).1 = 0 ∧ e = .returned (.tuple #[]) ∧ TX W w' g r row (st1 row L p out).2.1 L (st1 row L p out).2.2 dn ys) ∨ ((st1 row L p out).1 ≠ 0 ∧ Off W (st1 row L p out).1 e w') := by
  obtain ⟨hbit, hp, hr28, hr8⟩ := H.rd
  have HAL := hide (algn_le hp hr8)
  have HBT := hide hbit
  obtain ⟨Kt, Kr, Ko, a, c, fl, fd, HH, hfx, hoL, hL⟩ := H
  obtain ⟨c0, c1, c2, c3, c4, c5⟩ := txO_cells (HH.tbat 0 rfl)
  have HK := hide (And.intro hfx (And.intro hoL hL))
  have HAG := hide (hralign HH 1 rfl)
  obtain ⟨A, HA⟩ : ∃ A : Nat, Hid (A = algn p) := ⟨_, rfl⟩
  obtain ⟨R, HR⟩ : ∃ R, Hid (R = st1 row L p out) := ⟨_, rfl⟩
  rw [← HA.out] at HAG
  clear HH hfx c1 c2 c3 c4 c5 hbit
  go_enter Tryd.func21, Tryd.ntmps21
  go_wp2_with fail
  refine HAG.out.mono ?_
  rintro e w1 ⟨rfl, h1⟩
  have ht1 : TX W w1 g r row A L out dn ys := ⟨Kt, Kr, Ko, a, c, fl, fd, h1, HK.out⟩
  have HT1 := hide (htk ht1 16 (by omega))
  have HA8 : Hid (A % 8 = 0) := by show _ = _; rw [HA.out]; unfold algn; omega
  have HRU : Hid (st1 row L p out = if row.length < A + 32 then (80, p, out)
      else if ahead row A 16 + ahead row (A + 16) 16 ≠ 65535 then (82, p, out)
      else if L < out.length + (ahead row A 16).toNat then (85, p, out)
      else if row.length < A + 32 + 8 * (ahead row A 16).toNat then (80, p, out)
      else (0, A + 32 + 8 * (ahead row A 16).toNat, out ++ pack ((row.drop (A + 32)).take (8 * (ahead row A 16).toNat)))) := by
    show _ = _; rw [HA.out]; rfl
  clear h1 ht1 c0 HAG
  go_wp2_with fail
  refine HT1.out.mono ?_
  rintro e w2 (⟨hp1, rfl, h2⟩ | ⟨hp1, rfl, h2⟩)
  case inr =>
    have HX := hide h2
    clear h2
    go_wp2
    have e : st1 row L p out = (80, p, out) := by rw [HRU.out, if_pos (by omega)]
    rw [e]
    exact ⟨rfl, .inr ⟨by simp, rfl, HX.out⟩⟩
  obtain ⟨n1, HN1⟩ : ∃ n1 : Nat, Hid ((n1 : Int) = ahead row A 16) := ⟨(ahead row A 16).toNat, by have := (ahead_bound HBT.out A 16).1; show _ = _; omega⟩
  have hn1 : n1 < 65536 := by have := (ahead_bound HBT.out A 16).2; have := HN1.out; omega
  rw [← HN1.out]
  have HT2 := hide (htk h2 16 (by omega))
  clear h2 HT1
  go_wp2_with fail
  refine HT2.out.mono ?_
  rintro e w3 (⟨hp2, rfl, h3⟩ | ⟨hp2, rfl, h3⟩)
  case inr =>
    have HX := hide h3
    clear h3
    go_wp2
    have e : st1 row L p out = (80, p, out) := by rw [HRU.out, if_pos (by omega)]
    rw [e]
    exact ⟨rfl, .inr ⟨by simp, rfl, HX.out⟩⟩
  obtain ⟨n2, HN2⟩ : ∃ n2 : Nat, Hid ((n2 : Int) = ahead row (A + 16) 16) := ⟨(ahead row (A + 16) 16).toNat, by have := (ahead_bound HBT.out (A + 16) 16).1; show _ = _; omega⟩
  have hn2 : n2 < 65536 := by have := (ahead_bound HBT.out (A + 16) 16).2; have := HN2.out; omega
  rw [← HN2.out]
  have hA32 : A + 16 + 16 = A + 32 := by omega
  rw [hA32] at h3 hp2
  have HX3 := hide h3
  have HRM := hide (hroom h3 n1 (by omega))
  clear h3 HT2 hA32
  by_cases hs : (n1 : Int) + (n2 : Int) = 65535
  case neg =>
    have hs' : (((n1 : Int) + (n2 : Int)) != 65535) = true := by simpa using hs
    have HB := hide HX3.out.bel
    go_wp2_with fail
    refine (giveUp_any 82 _).mono ?_
    rintro e w4 ⟨rfl, rfl⟩
    go_wp2
    have e : st1 row L p out = (82, p, out) := by rw [HRU.out, if_neg (by omega), ← HN1.out, ← HN2.out, if_pos hs]
    rw [e]
    exact ⟨rfl, .inr ⟨by simp, rfl, HB.out⟩⟩
  have HRU2 : Hid (st1 row L p out = if L < out.length + n1 then (85, p, out) else if row.length < A + 32 + 8 * n1 then (80, p, out)
      else (0, A + 32 + 8 * n1, out ++ pack ((row.drop (A + 32)).take (8 * n1)))) := by
    show _ = _
    have e : (ahead row A 16).toNat = n1 := by have := HN1.out; omega
    rw [HRU.out, if_neg (by omega), if_neg (by rw [← HN1.out, ← HN2.out]; simpa using hs), e]
  go_wp2_with fail
  refine HRM.out.mono ?_
  rintro e w4 (⟨hrm, rfl, qd, rfl⟩ | ⟨hrm, rfl, h4⟩)
  case inr =>
    have HX := hide h4
    clear h4
    go_wp2
    have e : st1 row L p out = (85, p, out) := by rw [HRU2.out, if_pos hrm]
    rw [e]
    exact ⟨rfl, .inr ⟨by simp, rfl, HX.out⟩⟩
  obtain ⟨Kt2, Kr2, Ko2, a2, x2, fl2, fd2, HH2, hfx2, hoL2, hL2⟩ := HX3.out.below (below_drewN (Below.refl _ _) qd)
  obtain ⟨d0, d1, d2, d3, d4, d5⟩ := txO_cells (HH2.tbat 0 rfl)
  have HRW := hide (hrraw HH2 1 rfl n1)
  have HFX2 := hide hfx2
  obtain ⟨PE, HPE⟩ : ∃ PE, Hid (PE = rrawE row (A + 32) n1) := ⟨_, rfl⟩
  obtain ⟨PL, HPL⟩ : ∃ PL, Hid (PL = rrawL row (A + 32) n1) := ⟨_, rfl⟩
  obtain ⟨PP, HPP⟩ : ∃ PP, Hid (PP = rrawP row (A + 32) n1) := ⟨_, rfl⟩
  rw [← HPE.out, ← HPL.out, ← HPP.out] at HRW
  have HEE : Hid (PE = if (n1 : Int) ≤ ((row.length : Int) - ((A + 32 : Nat) : Int)) / 8 then 0 else 30) := by
    show _ = _
    rw [HPE.out]; unfold rrawE
    rw [if_neg (by omega), if_neg (by have := HA8.out; omega)]
  clear HH2 hfx2 HX3 HRM d1 d2 d3 d4 d5
  go_wp2_with fail
  refine HRW.out.mono ?_
  rintro e w5 ⟨a5, x5, K5, rfl, h5⟩
  by_cases hpe : PE = 0
  case neg =>
    have hpe' : (PE != 0) = true := by simpa using hpe
    have HX := hide h5.bel
    clear h5 d0
    go_wp2_with fail
    refine (giveUp_any 80 _).mono ?_
    rintro e w6 ⟨rfl, rfl⟩
    go_wp2
    have hlt : row.length < A + 32 + 8 * n1 := by
      rcases Nat.lt_or_ge row.length (A + 32 + 8 * n1) with h | h
      · exact h
      · exfalso; apply hpe; rw [HEE.out, if_pos (by omega)]
    have e : st1 row L p out = (80, p, out) := by rw [HRU2.out, if_neg (by omega), if_pos hlt]
    rw [e]
    exact ⟨rfl, .inr ⟨by simp, rfl, HX.out⟩⟩
  have hge : ¬ row.length < A + 32 + 8 * n1 := fun h => by
    have h1 := HEE.out
    rw [hpe, if_neg (by omega)] at h1
    cases h1
  have HR0 : Hid (rrawE row (A + 32) n1 = 0) := by show _ = _; rw [← HPE.out]; exact hpe
  have HPL2 : Hid (PL = pack ((row.drop (A + 32)).take (8 * n1))) := by show _ = _; rw [HPL.out]; unfold rrawL; rw [if_pos HR0.out]; simp
  have HPP2 : Hid (PP = A + 32 + 8 * n1) := by show _ = _; rw [HPP.out]; unfold rrawP; rw [if_pos HR0.out]; simp
  have HPN : Hid (PL.length = n1) := by
    show _ = _
    rw [HPL2.out, length_pack ((HBT.out.drop _).take _), List.length_take, List.length_drop]; omega
  subst hpe
  have h5f := h5.front
  simp only [List.set_cons_succ, List.set_cons_zero] at h5f
  have hob : OB w5 0 (.slice a2 out.length x2) out := (h5f.rep 2 _ rfl).1
  have hsb : SB w5 (.slice a5 PL.length x5) PL := h5.sb _ (get_last _ _)
  obtain ⟨f0, f1, f2, f3, f4, f5⟩ := txO_cells (h5f.tbat 0 rfl)
  have ffz := txO_free (h5f.tbat 0 rfl)
  have HOB := hide hob
  have HSR := hide hsb.src
  have HX5 := hide h5f
  have hb5 : out.length + PL.length ≤ 140737488355328 := by rw [HPN.out]; omega
  have HB5 := hide hb5
  have hgb : ∀ k, (Value.slice a2 out.length x2).ownBlock = some k → g ≠ k := fun k hk e => by
    have h0 : (tb g (txO r a2 out.length x2 L dn fl2 fd2)).P w5 Kt2 := h5f.rep 0 _ rfl
    have h2 : (tl (.slice a2 out.length x2) out).P w5 Ko2 := h5f.rep 2 _ rfl
    have := h5f.sep 0 2 _ _ rfl rfl (by decide) g h0.2.1
    rw [e] at this
    exact h2.2.1 k hk this
  have HGB := hide hgb
  have hgs : g < w5.heap.size := by
    have h0 : (tb g (txO r a2 out.length x2 L dn fl2 fd2)).P w5 Kt2 := h5f.rep 0 _ rfl
    exact h0.2.2 g h0.2.1
  have HG0 := hide (h5f.tbat 0 rfl)
  clear h5 h5f hob hsb d0 HRW hb5 hgb
  go_wp2_with (at_builtin; refine wpList_app rfl _ _ 22 rfl 0 _ _ out PL rfl HOB.out rfl HSR.out HB5.out (Nat.zero_le _) ?_)
  intro v6 w6 ho6 hg6
  obtain ⟨S, HS⟩ : ∃ S, Hid (S = out ++ PL) := ⟨_, rfl⟩
  rw [← HS.out] at ho6
  have hL6 : S.length ≤ L := by rw [HS.out, List.length_append, HPN.out]; omega
  obtain ⟨a6, c6, rfl⟩ := ho6.shape
  have HT6 := hide (tx_app HX5.out (Below.refl _ _) HFX2.out hL6 hL2 ho6 hg6)
  have hb6 : w6.heap[g]? = some (txO r a2 out.length x2 L dn fl2 fd2) := (hg6.by.block g hgs (fun e => HGB.out g e.symm rfl)).trans HG0.out
  have g1 := (txO_cells hb6).2.1
  have g2 := txO_free hb6
  clear f0 f1 f2 f3 f4 f5 ffz ho6 hg6 hb6
  go_wp2
  refine bodyPost_end (results_none rfl _ _ _) rfl ?_
  have e : st1 row L p out = (0, PP, S) := by rw [HRU2.out, if_neg (by omega), if_neg hge, HPP2.out, HS.out, HPL2.out]
  rw [e]
  exact .inl ⟨rfl, rfl, HT6.out⟩
end Go.Proofs.YtcgeaidegppiaaaDoor

