import Derived.Test.YtpmgnpfpnkmmbaaGreatDoorG19Iff
import Derived.Test.YtpmgnpfpnkmmbaaGreatDoorG08Herd
namespace Go.Proofs.YtpmgnpfpnkmmbaaGreatDoor
open Go.RowKit Go.Maps
set_option maxRecDepth 20000
set_option linter.unusedVariables false

set_option maxHeartbeats 2000000 in
/-- The codes of a dynamic block, off its header. -/
theorem hown {W w : World} {g r : Nat} {row : List Int} {p L : Nat} {out : List Int} {dn : Bool} {ys : List ((Nat → Nat) × Thing)} (H : TX W w g r row p L out dn ys) (T : Tab W) (O : Odr W) :
    Calls Tryz.prog 37 #[.pointer (some ⟨g, 0, none⟩)] w fun e w' => ((rdA row p).1 = 0 ∧ ∃ p1 p2 zs, e = .returned (.agg #[.pointer p1, .pointer p2]) ∧ TX W w' g r row (rdA row p).2.2.2 L out dn (ys ++ zs) ∧ Cd (ys ++ zs) p1 (rdA row p).2.1 ∧ Cd (ys ++ zs) p2 (rdA row p).2.2.1) ∨ ((rdA row p).1 ≠ 0 ∧ Off W (rdA row p).1 e w') := by
  obtain ⟨Kt, Kr, Ko, a, c, fl, fd, HH, hfx, hk⟩ := H
  obtain ⟨KA, hA⟩ := HH.box1 (cdO1 none none)
  have HK := hide hk
  have HFX := hide hfx
  obtain ⟨c0, c1, c2, c3, c4, c5⟩ := txO_cells (hA.tbat 0 rfl)
  have HRD := hide (hread hA 1 rfl T O)
  obtain ⟨A, HAA⟩ : ∃ A, Hid (A = rdA row p) := ⟨_, rfl⟩
  rw [← HAA.out] at HRD ⊢
  obtain ⟨E, l, d, q0⟩ := A
  simp only at HRD ⊢
  clear HH hA hk hfx c1 c2 c3 c4 c5 T O
  go_enter Tryz.func37, Tryz.ntmps37
  go_wp2_with fail
  refine HRD.out.mono ?_
  rintro e w1 ⟨a1, x1, a2, x2, q, K1, K2, rfl, hq, h1⟩
  by_cases he : E = 0
  case neg =>
    have he' : (E != 0) = true := by simpa using he
    have HX := hide h1.bel
    clear h1 hq c0
    go_wp2_with fail
    refine (giveUp_any E _).mono ?_
    rintro e w2 ⟨rfl, rfl⟩
    go_wp2
    exact ⟨rfl, .inr ⟨he, rfl, HX.out⟩⟩
  subst he
  have hqq := hq rfl
  subst hqq
  have HNC := hide (hncodes h1 _ _ (get_front (get_last _ _)) (get_last _ _))
  clear h1 hq HRD c0
  go_wp2_with fail
  refine HNC.out.mono ?_
  rintro e w2 ⟨p1, p2, zs, rfl, h3, hc1, hc2⟩
  simp only [List.cons_append, List.nil_append, List.append_assoc, List.set_cons_succ, List.set_cons_zero] at h3
  obtain ⟨zr, hzr⟩ : ∃ zr, (K1, ti (.slice a1 l.length x1) l) :: (K2, ti (.slice a2 d.length x2) d) :: zs = zr := ⟨_, rfl⟩
  rw [hzr] at h3
  have HC1 : Hid (∀ b, Cd (ys ++ b :: zr) p1 l) := fun b => by
    rw [← hzr, show ys ++ b :: (K1, ti (.slice a1 l.length x1) l) :: (K2, ti (.slice a2 d.length x2) d) :: zs = (ys ++ [b, (K1, ti (.slice a1 l.length x1) l), (K2, ti (.slice a2 d.length x2) d)]) ++ zs by simp]
    exact Cd.pre hc1
  have HC2 : Hid (∀ b, Cd (ys ++ b :: zr) p2 d) := fun b => by
    rw [← hzr, show ys ++ b :: (K1, ti (.slice a1 l.length x1) l) :: (K2, ti (.slice a2 d.length x2) d) :: zs = (ys ++ [b, (K1, ti (.slice a1 l.length x1) l), (K2, ti (.slice a2 d.length x2) d)]) ++ zs by simp]
    exact Cd.pre hc2
  obtain ⟨b0, b1, b2⟩ := cd_cells (h3.tbat _ (at_3 _ _ _ _ _ _))
  have h7 := h3.bput _ (at_3 _ _ _ _ _ _) 0 (.pointer p1)
  rw [set_3] at h7
  have h8 := h7.bput _ (at_3 _ _ _ _ _ _) 1 (.pointer p2)
  rw [set_3] at h8
  obtain ⟨f0, f1, f2⟩ := cd_cells (p := p1) (q := p2) (h8.tbat _ (at_3 _ _ _ _ _ _))
  have HX := hide h8
  clear h3 h7 h8 hc1 hc2 HNC hzr
  go_wp2
  refine bodyPost_ret (v := .agg #[.pointer p1, .pointer p2]) (by simp [results, Tryz.results37, go_sem, f0, f1]) rfl ?_
  exact ⟨_, _, rfl, _, ⟨Kt, Kr, Ko, a, c, _, _, HX.out, HFX.out.app, HK.out⟩, HC1.out _, HC2.out _⟩

theorem Herd.cut8 {W w : World} {xs ys : List ((Nat → Nat) × Thing)} (h : Herd W w (xs ++ ys)) : Herd W w xs :=
  ⟨h.bel, fun i d hd => h.rep i d (get_app hd), fun i d hd => h.up i d (get_app hd), fun i j d e hd he => h.sep i j d e (get_app hd) (get_app he)⟩

theorem algn_le {row : List Int} {p : Nat} (h : p ≤ row.length) (h8 : row.length % 8 = 0) : algn p ≤ row.length := by unfold algn; omega

set_option maxHeartbeats 2000000 in
/-- A stored block behind its first three bits. -/
theorem hstored {W w : World} {g r : Nat} {row : List Int} {p L : Nat} {out : List Int} {dn : Bool} {ys : List ((Nat → Nat) × Thing)} (H : TX W w g r row p L out dn ys) :
    Calls Tryz.prog 34 #[.pointer (some ⟨g, 0, none⟩)] w fun e w' => ((st1 row L p out).1 = 0 ∧ e = .returned (.tuple #[]) ∧ TX W w' g r row (st1 row L p out).2.1 L (st1 row L p out).2.2 dn ys) ∨ ((st1 row L p out).1 ≠ 0 ∧ Off W (st1 row L p out).1 e w') := by
  obtain ⟨hbit, hp, hr28, hr8⟩ := H.rd
  have HAL := hide (algn_le hp hr8)
  have HBT := hide hbit
  obtain ⟨Kt, Kr, Ko, a, c, fl, fd, HH, hfx, hoL, hL⟩ := H
  obtain ⟨c0, c1, c2, c3, c4, c5⟩ := txO_cells (HH.tbat 0 rfl)
  have HK := hide (And.intro hfx (And.intro hoL hL))
  have HAG := hide (hralign HH 1 rfl)
  obtain ⟨A, HA⟩ : ∃ A : Nat, Hid (A = algn p) := ⟨_, rfl⟩
  obtain ⟨R, HR⟩ : ∃ R, Hid (R = st1 row L p out) := ⟨_, rfl⟩
  rw [← HA.out] at HAG
  clear HH hfx c1 c2 c3 c4 c5 hbit
  go_enter Tryz.func34, Tryz.ntmps34
  go_wp2_with fail
  refine HAG.out.mono ?_
  rintro e w1 ⟨rfl, h1⟩
  have ht1 : TX W w1 g r row A L out dn ys := ⟨Kt, Kr, Ko, a, c, fl, fd, h1, HK.out⟩
  have HT1 := hide (htk ht1 16 (by omega))
  have HA8 : Hid (A % 8 = 0) := by show _ = _; rw [HA.out]; unfold algn; omega
  have HRU : Hid (st1 row L p out = if row.length < A + 32 then (80, p, out)
      else if ahead row A 16 + ahead row (A + 16) 16 ≠ 65535 then (82, p, out)
      else if L < out.length + (ahead row A 16).toNat then (85, p, out)
      else if row.length < A + 32 + 8 * (ahead row A 16).toNat then (80, p, out)
      else (0, A + 32 + 8 * (ahead row A 16).toNat, out ++ pack ((row.drop (A + 32)).take (8 * (ahead row A 16).toNat)))) := by
    show _ = _; rw [HA.out]; rfl
  clear h1 ht1 c0 HAG
  go_wp2_with fail
  refine HT1.out.mono ?_
  rintro e w2 (⟨hp1, rfl, h2⟩ | ⟨hp1, rfl, h2⟩)
  case inr =>
    have HX := hide h2
    clear h2
    go_wp2
    have e : st1 row L p out = (80, p, out) := by rw [HRU.out, if_pos (by omega)]
    rw [e]
    exact ⟨rfl, .inr ⟨by simp, rfl, HX.out⟩⟩
  obtain ⟨n1, HN1⟩ : ∃ n1 : Nat, Hid ((n1 : Int) = ahead row A 16) := ⟨(ahead row A 16).toNat, by have := (ahead_bound HBT.out A 16).1; show _ = _; omega⟩
  have hn1 : n1 < 65536 := by have := (ahead_bound HBT.out A 16).2; have := HN1.out; omega
  rw [← HN1.out]
  have HT2 := hide (htk h2 16 (by omega))
  clear h2 HT1
  go_wp2_with fail
  refine HT2.out.mono ?_
  rintro e w3 (⟨hp2, rfl, h3⟩ | ⟨hp2, rfl, h3⟩)
  case inr =>
    have HX := hide h3
    clear h3
    go_wp2
    have e : st1 row L p out = (80, p, out) := by rw [HRU.out, if_pos (by omega)]
    rw [e]
    exact ⟨rfl, .inr ⟨by simp, rfl, HX.out⟩⟩
  obtain ⟨n2, HN2⟩ : ∃ n2 : Nat, Hid ((n2 : Int) = ahead row (A + 16) 16) := ⟨(ahead row (A + 16) 16).toNat, by have := (ahead_bound HBT.out (A + 16) 16).1; show _ = _; omega⟩
  have hn2 : n2 < 65536 := by have := (ahead_bound HBT.out (A + 16) 16).2; have := HN2.out; omega
  rw [← HN2.out]
  have hA32 : A + 16 + 16 = A + 32 := by omega
  rw [hA32] at h3 hp2
  have HX3 := hide h3
  have HRM := hide (hroom h3 n1 (by omega))
  clear h3 HT2 hA32
  by_cases hs : (n1 : Int) + (n2 : Int) = 65535
  case neg =>
    have hs' : (((n1 : Int) + (n2 : Int)) != 65535) = true := by simpa using hs
    have HB := hide HX3.out.bel
    go_wp2_with fail
    refine (giveUp_any 82 _).mono ?_
    rintro e w4 ⟨rfl, rfl⟩
    go_wp2
    have e : st1 row L p out = (82, p, out) := by rw [HRU.out, if_neg (by omega), ← HN1.out, ← HN2.out, if_pos hs]
    rw [e]
    exact ⟨rfl, .inr ⟨by simp, rfl, HB.out⟩⟩
  have HRU2 : Hid (st1 row L p out = if L < out.length + n1 then (85, p, out) else if row.length < A + 32 + 8 * n1 then (80, p, out)
      else (0, A + 32 + 8 * n1, out ++ pack ((row.drop (A + 32)).take (8 * n1)))) := by
    show _ = _
    have e : (ahead row A 16).toNat = n1 := by have := HN1.out; omega
    rw [HRU.out, if_neg (by omega), if_neg (by rw [← HN1.out, ← HN2.out]; simpa using hs), e]
  go_wp2_with fail
  refine HRM.out.mono ?_
  rintro e w4 (⟨hrm, rfl, qd, rfl⟩ | ⟨hrm, rfl, h4⟩)
  case inr =>
    have HX := hide h4
    clear h4
    go_wp2
    have e : st1 row L p out = (85, p, out) := by rw [HRU2.out, if_pos hrm]
    rw [e]
    exact ⟨rfl, .inr ⟨by simp, rfl, HX.out⟩⟩
  obtain ⟨Kt2, Kr2, Ko2, a2, x2, fl2, fd2, HH2, hfx2, hoL2, hL2⟩ := HX3.out.below (below_drewN (Below.refl _ _) qd)
  obtain ⟨d0, d1, d2, d3, d4, d5⟩ := txO_cells (HH2.tbat 0 rfl)
  have HRW := hide (hrraw HH2 1 rfl n1)
  have HFX2 := hide hfx2
  obtain ⟨PE, HPE⟩ : ∃ PE, Hid (PE = rrawE row (A + 32) n1) := ⟨_, rfl⟩
  obtain ⟨PL, HPL⟩ : ∃ PL, Hid (PL = rrawL row (A + 32) n1) := ⟨_, rfl⟩
  obtain ⟨PP, HPP⟩ : ∃ PP, Hid (PP = rrawP row (A + 32) n1) := ⟨_, rfl⟩
  rw [← HPE.out, ← HPL.out, ← HPP.out] at HRW
  have HEE : Hid (PE = if (n1 : Int) ≤ ((row.length : Int) - ((A + 32 : Nat) : Int)) / 8 then 0 else 30) := by
    show _ = _
    rw [HPE.out]; unfold rrawE
    rw [if_neg (by omega), if_neg (by have := HA8.out; omega)]
  clear HH2 hfx2 HX3 HRM d1 d2 d3 d4 d5
  go_wp2_with fail
  refine HRW.out.mono ?_
  rintro e w5 ⟨a5, x5, K5, rfl, h5⟩
  by_cases hpe : PE = 0
  case neg =>
    have hpe' : (PE != 0) = true := by simpa using hpe
    have HX := hide h5.bel
    clear h5 d0
    go_wp2_with fail
    refine (giveUp_any 80 _).mono ?_
    rintro e w6 ⟨rfl, rfl⟩
    go_wp2
    have hlt : row.length < A + 32 + 8 * n1 := by
      rcases Nat.lt_or_ge row.length (A + 32 + 8 * n1) with h | h
      · exact h
      · exfalso; apply hpe; rw [HEE.out, if_pos (by omega)]
    have e : st1 row L p out = (80, p, out) := by rw [HRU2.out, if_neg (by omega), if_pos hlt]
    rw [e]
    exact ⟨rfl, .inr ⟨by simp, rfl, HX.out⟩⟩
  have hge : ¬ row.length < A + 32 + 8 * n1 := fun h => by
    have h1 := HEE.out
    rw [hpe, if_neg (by omega)] at h1
    cases h1
  have HR0 : Hid (rrawE row (A + 32) n1 = 0) := by show _ = _; rw [← HPE.out]; exact hpe
  have HPL2 : Hid (PL = pack ((row.drop (A + 32)).take (8 * n1))) := by show _ = _; rw [HPL.out]; unfold rrawL; rw [if_pos HR0.out]; simp
  have HPP2 : Hid (PP = A + 32 + 8 * n1) := by show _ = _; rw [HPP.out]; unfold rrawP; rw [if_pos HR0.out]; simp
  have HPN : Hid (PL.length = n1) := by
    show _ = _
    rw [HPL2.out, length_pack ((HBT.out.drop _).take _), List.length_take, List.length_drop]; omega
  subst hpe
  have h5f := h5.front
  simp only [List.set_cons_succ, List.set_cons_zero] at h5f
  have hob : OB w5 0 (.slice a2 out.length x2) out := (h5f.rep 2 _ rfl).1
  have hsb : SB w5 (.slice a5 PL.length x5) PL := h5.sb _ (get_last _ _)
  obtain ⟨f0, f1, f2, f3, f4, f5⟩ := txO_cells (h5f.tbat 0 rfl)
  have ffz := txO_free (h5f.tbat 0 rfl)
  have HOB := hide hob
  have HSR := hide hsb.src
  have HX5 := hide h5f
  have hb5 : out.length + PL.length ≤ 140737488355328 := by rw [HPN.out]; omega
  have HB5 := hide hb5
  have hgb : ∀ k, (Value.slice a2 out.length x2).ownBlock = some k → g ≠ k := fun k hk e => by
    have h0 : (tb g (txO r a2 out.length x2 L dn fl2 fd2)).P w5 Kt2 := h5f.rep 0 _ rfl
    have h2 : (tl (.slice a2 out.length x2) out).P w5 Ko2 := h5f.rep 2 _ rfl
    have := h5f.sep 0 2 _ _ rfl rfl (by decide) g h0.2.1
    rw [e] at this
    exact h2.2.1 k hk this
  have HGB := hide hgb
  have hgs : g < w5.heap.size := by
    have h0 : (tb g (txO r a2 out.length x2 L dn fl2 fd2)).P w5 Kt2 := h5f.rep 0 _ rfl
    exact h0.2.2 g h0.2.1
  have HG0 := hide (h5f.tbat 0 rfl)
  clear h5 h5f hob hsb d0 HRW hb5 hgb
  go_wp2_with (at_builtin; refine wpList_app rfl _ _ 22 rfl 0 _ _ out PL rfl HOB.out rfl HSR.out HB5.out (Nat.zero_le _) ?_)
  intro v6 w6 ho6 hg6
  obtain ⟨S, HS⟩ : ∃ S, Hid (S = out ++ PL) := ⟨_, rfl⟩
  rw [← HS.out] at ho6
  have hL6 : S.length ≤ L := by rw [HS.out, List.length_append, HPN.out]; omega
  obtain ⟨a6, c6, rfl⟩ := ho6.shape
  have HT6 := hide (tx_app HX5.out (Below.refl _ _) HFX2.out hL6 hL2 ho6 hg6)
  have hb6 : w6.heap[g]? = some (txO r a2 out.length x2 L dn fl2 fd2) := (hg6.by.block g hgs (fun e => HGB.out g e.symm rfl)).trans HG0.out
  have g1 := (txO_cells hb6).2.1
  have g2 := txO_free hb6
  clear f0 f1 f2 f3 f4 f5 ffz ho6 hg6 hb6
  go_wp2
  refine bodyPost_end (results_none rfl _ _ _) rfl ?_
  have e : st1 row L p out = (0, PP, S) := by rw [HRU2.out, if_neg (by omega), if_neg hge, HPP2.out, HS.out, HPL2.out]
  rw [e]
  exact .inl ⟨rfl, rfl, HT6.out⟩
end Go.Proofs.YtpmgnpfpnkmmbaaGreatDoor

namespace Go.Proofs.YtpmgnpfpnkmmbaaGreatDoor
open Go.RowKit Go.Maps
set_option maxRecDepth 20000
set_option linter.unusedVariables false

theorem TX.push {W w : World} {g r : Nat} {row : List Int} {p L : Nat} {out : List Int} {dn : Bool} {ys : List ((Nat → Nat) × Thing)} (H : TX W w g r row p L out dn ys) (o : Obj) : ∃ K, TX W (w.alloc o) g r row p L out dn (ys ++ [(K, tb w.heap.size o)]) := by
  obtain ⟨Kt, Kr, Ko, a, c, fl, fd, HH, hfx, hk⟩ := H
  obtain ⟨K, h⟩ := HH.box1 o
  exact ⟨K, Kt, Kr, Ko, a, c, fl, fd, h, hfx.app, hk⟩

theorem TX.box {W w : World} {g r : Nat} {row : List Int} {p L : Nat} {out : List Int} {dn : Bool} {ys zs : List ((Nat → Nat) × Thing)} {K : Nat → Nat} {b : Nat} {o : Obj} (H : TX W w g r row p L out dn (ys ++ (K, tb b o) :: zs)) : w.heap[b]? = some o := by
  obtain ⟨Kt, Kr, Ko, a, c, fl, fd, HH, hfx, hk⟩ := H
  exact HH.tbat _ (at_3 _ _ _ _ _ _)

theorem TX.at {W w : World} {g r : Nat} {row : List Int} {p L : Nat} {out : List Int} {dn : Bool} {ys : List ((Nat → Nat) × Thing)} (H : TX W w g r row p L out dn ys) : w.cell? ⟨r, 1, none⟩ = some (.int .i64 p) := by
  obtain ⟨Kt, Kr, Ko, a, c, fl, fd, HH, hfx, hk⟩ := H
  have hR : Rp w Kr r row p := HH.rep 1 _ rfl
  obtain ⟨v, d, h1, _⟩ := hR
  exact h1.cell 1

theorem TX.lit {W w w1 w6 : World} {g r : Nat} {row : List Int} {p L : Nat} {out : List Int} {dn : Bool} {ys : List ((Nat → Nat) × Thing)} (H : TX W w g r row p L out dn ys) : ∃ a c, w.cell? ⟨g, 1, none⟩ = some (.slice a out.length c) ∧ OB w 0 (.slice a out.length c) out ∧ out.length ≤ L ∧ L ≤ 16777216 ∧
    ∀ (w1 w6 : World) (v' : Value) (out' : List Int), Below w.heap.size w w1 → OB w6 0 v' out' → Grew w1 w6 (.slice a out.length c) v' → w6.cell? ⟨g, 1, none⟩ = some (.slice a out.length c) ∧ (∀ k, w6.frozen? ⟨g, k, none⟩ = false) ∧ (out'.length ≤ L → TX W (w6.setCell ⟨g, 1, none⟩ v') g r row p L out' dn ys) := by
  obtain ⟨Kt, Kr, Ko, a, c, fl, fd, HH, hfx, hoL, hL⟩ := H
  have h0 : (tb g (txO r a out.length c L dn fl fd)).P w Kt := HH.rep 0 _ rfl
  have h2 : (tl (.slice a out.length c) out).P w Ko := HH.rep 2 _ rfl
  refine ⟨a, c, (txO_cells h0.1).2.1, h2.1, hoL, hL, fun w1 w6 v' out' hb ho hg => ?_⟩
  have hgs := h0.2.2 g h0.2.1
  have e1 : w6.heap[g]? = w1.heap[g]? := hg.by.block g (Nat.lt_of_lt_of_le hgs hb.size) (fun e => by
    have := HH.sep 0 2 _ _ rfl rfl (by decide) g h0.2.1
    exact h2.2.1 g e.symm this)
  have e2 : w6.heap[g]? = some (txO r a out.length c L dn fl fd) := e1.trans ((hb.block g hgs).trans h0.1)
  exact ⟨(txO_cells e2).2.1, txO_free e2, fun hL' => tx_app HH hb hfx hL' hL ho hg⟩

theorem sy1_bad {l d row : List Int} {L p : Nat} {out : List Int} (h : syE l row p ≠ 0) : sy1 l d row L p out = (syE l row p, false, p, out) := by unfold sy1; rw [if_pos h]
theorem sy1_lit {l d row : List Int} {L p : Nat} {out : List Int} (h : syE l row p = 0) (hs : nxS l row p < 256) : sy1 l d row L p out = if L < out.length + 1 then (85, false, p, out) else (0, false, nxP l row p, out ++ [(nxS l row p : Int)]) := by
  unfold sy1; rw [if_neg (by simp [h]), if_pos hs]
theorem sy1_end {l d row : List Int} {L p : Nat} {out : List Int} (h : syE l row p = 0) (hs : nxS l row p = 256) : sy1 l d row L p out = (0, true, nxP l row p, out) := by
  unfold sy1; rw [if_neg (by simp [h]), if_neg (by omega), if_pos hs]
theorem sy1_copy {l d row : List Int} {L p : Nat} {out : List Int} (h : syE l row p = 0) (hs : 256 < nxS l row p) : sy1 l d row L p out =
  if lgE (nxS l row p) row (nxP l row p) ≠ 0 then (lgE (nxS l row p) row (nxP l row p), false, p, out)
  else if dtE d row (lgP (nxS l row p) (nxP l row p)) ≠ 0 then (dtE d row (lgP (nxS l row p) (nxP l row p)), false, p, out)
  else if agE L out (lgV (nxS l row p) row (nxP l row p)) (dtV d row (lgP (nxS l row p) (nxP l row p))) ≠ 0 then (agE L out (lgV (nxS l row p) row (nxP l row p)) (dtV d row (lgP (nxS l row p) (nxP l row p))), false, p, out)
  else (0, false, dtP d row (lgP (nxS l row p) (nxP l row p)), cpy (dtV d row (lgP (nxS l row p) (nxP l row p))) (lgV (nxS l row p) row (nxP l row p)) out) := by
  unfold sy1; rw [if_neg (by simp [h]), if_neg (by omega), if_neg (by omega)]

theorem lgV_le {row : List Int} (hb : Bit row) {s q : Nat} (hs : lgE s row q = 0) : lgV s row q ≤ 1000 := by
  have h285 : s ≤ 285 := by
    unfold lgE at hs
    by_cases c : 285 < s
    · rw [if_pos c] at hs; omega
    · omega
  have h1 := lnBle ⟨s, by omega⟩
  have h2 := ahead_le hb q (m := 5) (lnFle h285)
  have h3 := (ahead_bound hb q (lnF s)).1
  unfold lgV
  simp only at h1
  omega

theorem dtV_le {d row : List Int} (hb : Bit row) {q : Nat} (hs : dtE d row q = 0) : dtV d row q ≤ 40000 ∧ 0 < dtV d row q ∧ q < dtP d row q ∧ dtP d row q ≤ row.length := by
  unfold dtE at hs
  by_cases c0 : dcE d ≠ 0
  · rw [if_pos c0] at hs; omega
  rw [if_neg c0] at hs
  by_cases c1 : syE d row q ≠ 0
  · rw [if_pos c1] at hs; omega
  rw [if_neg c1] at hs
  by_cases c2 : 29 < nxS d row q
  · rw [if_pos c2] at hs; omega
  rw [if_neg c2] at hs
  by_cases c3 : row.length < nxP d row q + dsF (nxS d row q)
  · rw [if_pos c3] at hs; omega
  have hn := nx_lt (by omega : dcE d = 0) (sy_nx (by omega : syE d row q = 0))
  have h1 := dsBle ⟨nxS d row q, by omega⟩
  have h2 := ahead_le hb (nxP d row q) (m := 13) (dsFle (by omega : nxS d row q ≤ 29))
  have h3 := (ahead_bound hb (nxP d row q) (dsF (nxS d row q))).1
  unfold dtV dtP
  simp only at h1
  omega

set_option maxHeartbeats 4000000 in
/-- The symbols of a block. -/
theorem hsyms {W w : World} {g r : Nat} {row : List Int} {p L : Nat} {out : List Int} {dn : Bool} {ys : List ((Nat → Nat) × Thing)} (H : TX W w g r row p L out dn ys) {p1 p2 : Option Addr} {l d : List Int} (hc1 : Cd ys p1 l) (hc2 : Cd ys p2 d) (hl0 : dcE l = 0) (hl : l.length ≤ 288) (hd : d.length ≤ 32) :
    Calls Tryz.prog 35 #[.pointer (some ⟨g, 0, none⟩), .agg #[.pointer p1, .pointer p2]] w fun e w' => ∃ E q o, Sys l d row L p out E q o ∧ ((E = 0 ∧ e = .returned (.tuple #[]) ∧ ∃ zs, TX W w' g r row q L o dn (ys ++ zs)) ∨ (E ≠ 0 ∧ Off W E e w')) := by
  have HBT := hide H.rd.1
  obtain ⟨gl, il, Kl, rfl, hyl⟩ : ∃ (gl i : Nat) (K : Nat → Nat), p1 = some ⟨gl, 0, none⟩ ∧ ys[i]? = some (K, td gl l) := Cd.some hc1 hl0
  obtain ⟨KB, HB⟩ := H.push (cdO1 (some ⟨gl, 0, none⟩) p2)
  have HYL : Hid ((ys ++ [(KB, tb w.heap.size (cdO1 (some ⟨gl, 0, none⟩) p2))])[il]? = some (Kl, td gl l)) := get_app hyl
  have HC2 : Hid (Cd (ys ++ [(KB, tb w.heap.size (cdO1 (some ⟨gl, 0, none⟩) p2))]) p2 d) := hc2.app
  have HD0 := hide hl0
  obtain ⟨w0, HW0⟩ : ∃ w0, Hid (w.alloc (cdO1 (some ⟨gl, 0, none⟩) p2) = w0) := ⟨_, rfl⟩
  obtain ⟨B, HBB⟩ : ∃ B, Hid (w.heap.size = B) := ⟨_, rfl⟩
  rw [HW0.out, HBB.out] at HB
  rw [HBB.out] at HYL HC2
  have HTX := hide HB
  obtain ⟨ys', HYS⟩ : ∃ ys', Hid (ys ++ [(KB, tb B (cdO1 (some ⟨gl, 0, none⟩) p2))] = ys') := ⟨_, rfl⟩
  have HEND : Hid (∀ w' q o, TX W w' g r row q L o dn ys' → ∃ zs, TX W w' g r row q L o dn (ys ++ zs)) := fun w' q o h => ⟨_, by rw [HYS.out]; exact h⟩
  have HBOX : Hid (∀ w' q o, TX W w' g r row q L o dn ys' → w'.heap[B]? = some (cdO1 (some ⟨gl, 0, none⟩) p2)) := fun w' q o h => by rw [← HYS.out] at h; exact h.box
  rw [HYS.out] at HYL HC2 HTX
  clear H HB hc1 hc2 hyl hl0 HYS
  go_enter Tryz.func35, Tryz.ntmps35
  go_wp2
  rw [HW0.out, HBB.out]
  clear HW0 HBB
  go_loopw [4, 5] (fun v4 v5 wr => ∃ (p' : Nat) (o' : List Int), Hid (TX W wr g r row p' L o' dn ys') ∧ Hid (∀ E q o, Sys l d row L p' o' E q o → Sys l d row L p out E q o)) (fun _ _ wr => row.length - (intOf ((wr.cell? ⟨r, 1, none⟩).getD undef)).toNat)
  case atStart => exact ⟨p, out, HTX, fun _ _ _ h => h⟩
  case round =>
    obtain ⟨p', o', HX, HSY⟩ := hrel
    clear HTX
    have hms : (intOf ((wr.cell? ⟨r, 1, none⟩).getD undef)).toNat = p' := by rw [HX.out.at]; simp [intOf]
    have HMS := hide hms
    obtain ⟨k0, k1, k2⟩ := cd_cells (HBOX.out _ _ _ HX.out)
    have HS := hide (hsym HX.out il HYL.out)
    clear hms
    go_wp2_with fail
    refine HS.out.mono ?_
    rintro e w1 (⟨hs, rfl, h1⟩ | ⟨hs, rfl, h1⟩)
    case inr =>
      have HX1 := hide h1
      clear h1 k0 k1 k2
      obtain ⟨E, HE⟩ : ∃ E, Hid (E = syE l row p') := ⟨_, rfl⟩
      rw [← HE.out] at hs ⊢
      go_wp2
      have hs' : syE l row p' ≠ 0 := by rw [← HE.out]; exact hs
      have hS : Sys l d row L p' o' E p' o' := by rw [HE.out]; exact Sys.bad (sy1_bad hs') hs'
      exact ⟨rfl, E, p', o', HSY.out _ _ _ hS, .inr ⟨hs, rfl, HX1.out⟩⟩
    obtain ⟨n1, n2, n3⟩ := nx_lt HD0.out (sy_nx hs)
    have HSZ := hide hs
    obtain ⟨S, HSS⟩ : ∃ S : Nat, Hid (S = nxS l row p') := ⟨_, rfl⟩
    obtain ⟨P, HPP⟩ : ∃ P : Nat, Hid (P = nxP l row p') := ⟨_, rfl⟩
    rw [← HSS.out] at n1 ⊢
    rw [← HPP.out] at n2 n3 h1
    have HN2 := hide n2
    have HN3 := hide n3
    have HX1 := hide h1
    have hS : S < 288 := by omega
    obtain ⟨m0, m1, m2⟩ := cd_cells (HBOX.out _ _ _ h1)
    clear h1 hs n1 n2 n3 k0 k1 k2 HS
    rcases Nat.lt_trichotomy S 256 with c | c | c
    · have hc : (S : Int) < 256 := by omega
      have HL1 : Hid (sy1 l d row L p' o' = if L < o'.length + 1 then (85, false, p', o') else (0, false, P, o' ++ [(S : Int)])) := by
        show _ = _
        rw [sy1_lit HSZ.out (by rw [← HSS.out]; exact c), ← HSS.out, ← HPP.out]
      have HRM := hide (hroom HX1.out 1 (by omega))
      go_wp2_with fail
      refine HRM.out.mono ?_
      rintro e w2 (⟨hrm, rfl, qd, rfl⟩ | ⟨hrm, rfl, h2⟩)
      case inr =>
        have HX2 := hide h2
        clear h2 m0 m1 m2
        go_wp2
        have hS2 : Sys l d row L p' o' 85 p' o' := Sys.bad (by rw [HL1.out, if_pos hrm]) (by decide)
        exact ⟨rfl, 85, p', o', HSY.out _ _ _ hS2, .inr ⟨by decide, rfl, HX2.out⟩⟩
      have hx2 := HX1.out.below (below_drewN (Below.refl _ _) qd)
      obtain ⟨w2, hw2⟩ : ∃ w2, w1.drewN qd = w2 := ⟨_, rfl⟩
      rw [hw2] at hx2 ⊢
      obtain ⟨a, cc, t1, hob, hoL, hL, hgo⟩ := TX.lit (w1 := w) (w6 := w) hx2
      have HGO := hide hgo
      have hu8 : IntKind.u8.wrap (S : Int) = (S : Int) := by rw [IntKind.wrap_u8]; omega
      have HOB : Hid (OB (w2.alloc (.cells #[.int .u8 (S : Int)] 5)) 0 (.slice a o'.length cc) o') := hob.alloc _
      have HSR : Hid (Src Tryz.prog 1 22 (.slice (some ⟨w2.heap.size, 0, none⟩) 1 1) ([(S : Int)] : List Int).length (([(S : Int)] : List Int).map (Value.int .u8)) (w2.alloc (.cells #[.int .u8 (S : Int)] 5))) := built_src w2 [(S : Int)]
      have HLB : Hid (o'.length + ([(S : Int)] : List Int).length ≤ 140737488355328) := by show _ ≤ _; simp; omega
      have HHL := hide hrm
      clear hgo hob hx2 hw2 HRM m0 m1 m2 hoL hL hrm
      obtain ⟨N, HN⟩ : ∃ N, Hid (N = o'.length) := ⟨_, rfl⟩
      go_wp2_with (at_builtin; refine wpList_app rfl _ _ 22 rfl 0 _ _ o' [(S : Int)] rfl HOB.out rfl HSR.out HLB.out (Nat.zero_le _) ?_)
      intro v6 w6 ho6 hg6
      obtain ⟨o6, HO6⟩ : ∃ o6, Hid (o6 = o' ++ [(S : Int)]) := ⟨_, rfl⟩
      rw [← HO6.out] at ho6
      obtain ⟨a6, c6, rfl⟩ := ho6.shape
      obtain ⟨t2, t3, t4⟩ := HGO.out _ w6 _ o6 ((Below.refl _ _).alloc (Nat.le_refl _) _) ho6 hg6
      have HT6 := hide (t4 (by rw [HO6.out]; simp; exact HHL.out))
      clear ho6 hg6 t4 t1 hu8
      go_wp2
      go_roundw
      case rel => exact ⟨P, o6, HT6, fun E q o h => HSY.out _ _ _ (Sys.go (by rw [HL1.out, if_neg (by have := HHL.out; omega), ← HO6.out]) h)⟩
      case measure =>
        rw [HMS.out, HT6.out.at]
        simp [intOf]
        have := HN2.out
        have := HN3.out
        omega
    · have HF : Hid (Sys l d row L p' o' 0 P o') := Sys.fin (by rw [sy1_end HSZ.out (by rw [← HSS.out]; exact c), ← HPP.out])
      subst c
      clear m0 m1 m2
      go_wp2
      (try simp only [Exit.inBlock, Exit.then])
      refine bodyPost_ret (results_none rfl _ _ _) rfl ?_
      exact ⟨0, P, o', HSY.out _ _ _ HF.out, .inl ⟨rfl, rfl, HEND.out _ _ _ HX1.out⟩⟩
    · have hc1 : ¬ ((S : Int) < 256) := by omega
      have hc2 : (256 : Int) < (S : Int) := by omega
      have HL1 : Hid (sy1 l d row L p' o' = if lgE S row P ≠ 0 then (lgE S row P, false, p', o')
          else if dtE d row (lgP S P) ≠ 0 then (dtE d row (lgP S P), false, p', o')
          else if agE L o' (lgV S row P) (dtV d row (lgP S P)) ≠ 0 then (agE L o' (lgV S row P) (dtV d row (lgP S P)), false, p', o')
          else (0, false, dtP d row (lgP S P), cpy (dtV d row (lgP S P)) (lgV S row P) o')) := by
        show _ = _
        rw [sy1_copy HSZ.out (by rw [← HSS.out]; exact c), ← HSS.out, ← HPP.out]
      have HLG := hide (hlength HX1.out S (by omega) (by omega))
      go_wp2_with fail
      refine HLG.out.mono ?_
      rintro e w2 (⟨hlg, rfl, h2⟩ | ⟨hlg, rfl, h2⟩)
      case inr =>
        have HX2 := hide h2
        clear h2 m0 m1 m2
        obtain ⟨E, HE⟩ : ∃ E, Hid (E = lgE S row P) := ⟨_, rfl⟩
        have HSB : Hid (Sys l d row L p' o' E p' o') := by rw [HE.out]; exact Sys.bad (by rw [HL1.out, if_pos hlg]) hlg
        rw [← HE.out] at hlg ⊢
        go_wp2
        exact ⟨rfl, E, p', o', HSY.out _ _ _ HSB.out, .inr ⟨hlg, rfl, HX2.out⟩⟩
      obtain ⟨V, HV⟩ : ∃ V : Nat, Hid (V = lgV S row P) := ⟨_, rfl⟩
      have hV : V ≤ 1000 := by rw [HV.out]; exact lgV_le HBT.out hlg
      obtain ⟨Q1, HQ1⟩ : ∃ Q1 : Nat, Hid (Q1 = lgP S P) := ⟨_, rfl⟩
      have HL2 : Hid (sy1 l d row L p' o' = if dtE d row Q1 ≠ 0 then (dtE d row Q1, false, p', o')
          else if agE L o' V (dtV d row Q1) ≠ 0 then (agE L o' V (dtV d row Q1), false, p', o')
          else (0, false, dtP d row Q1, cpy (dtV d row Q1) V o')) := by
        show _ = _
        rw [HL1.out, if_neg (by simp [hlg]), ← HV.out, ← HQ1.out]
      have HQP : Hid (P ≤ Q1) := by show _ ≤ _; rw [HQ1.out]; unfold lgP; omega
      rw [← HV.out]
      rw [← HQ1.out] at h2
      obtain ⟨x0, x1, x2⟩ := cd_cells (HBOX.out _ _ _ h2)
      have HX2 := hide h2
      clear h2 m0 m1 m2 hlg HLG
      rcases HC2.out with ⟨rfl, hdz⟩ | ⟨gd, id, Kd, rfl, hyd⟩
      · have HDN := hide (hdist_no HX2.out hdz)
        go_wp2_with fail
        refine HDN.out.mono ?_
        rintro e w3 ⟨hdt, rfl, h3⟩
        have HX3 := hide h3
        clear h3 x0 x1 x2
        obtain ⟨E, HE⟩ : ∃ E, Hid (E = dtE d row Q1) := ⟨_, rfl⟩
        have HSB : Hid (Sys l d row L p' o' E p' o') := by rw [HE.out]; exact Sys.bad (by rw [HL2.out, if_pos hdt]) hdt
        rw [← HE.out] at hdt ⊢
        go_wp2
        exact ⟨rfl, E, p', o', HSY.out _ _ _ HSB.out, .inr ⟨hdt, rfl, HX3.out⟩⟩
      have HDN := hide (hdist HX2.out id hyd hd)
      go_wp2_with fail
      refine HDN.out.mono ?_
      rintro e w3 (⟨hdt, rfl, h3⟩ | ⟨hdt, rfl, h3⟩)
      case inr =>
        have HX3 := hide h3
        clear h3 x0 x1 x2
        obtain ⟨E, HE⟩ : ∃ E, Hid (E = dtE d row Q1) := ⟨_, rfl⟩
        have HSB : Hid (Sys l d row L p' o' E p' o') := by rw [HE.out]; exact Sys.bad (by rw [HL2.out, if_pos hdt]) hdt
        rw [← HE.out] at hdt ⊢
        go_wp2
        exact ⟨rfl, E, p', o', HSY.out _ _ _ HSB.out, .inr ⟨hdt, rfl, HX3.out⟩⟩
      obtain ⟨v1, v2, v3, v4⟩ := dtV_le HBT.out hdt
      obtain ⟨D, HDD⟩ : ∃ D : Nat, Hid (D = dtV d row Q1) := ⟨_, rfl⟩
      obtain ⟨Q2, HQ2⟩ : ∃ Q2 : Nat, Hid (Q2 = dtP d row Q1) := ⟨_, rfl⟩
      have HL3 : Hid (sy1 l d row L p' o' = if agE L o' V D ≠ 0 then (agE L o' V D, false, p', o') else (0, false, Q2, cpy D V o')) := by
        show _ = _
        rw [HL2.out, if_neg (by simp [hdt]), ← HDD.out, ← HQ2.out]
      rw [← HDD.out] at v1 v2 ⊢
      rw [← HQ2.out] at v3 v4 h3
      have HAG := hide (hagain h3 V D hV v2 v1)
      have HV3 := hide v3
      have HV4 := hide v4
      clear h3 x0 x1 x2 hdt HDN v3 v4
      go_wp2_with fail
      refine HAG.out.mono ?_
      rintro e w4 (⟨hag, rfl, h4⟩ | ⟨hag, rfl, h4⟩)
      case inr =>
        have HX4 := hide h4
        clear h4
        obtain ⟨E, HE⟩ : ∃ E, Hid (E = agE L o' V D) := ⟨_, rfl⟩
        have HSB : Hid (Sys l d row L p' o' E p' o') := by rw [HE.out]; exact Sys.bad (by rw [HL3.out, if_pos hag]) hag
        rw [← HE.out] at hag ⊢
        go_wp2
        exact ⟨rfl, E, p', o', HSY.out _ _ _ HSB.out, .inr ⟨hag, rfl, HX4.out⟩⟩
      have HT6 := hide h4
      have HAG0 := hide hag
      clear h4 hag HAG
      go_wp2
      go_roundw
      case rel => exact ⟨Q2, cpy D V o', HT6, fun E q o h => HSY.out _ _ _ (Sys.go (by rw [HL3.out, if_neg (by simp [HAG0.out])]) h)⟩
      case measure =>
        rw [HMS.out, HT6.out.at]
        simp [intOf]
        have := HN2.out
        have := HN3.out
        have := HQP.out
        have := HV3.out
        have := HV4.out
        omega
end Go.Proofs.YtpmgnpfpnkmmbaaGreatDoor

namespace Go.Proofs.YtpmgnpfpnkmmbaaGreatDoor
open Go.RowKit Go.Maps
set_option maxRecDepth 20000
set_option linter.unusedVariables false

theorem tr_le {C row : List Int} (p : Nat) : p ≤ trP C row p := by
  unfold trP nxP
  split <;> omega

theorem rl_le {C row : List Int} (want : Nat) : ∀ f acc p, p ≤ (rl C row want f acc p).2.2
  | 0, acc, p => by simp [rl]
  | f + 1, acc, p => by
    unfold rl
    by_cases c0 : acc.length < want
    · rw [if_pos c0]
      by_cases c1 : trE C row p ≠ 0
      · rw [if_pos c1]; exact Nat.le_refl _
      · rw [if_neg c1]
        by_cases c2 : nxS C row p = 16 ∧ acc = []
        · rw [if_pos c2]; exact Nat.le_refl _
        · rw [if_neg c2]
          by_cases c3 : (want : Int) < acc.length + trC C row p
          · rw [if_pos c3]; exact Nat.le_refl _
          · rw [if_neg c3]
            exact Nat.le_trans (tr_le p) (rl_le want f _ _)
    · rw [if_neg c0]; exact Nat.le_refl _

/-- A header takes some bits. -/
theorem rd_le {row : List Int} {p : Nat} (h : (rdA row p).1 = 0) : p ≤ (rdA row p).2.2.2 := by
  rcases rd_cases row p with ⟨q, _⟩ | ⟨_, h1, h2, ⟨a, q⟩, hx, hk, hr⟩
  · exact absurd h q
  simp only at hx hk hr
  have := rl_le (C := smC row (p + 14) (rcN row p)) (row := row) (rcL row p + rcD row p) (rcL row p + rcD row p) [] (p + 14 + 3 * rcN row p)
  rw [hx] at this
  rw [hr]
  simp only at this ⊢
  omega

/-- A symbol goes on. -/
theorem sy1_go {l d row : List Int} {L p : Nat} {out : List Int} {b : Bool} {q : Nat} {o : List Int} (hb : Bit row) (hl : dcE l = 0) (h : sy1 l d row L p out = (0, b, q, o)) : p < q ∧ q ≤ row.length ∧ out.length ≤ o.length ∧ o.length ≤ max L out.length := by
  by_cases c0 : syE l row p ≠ 0
  · rw [sy1_bad c0] at h
    injection h with h
    exact absurd h c0
  have c0' : syE l row p = 0 := by omega
  obtain ⟨n1, n2, n3⟩ := nx_lt hl (sy_nx c0')
  rcases Nat.lt_trichotomy (nxS l row p) 256 with c | c | c
  · rw [sy1_lit c0' c] at h
    by_cases c1 : L < out.length + 1
    · rw [if_pos c1] at h; injection h with h; cases h
    · rw [if_neg c1] at h
      injection h with _ h
      injection h with _ h
      injection h with h1 h2
      subst h1; subst h2
      simp
      omega
  · rw [sy1_end c0' c] at h
    injection h with _ h
    injection h with _ h
    injection h with h1 h2
    subst h1; subst h2
    omega
  · rw [sy1_copy c0' c] at h
    by_cases c1 : lgE (nxS l row p) row (nxP l row p) ≠ 0
    · rw [if_pos c1] at h; injection h with h; exact absurd h c1
    rw [if_neg c1] at h
    by_cases c2 : dtE d row (lgP (nxS l row p) (nxP l row p)) ≠ 0
    · rw [if_pos c2] at h; injection h with h; exact absurd h c2
    rw [if_neg c2] at h
    have hd := dtV_le hb (by omega : dtE d row (lgP (nxS l row p) (nxP l row p)) = 0)
    by_cases c3 : agE L out (lgV (nxS l row p) row (nxP l row p)) (dtV d row (lgP (nxS l row p) (nxP l row p))) ≠ 0
    · rw [if_pos c3] at h; injection h with h; exact absurd h c3
    rw [if_neg c3] at h
    injection h with _ h
    injection h with _ h
    injection h with h1 h2
    subst h1; subst h2
    have hg : nxP l row p ≤ lgP (nxS l row p) (nxP l row p) := by unfold lgP; omega
    have ha : out.length + lgV (nxS l row p) row (nxP l row p) ≤ L := by
      unfold agE at c3
      by_cases d1 : out.length < dtV d row (lgP (nxS l row p) (nxP l row p))
      · rw [if_pos d1] at c3; omega
      · rw [if_neg d1] at c3
        by_cases d2 : L < out.length + lgV (nxS l row p) row (nxP l row p)
        · rw [if_pos d2] at c3; omega
        · omega
    rw [cpy_len]
    omega

theorem Sys.lt {l d row : List Int} {L p : Nat} {out : List Int} {e : Int} {q : Nat} {o : List Int} (hb : Bit row) (hl : dcE l = 0) (h : Sys l d row L p out e q o) : (e = 0 → p < q ∧ q ≤ row.length ∧ out.length ≤ o.length ∧ o.length ≤ max L out.length) := by
  induction h with
  | bad h1 h2 => exact fun h => absurd h h2
  | fin h1 => exact fun _ => sy1_go hb hl h1
  | go h1 h2 ih =>
    intro he
    have a := sy1_go hb hl h1
    have b := ih he
    omega

theorem st1_lt {row : List Int} {L p : Nat} {out : List Int} {q : Nat} {o : List Int} (hb : Bit row) (h : st1 row L p out = (0, q, o)) : p < q ∧ q ≤ row.length ∧ out.length ≤ o.length ∧ o.length ≤ max L out.length := by
  unfold st1 at h
  by_cases c0 : row.length < algn p + 32
  · rw [if_pos c0] at h; injection h with h; cases h
  rw [if_neg c0] at h
  by_cases c1 : ahead row (algn p) 16 + ahead row (algn p + 16) 16 ≠ 65535
  · rw [if_pos c1] at h; injection h with h; cases h
  rw [if_neg c1] at h
  by_cases c2 : L < out.length + (ahead row (algn p) 16).toNat
  · rw [if_pos c2] at h; injection h with h; cases h
  rw [if_neg c2] at h
  by_cases c3 : row.length < algn p + 32 + 8 * (ahead row (algn p) 16).toNat
  · rw [if_pos c3] at h; injection h with h; cases h
  rw [if_neg c3] at h
  injection h with _ h
  injection h with h1 h2
  subst h1; subst h2
  have h3 : p ≤ algn p := by unfold algn; omega
  have h4 : (pack ((row.drop (algn p + 32)).take (8 * (ahead row (algn p) 16).toNat))).length = (ahead row (algn p) 16).toNat := by
    rw [length_pack ((hb.drop _).take _), List.length_take, List.length_drop]; omega
  rw [List.length_append, h4]
  omega

theorem Blk.lt {row : List Int} {L p : Nat} {out : List Int} {f : Bool} {k : Int} {q : Nat} {o : List Int} {e : Int} (hb : Bit row) (h : Blk row L p out e f k q o) (he : e = 0) : p < q ∧ q ≤ row.length ∧ out.length ≤ o.length ∧ o.length ≤ max L out.length := by
  cases h with
  | short h1 => cases he
  | three h1 h2 => cases he
  | stored h1 h2 h3 => subst he; have := st1_lt hb h3; omega
  | fixed h1 h2 h3 => have := h3.lt hb fl_ok he; omega
  | head h1 h2 h3 => exact absurd he h3
  | dyn h1 h2 h3 h4 =>
    have := h4.lt hb (rd_good hb h3).1 he
    have := rd_le h3
    omega
end Go.Proofs.YtpmgnpfpnkmmbaaGreatDoor

namespace Go.Proofs.YtpmgnpfpnkmmbaaGreatDoor
open Go.RowKit Go.Maps
set_option maxRecDepth 20000

end Go.Proofs.YtpmgnpfpnkmmbaaGreatDoor

