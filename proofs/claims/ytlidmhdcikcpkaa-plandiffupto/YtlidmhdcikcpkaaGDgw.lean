import Derived.Test.YtlidmhdcikcpkaaGDgn
import Derived.Test.YtlidmhdcikcpkaaGDga
namespace Go.Proofs.Ytlidmhdcikcpkaa
open Go.RowKit Go.Maps
set_option maxRecDepth 20000
set_option linter.unusedVariables false
set_option linter.unusedSimpArgs false

instance (O N : List Int) (p : Nat) : Decidable (chg O N p) := inferInstanceAs (Decidable (N.getD p 0 ≠ O.getD p 0))

theorem differs_any (vo vn : Value) (O N : List Int) (p : Nat) (w : World) (ho : SB w vo O) (hn : SB w vn N) (hp : p < N.length) :
    Calls Try.prog 18 #[vo, vn, .int .i64 (p : Int)] w fun e w' => e = .returned (.bool (decide (chg O N p))) ∧ ∃ n, w' = w.drewN n := by
  have HO := hide ho
  obtain ⟨oa, oc, rfl, o1, o2, -⟩ := ho.open11
  obtain ⟨na, nc, rfl, n1, n2, -⟩ := hn.open11
  obtain ⟨nb, no, rfl, hc⟩ := hn.byte (Below.refl _ _) hp
  have hp' : (p : Int) < (N.length : Int) := by omega
  have HE : Hid (decide (chg O N p) = (O.getD p 0 != N.getD p 0)) := by
    show decide (N.getD p 0 ≠ O.getD p 0) = _
    by_cases h : N.getD p 0 = O.getD p 0
    · rw [decide_eq_false (fun q => q h), ← h]; exact (bne_self_eq_false _).symm
    · rw [decide_eq_true h]; exact (bne_iff_ne.2 (fun q => h q.symm)).symm
  rw [HE.out]
  clear HE
  obtain ⟨x, hx⟩ : ∃ x, x = N.getD p 0 := ⟨_, rfl⟩
  rw [← hx] at hc ⊢
  clear ho hn hx
  by_cases hq : p < O.length
  · have hq' : (p : Int) < (O.length : Int) := by omega
    obtain ⟨ob, oo, rfl, hd⟩ := HO.out.byte (Below.refl _ _) hq
    obtain ⟨y, hy⟩ : ∃ y, y = O.getD p 0 := ⟨_, rfl⟩
    rw [← hy] at hd ⊢
    clear hy
    go_enter Try.func18, Try.ntmps18
    go_wp2
    go_quiet (fail)
    go_wp2
    go_ret
    exact ⟨rfl, _, rfl⟩
  · have hq' : ¬ (p : Int) < (O.length : Int) := by omega
    have e : O.getD p 0 = 0 := by simp only [List.getD, List.getElem?_eq_none (Nat.le_of_not_lt hq)]; rfl
    rw [e]
    clear e
    have e : ((0 : Int) != x) = (x != 0) := by
      by_cases h : x = 0
      · subst h; rfl
      · rw [bne_iff_ne.2 h, bne_iff_ne.2 (fun q => h q.symm)]
    rw [e]
    clear e
    go_enter Try.func18, Try.ntmps18
    go_wp2
    go_ret
    exact ⟨rfl, 0, rfl⟩

theorem wrs_sml {N : List Int} {S : List Sp} {R : List We} (h : prs R = wrs N S) (hi : ∀ s ∈ S, s.1 < s.2 ∧ s.2 ≤ N.length) (hl : R.length ≤ 1048576) (hN : N.length ≤ 1048576) : sml R ∧ ∀ e ∈ R, -9223372036854775808 ≤ e.at' ∧ e.at' ≤ 9223372036854775807 := by
  have key : ∀ e ∈ R, 0 ≤ e.at' ∧ e.at' ≤ 1048576 ∧ e.l.length ≤ 1048576 := fun e he => by
    have hm : (e.at', e.l) ∈ prs R := List.mem_map.2 ⟨e, he, rfl⟩
    rw [h] at hm
    obtain ⟨s, hs, hp⟩ := List.mem_map.1 hm
    have h1 := hi s hs
    have h2 := prt_len (N := N) (s := s) (by omega) h1.2
    rw [hp] at h2
    simp only [prt, Prod.mk.injEq] at hp
    simp only at h2
    omega
  exact ⟨⟨by omega, fun e he => by have := (key e he).2.2; omega⟩, fun e he => by have := key e he; omega⟩

set_option maxHeartbeats 32000000 in
theorem diff_walk (vo vn : Value) (O N : List Int) (w : World) (ho : SB w vo O) (hn : SB w vn N) (hO : O.length ≤ 1048576) (hl : N.length ≤ 1048576) :
    Calls Try.prog 6 #[vo, vn] w fun e w' => e = .returned (.bool true) ∧ Below w.heap.size w w' := by
  have HO := hide ho
  have HN := hide hn
  have HC1 := hide (copied_any vo O w ho (by omega))
  have HC2 := hide (fun w1 (hb : Below w.heap.size w w1) => copied_any vn N w1 (hn.below hb) (by omega))
  obtain ⟨oa, oc, rfl, o1, o2, -⟩ := ho.open11
  obtain ⟨na, nc, rfl, n1, n2, -⟩ := hn.open11
  clear ho hn
  go_enter Try.func6, Try.ntmps6
  go_wp2_with fail
  refine HC1.out.mono ?_
  rintro e w1 ⟨a1, c1, rfl, ho1, hb1⟩
  have HA1 := hide ho1
  have HB1 := hide hb1
  clear ho1 hb1 HC1
  go_wp2_with fail
  refine (HC2.out w1 HB1.out).mono ?_
  rintro e w2 ⟨a2, c2, rfl, ho2, hb2⟩
  have HA2 := hide ho2
  have HB2 := hide (HB1.out.trans (hb2.mono HB1.out.size))
  have HA1b := hide (HA1.out.below hb2 (Nat.le_refl _))
  clear ho2 hb2 HC2 HA1
  go_wp2_with fail
  refine (pDiff_any _ _ O N w2 HA1b.out.sb HA2.out.sb hl).mono ?_
  rintro e w3 ⟨v3, R, rfl, hp3, how3, hb3⟩
  have HB3 := hide (HB2.out.trans (hb3.mono HB2.out.size))
  have HP := hide hp3
  have HW := hide how3.sw
  have HRL : Hid (R.length = (chS O N N.length).length) := by have h1 := congrArg List.length hp3; rw [prs, wrs, List.length_map, List.length_map] at h1; exact h1
  have hRl : R.length ≤ 1048576 := by have h1 := ch_len O N N.length; have h2 := HRL.out; omega
  obtain ⟨ra, rc, rfl, r1, r2⟩ := how3.sw.open
  clear hb3 hp3 how3 HA1b HA2 HB1 HB2
  go_wp2
  go_loopw [6, 7, 8, 9, 10, 11] (fun t i _ _ _ _ wr => ∃ (j E : Nat), t = .int .i64 (E : Int) ∧ i = .int .i64 (j : Int) ∧ j ≤ R.length ∧ E ≤ N.length ∧ Hid (E = bnd 0 (chS O N N.length) j) ∧ Hid (Below w3.heap.size w3 wr)) (fun _ i _ _ _ _ _ => R.length - (intOf i).toNat)
  case atStart => exact ⟨0, 0, rfl, rfl, Nat.zero_le _, Nat.zero_le _, (by show 0 = bnd 0 _ 0; cases chS O N N.length <;> rfl), Below.refl _ _⟩
  case round =>
    obtain ⟨j, E, rfl, rfl, hj, hE, HE, HB⟩ := hrel
    by_cases hlt : j < R.length
    · have hlt' : (j : Int) < (R.length : Int) := by omega
      have hjS : j < (chS O N N.length).length := by have h1 := HRL.out; omega
      obtain ⟨b0, o0, a', c', hla, hbl, hdv, g0, g1, hsb, k1, k2⟩ := (HW.out.low HB.out).row hlt
      have hpe := prs_elem HP.out hjS
      have hmem : (chS O N N.length).getD j (0, 0) ∈ chS O N N.length := by simp [List.getD, hjS]
      have hin := ch_in _ hmem
      have HINN := hide ((ch_cov O N N.length).2 _ hmem)
      have hhi := (bnd_high _ 0 0 j (ch_ok O N N.length).1 (Nat.le_refl _) hjS).1
      have HGAP : Hid (∀ p, E ≤ p → p < ((chS O N N.length).getD j (0, 0)).1 → ¬ chg O N p) := fun p q1 q2 => ch_gap hjS (by rw [← HE.out]; exact q1) q2
      have HBN : Hid (bnd 0 (chS O N N.length) (j + 1) = ((chS O N N.length).getD j (0, 0)).2) := bnd_step _ 0 j hjS
      rw [← HE.out] at hhi
      obtain ⟨s, hs⟩ : ∃ s, s = (chS O N N.length).getD j (0, 0) := ⟨_, rfl⟩
      rw [← hs] at hpe hin HINN hhi HGAP HBN
      obtain ⟨A, Z⟩ := s
      simp only at hpe hin hhi HGAP HBN
      obtain ⟨-, e1, e2⟩ := hpe
      have e3 : (R.getD j we0).l.length = Z - A := by rw [e2]; exact prt_len (s := (A, Z)) (by simp only; omega) hin.2
      rw [e1] at g0
      rw [e3] at g1 hsb k1
      obtain ⟨D, hD⟩ : ∃ D, D = Z - A := ⟨_, rfl⟩
      rw [← hD] at g1 hsb k1
      have HDT : Hid (∀ W, Below wr.heap.size wr W → ∀ p, A ≤ p → p < Z → ∃ b o, a' = some ⟨b, o, none⟩ ∧ W.cell? ⟨b, o + (p - A), none⟩ = some (.int .u8 (N.getD p 0))) := fun W hW p q1 q2 => by
        have hsb' : SB wr (.slice a' (R.getD j we0).l.length c') (R.getD j we0).l := by rw [e3, ← hD]; exact hsb
        obtain ⟨b, o, q3, q4⟩ := hsb'.byte hW (k := p - A) (by rw [e3]; omega)
        rw [e2, part_get q1 q2] at q4
        exact ⟨b, o, q3, q4⟩
      subst hla
      have HBa : Hid (Below w3.heap.size w3 (wr.alloc (.cells #[.int .i64 (A : Int), .slice a' D c'] 41))) := HB.out.alloc HB.out.size _
      have HBr : Hid (Below wr.heap.size wr (wr.alloc (.cells #[.int .i64 (A : Int), .slice a' D c'] 41))) := (Below.refl _ _).alloc (Nat.le_refl _) _
      obtain ⟨w5, hw5⟩ : ∃ y, wr.alloc (.cells #[.int .i64 (A : Int), .slice a' D c'] 41) = y := ⟨_, rfl⟩
      have hbx : w5.heap[wr.heap.size]? = some (.cells #[.int .i64 (A : Int), .slice a' D c'] 41) := by rw [← hw5]; exact heap_alloc_new _ _
      rw [hw5] at HBa HBr
      have q0 := boxC hbx 0 rfl
      have q1 := boxC hbx 1 rfl
      have HQ : Hid (∀ n, (w5.drewN n).cell? ⟨wr.heap.size, 0, none⟩ = some (.int .i64 (A : Int)) ∧ (w5.drewN n).cell? ⟨wr.heap.size, 1, none⟩ = some (.slice a' D c')) := fun n => ⟨q0, q1⟩
      have hDz : (A : Int) + (D : Int) = (Z : Int) := by omega
      have hD0 : ((D : Int) == 0) = false := by simp; omega
      have hA1 : ¬ (A : Int) < (E : Int) := by omega
      have hA2 : decide ((0 : Int) < (j : Int) ∧ (A : Int) < (E : Int) + 9) = false := decide_eq_false (fun q => by have := hhi.2 (by omega); omega)
      have hA3 : ¬ (N.length : Int) < (D : Int) := by omega
      have hA4 : ¬ (N.length : Int) - (D : Int) < (A : Int) := by omega
      have hDN : D ≤ N.length := by omega
      have hkw : j = 0 ∨ ¬ (A : Int) < (E : Int) + 9 := by
        by_cases h : j = 0
        · exact .inl h
        · exact .inr (by have := hhi.2 (by omega); omega)
      have HDIF : Hid (∀ n p, p < N.length → Calls Try.prog 18 #[.slice oa O.length oc, .slice na N.length nc, .int .i64 (p : Int)] (w5.drewN n) fun e w' => e = .returned (.bool (decide (chg O N p))) ∧ ∃ n', w' = w5.drewN n') := fun n p hp => by
        have hb : Below w.heap.size w (w5.drewN n) := below_drewN (HB3.out.trans (HBa.out.mono HB3.out.size)) n
        exact (differs_any _ _ O N p _ (HO.out.below hb) (HN.out.below hb) hp).mono fun e w' ⟨x1, n', x2⟩ => ⟨x1, n + n', by rw [x2]; simp [World.drewN, Nat.add_assoc]⟩
      have HNC : Hid (∀ p, p < N.length → ∃ b o, na = some ⟨b, o, none⟩ ∧ w5.cell? ⟨b, o + p, none⟩ = some (.int .u8 (N.getD p 0))) := fun p hp => HN.out.byte (HB3.out.trans (HBa.out.mono HB3.out.size)) hp
      have HDC : Hid (∀ p, A ≤ p → p < Z → ∃ b o, a' = some ⟨b, o, none⟩ ∧ w5.cell? ⟨b, o + (p - A), none⟩ = some (.int .u8 (N.getD p 0))) := fun p h1 h2 => HDT.out _ HBr.out p h1 h2
      have hcase : ¬ (0 : Int) < (j : Int) ∨ ((0 : Int) < (j : Int) ∧ ¬ (A : Int) < (E : Int) + 9) := by
        rcases hkw with h | h
        · exact .inl (by omega)
        · by_cases h0 : (0 : Int) < (j : Int)
          · exact .inr ⟨h0, h⟩
          · exact .inl h0
      obtain ⟨nb, no, hna⟩ : ∃ nb no, na = some ⟨nb, no, none⟩ := by obtain ⟨b, o, h, _⟩ := HNC.out A (by omega); exact ⟨b, o, h⟩
      subst hna
      obtain ⟨db, do', hda⟩ : ∃ nb no, a' = some ⟨nb, no, none⟩ := by obtain ⟨b, o, h, _⟩ := HDC.out A (Nat.le_refl _) (by omega); exact ⟨b, o, h⟩
      subst hda
      have hAZ : A < Z := hin.1
      have hZN : Z ≤ N.length := hin.2
      have HDD := hide hD
      have HDZ := hide hDz
      clear hs hbx hdv hsb e1 e2 e3 HDT hmem hjS hhi hbl hkw hA2 hin hD hDz
      rcases hcase with hc1 | ⟨hc1, hc2⟩
      all_goals
        go_wp2
        go_loopw [9] (fun i wr => ∃ (p n : Nat), i = .int .i64 (p : Int) ∧ (E ≤ p ∧ p ≤ A) ∧ wr = w5.drewN n) (fun i _ => A - (intOf i).toNat)
        case atStart => exact ⟨E, 0, rfl, ⟨Nat.le_refl _, by omega⟩, rfl⟩
        case round =>
          obtain ⟨p, n, rfl, ⟨hp0, hp1⟩, rfl⟩ := hrel
          by_cases hpA : p < A
          · have hpA' : (p : Int) < (A : Int) := by omega
            have HD9 := hide (HDIF.out n p (by omega))
            rw [decide_eq_false (HGAP.out p hp0 hpA)] at HD9
            go_wp2_with fail
            refine HD9.out.mono ?_
            rintro e w6 ⟨rfl, n6, h6⟩
            rw [h6]
            clear h6 w6
            go_wp2
            go_roundw
            case rel => exact ⟨p + 1, n6, by go_num, ⟨by omega, by omega⟩, rfl⟩
            case measure => simp [intOf]; omega
          · have hpA' : ¬ (p : Int) < (A : Int) := by omega
            have hdz := HDZ.out
            go_wp2
            go_loopw [10, 11] (fun st i wr => ∃ (p t n : Nat), st = .int .i64 (t : Int) ∧ i = .int .i64 (p : Int) ∧ (A ≤ p ∧ p ≤ Z ∧ t ≤ 1048576) ∧ Hid (Stl O N A p t) ∧ wr = w5.drewN n) (fun _ i _ => Z - (intOf i).toNat)
            case atStart => exact ⟨A, 9, n, rfl, rfl, ⟨Nat.le_refl _, by omega, by omega⟩, .inl ⟨rfl, rfl⟩, rfl⟩
            case round =>
              obtain ⟨p, t, n, rfl, rfl, ⟨hq0, hq1, ht⟩, HST, rfl⟩ := hrel
              by_cases hpZ : p < Z
              · have hpZ' : (p : Int) < (Z : Int) := by omega
                obtain ⟨b9, o9, h9, y0⟩ := HNC.out p (by omega)
                simp only [Option.some.injEq, Addr.mk.injEq] at h9
                obtain ⟨rfl, rfl, -⟩ := h9
                obtain ⟨b9, o9, h9, y1⟩ := HDC.out p hq0 hpZ
                simp only [Option.some.injEq, Addr.mk.injEq] at h9
                obtain ⟨rfl, rfl, -⟩ := h9
                obtain ⟨x, hx⟩ : ∃ x, x = N.getD p 0 := ⟨_, rfl⟩
                rw [← hx] at y0 y1
                obtain ⟨I, hI⟩ : ∃ I, I = p - A := ⟨_, rfl⟩
                have hI1 : (p : Int) - (A : Int) = (I : Int) := by omega
                rw [← hI] at y1
                have hI2 : (I : Int) < (D : Int) := by have := HDD.out; omega
                have hI3 : I < D := by have := HDD.out; omega
                have hpN : (p : Int) < (N.length : Int) := by omega
                have HD9 := hide (fun n => HDIF.out n p (by omega))
                clear hx hI
                by_cases hch : chg O N p
                · have HS2 : Hid (Stl O N A (p + 1) 0) := stl_yes hq0 hch
                  rw [decide_eq_true hch] at HD9
                  clear hch
                  go_wp2
                  go_quiet (fail)
                  go_wp2_with fail
                  refine (HD9.out _).mono ?_
                  rintro e w6 ⟨rfl, n6, h6⟩
                  rw [h6]
                  clear h6 w6
                  go_wp2
                  go_roundw
                  case rel => exact ⟨p + 1, 0, n6, rfl, by go_num, ⟨by omega, by omega, by omega⟩, HS2.out, rfl⟩
                  case measure => simp [intOf]; omega
                · obtain ⟨h1, h2⟩ := stl_no HINN.out hq0 hpZ HST.out hch
                  have HS2 := hide h1
                  have h3 : ¬ (8 : Int) < (t : Int) + 1 := by omega
                  rw [decide_eq_false hch] at HD9
                  clear hch h1
                  go_wp2
                  go_quiet (fail)
                  go_wp2_with fail
                  refine (HD9.out _).mono ?_
                  rintro e w6 ⟨rfl, n6, h6⟩
                  rw [h6]
                  clear h6 w6
                  go_wp2
                  go_roundw
                  case rel => exact ⟨p + 1, t + 1, n6, by go_num, by go_num, ⟨by omega, by omega, by omega⟩, HS2.out, rfl⟩
                  case measure => simp [intOf]; omega
              · have hpZ' : ¬ (p : Int) < (Z : Int) := by omega
                obtain rfl : p = Z := by omega
                have ht0 : t = 0 := stl_end (s := (A, p)) HINN.out hAZ HST.out
                subst ht0
                have HBf : Hid (Below w3.heap.size w3 (w5.drewN n)) := below_drewN HBa.out n
                go_wp2
                go_roundw
                case rel => exact ⟨j + 1, p, rfl, by go_num, by omega, by omega, HBN.out.symm, HBf.out⟩
                case measure => simp [intOf]; omega
    · have hlt' : ¬ (j : Int) < (R.length : Int) := by omega
      obtain rfl : j = R.length := by omega
      have HEN : Hid (∀ p, E ≤ p → p < N.length → ¬ chg O N p) := fun p h1 h2 => ch_end (by rw [← HRL.out, ← HE.out]; exact h1) h2
      have HBw := hide (HB3.out.trans (HB.out.mono HB3.out.size))
      go_wp2
      go_loopw [12] (fun i w9 => ∃ (p n : Nat), i = .int .i64 (p : Int) ∧ (E ≤ p ∧ p ≤ N.length) ∧ w9 = wr.drewN n) (fun i _ => N.length - (intOf i).toNat)
      case atStart => exact ⟨E, 0, rfl, ⟨Nat.le_refl _, hE⟩, rfl⟩
      case round =>
        obtain ⟨p, n, rfl, ⟨hp0, hp1⟩, h9⟩ := hrel
        have HBd : Hid (Below w.heap.size w wr) := by rw [h9]; exact below_drewN HBw.out n
        by_cases hpN : p < N.length
        · have hpN' : (p : Int) < (N.length : Int) := by omega
          have HD9 := hide (differs_any _ _ O N p wr (HO.out.below HBd.out) (HN.out.below HBd.out) hpN)
          rw [decide_eq_false (HEN.out p hp0 hpN)] at HD9
          have H9 := hide h9
          clear h9
          go_wp2_with fail
          refine HD9.out.mono ?_
          rintro e w6 ⟨rfl, n6, h6⟩
          rw [H9.out] at h6
          rw [h6]
          clear h6 w6
          go_wp2
          go_roundw
          case rel => exact ⟨p + 1, n + n6, by go_num, ⟨by omega, by omega⟩, by simp [World.drewN, Nat.add_assoc]⟩
          case measure => simp [intOf]; omega
        · have hpN' : ¬ (p : Int) < (N.length : Int) := by omega
          have HW2 : Hid (SW wr (.slice ra R.length rc) R) := by show SW _ _ _; rw [h9]; exact HW.out.low (below_drewN HB.out n)
          have hsm := wrs_sml HP.out (fun s hs => ch_in s hs) hRl hl
          have hap := apply_any _ _ O R (N.length : Int) wr (HO.out.below HBd.out) (by omega) HW2.out hsm.1 hsm.2
          have hdn := ap_done HP.out (by omega) (by omega)
          rw [hdn.1, hdn.2] at hap
          have HAP := hide hap
          clear hap hdn hsm h9
          have hz1 : ¬ (16777216 : Int) < (O.length : Int) := by omega
          have hz2 : ¬ (16777216 : Int) < (N.length : Int) := by omega
          go_wp2_with fail
          refine HAP.out.mono ?_
          rintro e w6 ⟨v6, rfl, ho6, hb6⟩
          have HB6 := hide (HBd.out.trans (hb6.mono HBd.out.size))
          have HS6 := hide ho6.sb
          clear ho6 hb6 HAP
          go_wp2_with fail
          refine (same_any v6 _ N N w6 HS6.out (HN.out.below HB6.out)).mono ?_
          rw [show eqB N N = true by simp [eqB]]
          rintro e w7 ⟨rfl, n7, h7⟩
          have HB7 : Hid (Below w.heap.size w w7) := by rw [h7]; exact below_drewN HB6.out n7
          clear h7
          have HPD := hide (pDiff_any _ _ N N w7 (HN.out.below HB7.out) (HN.out.below HB7.out) hl)
          rw [ch_self] at HPD
          go_wp2_with fail
          refine HPD.out.mono ?_
          rintro e w8 ⟨v8, R8, rfl, hp8, how8, hb8⟩
          obtain rfl : R8 = [] := List.eq_nil_of_length_eq_zero (by have := congrArg List.length hp8; simpa [prs, wrs] using this)
          obtain ⟨a8, c8, hv8, -, -⟩ := how8.sw.open
          simp only [List.length_nil] at hv8
          subst hv8
          have HB8 := hide (HB7.out.trans (hb8.mono HB7.out.size))
          clear hp8 how8 hb8 HPD
          have HAG := hide (again_any _ _ O N w8 (HO.out.below HB8.out) (HN.out.below HB8.out) hO hl)
          go_wp2_with fail
          refine HAG.out.mono ?_
          rintro e w9 ⟨rfl, hb9⟩
          have HB9 := hide (HB8.out.trans (hb9.mono HB8.out.size))
          clear hb9
          go_wp2
          go_ret
          exact ⟨rfl, HB9.out⟩
end Go.Proofs.Ytlidmhdcikcpkaa

