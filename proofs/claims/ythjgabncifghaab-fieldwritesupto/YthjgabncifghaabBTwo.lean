import Derived.Test.YthjgabncifghaabBStep
namespace Go.Proofs.Ythjgabncifghaab
open Go.RowKit Go.Maps
set_option maxRecDepth 20000

structure BOp where
  kind : Int
  n : Int
  at' : Int
  s : ByteArray

/-- The script of a buffer. -/
def BSc (w : World) (v : Value) (ops : List BOp) : Prop :=
  ∃ ao cap, v = .slice ao ops.length cap ∧ ops.length ≤ cap ∧ cap ≤ maxLen ∧ ∀ (i : Nat) (o : BOp), ops[i]? = some o → ∃ b of, ao = some ⟨b, of, none⟩ ∧ w.cell? ⟨b, of + i * 4, none⟩ = some (.int .i64 o.kind) ∧ w.cell? ⟨b, of + i * 4 + 1, none⟩ = some (.int .i64 o.n) ∧ w.cell? ⟨b, of + i * 4 + 2, none⟩ = some (.int .i64 o.at') ∧ w.cell? ⟨b, of + i * 4 + 3, none⟩ = some (.string o.s)

def BOk (ops : List BOp) : Prop := ∀ o ∈ ops, -9223372036854775808 ≤ o.n ∧ o.n ≤ 9223372036854775807 ∧ o.s.size ≤ 1048576

theorem Herd.nil (W : World) : Herd W W [] := ⟨Below.refl _ _, (fun i d hd => by simp at hd), (fun i d hd => by simp at hd), (fun i j d e hd => by simp at hd)⟩

theorem eqB_self (l : List Int) : eqB l l = true := by simp [eqB]

/-- So long at most behind k calls. -/
def Short (s : BSt) (k : Nat) : Prop := s.l.length ≤ 1048580 * k

theorem Short.le {s : BSt} {k : Nat} (h : Short s k) (hk : k ≤ 1048576) : s.l.length ≤ 100000000000000 := by
  unfold Short at h
  omega

theorem Short.step {s s' : BSt} {k : Nat} (h : Short s k) (h' : s'.l.length ≤ s.l.length + 1048580) : Short s' (k + 1) := by
  unfold Short at h ⊢
  omega

theorem Short.more {s : BSt} {k : Nat} (h : Short s k) : Short s (k + 1) := by
  unfold Short at h ⊢
  omega

set_option maxHeartbeats 1000000 in
theorem two_walk (vo : Value) (ops : List BOp) (one two : Int) (w : World) (h1 : one ≤ 9223372036854775807) (h2 : two ≤ 9223372036854775807) (ho : BSc w vo ops) (hB : BOk ops) (hn : ops.length ≤ 1048576) :
    Calls Try.prog 5 #[.int .i64 one, .int .i64 two, vo] w fun e w' => e = .returned (.bool true) ∧ Below w.heap.size w w' := by
  obtain ⟨ao, cap, rfl, hoc, hom, hops⟩ := ho
  unfold maxLen at hom
  have HOPS := hide hops
  have HB := hide hB
  clear hops hB
  go_enter Try.func5, Try.ntmps5
  go_wp2_with fail
  refine (newBuffer_any one h1 w).mono ?_
  rintro e w1 ⟨g, K1, rfl, hb1, hu1, hbel1⟩
  have HH1 : Hid (Herd w w1 [(K1, g, .b (newSt one))]) := (Herd.nil w).push hbel1 hb1 hu1
  clear hb1 hu1 hbel1
  go_wp2_with fail
  refine (newBuffer_any two h2 w1).mono ?_
  rintro e w2 ⟨gc, K2, rfl, hb2, hu2, hbel2⟩
  have HH2 : Hid (Herd w w2 [(K1, g, .b (newSt one)), (K2, gc, .b (newSt two))]) := HH1.out.push hbel2 hb2 hu2
  clear hb2 hu2 hbel2
  go_wp2_with fail
  refine (rnewBuffer_any one h1 w2).mono ?_
  rintro e w3 ⟨r, K3, rfl, hb3, hu3, hbel3⟩
  have HH3 : Hid (Herd w w3 [(K1, g, .b (newSt one)), (K2, gc, .b (newSt two)), (K3, r, .r (rnewSt one))]) := HH2.out.push hbel3 hb3 hu3
  clear hb3 hu3 hbel3
  go_wp2_with fail
  refine (rnewBuffer_any two h2 w3).mono ?_
  rintro e w4 ⟨rs, K4, rfl, hb4, hu4, hbel4⟩
  have HH4 : Hid (Herd w w4 [(K1, g, .b (newSt one)), (K2, gc, .b (newSt two)), (K3, r, .r (rnewSt one)), (K4, rs, .r (rnewSt two))]) := HH3.out.push hbel4 hb4 hu4
  have HL0 : Hid ((newSt one).l.length = 0 ∧ (newSt two).l.length = 0) := by
    refine ⟨?_, ?_⟩ <;> (unfold newSt; split <;> rfl)
  clear hb4 hu4 hbel4 HH1 HH2 HH3
  go_wp2
  go_loopw [11] (fun i wr => ∃ k : Nat, k ≤ ops.length ∧ i = .int .i64 k ∧ Hid (∃ K1 K2 K3 K4 s1 s2 s3 s4, Herd w wr [(K1, g, .b s1), (K2, gc, .b s2), (K3, r, .r s3), (K4, rs, .r s4)] ∧ Eqv s1 s3 ∧ Eqv s2 s4 ∧ Short s1 k ∧ Short s2 k)) (fun i _ => ops.length - (intOf i).toNat)
  case atStart => exact ⟨0, Nat.zero_le _, rfl, K1, K2, K3, K4, _, _, _, _, HH4.out, eqv_new one, eqv_new two, by unfold Short; rw [HL0.out.1]; exact Nat.zero_le _, by unfold Short; rw [HL0.out.2]; exact Nat.zero_le _⟩
  case round =>
    clear HH4 HL0
    obtain ⟨k, hk, rfl, HQ⟩ := hrel
    obtain ⟨K1, K2, K3, K4, s1, s2, s3, s4, hH, hE1, hE2, hl1, hl2⟩ := HQ.out
    have HH := hide hH
    have HE1 := hide hE1
    have HE2 := hide hE2
    have HL1 := hide hl1
    have HL2 := hide hl2
    clear HQ hH hE1 hE2 hl1 hl2
    by_cases hlt : k < ops.length
    · obtain ⟨o, hoo⟩ : ∃ o, ops[k]? = some o := ⟨ops[k], by simp [hlt]⟩
      obtain ⟨b, of, hab, hc0, hc1, hc2, hc3⟩ := HOPS.out k o hoo
      obtain ⟨hk1, hk2, hk3⟩ := HB.out o (List.mem_of_getElem? hoo)
      subst hab
      have q0 : wr.cell? ⟨b, of + k * 4, none⟩ = some (.int .i64 o.kind) := (HH.out.bel.cell (World.block_lt_of_cell? _ _ hc0)).trans hc0
      have q1 : wr.cell? ⟨b, of + k * 4 + 1, none⟩ = some (.int .i64 o.n) := (HH.out.bel.cell (World.block_lt_of_cell? _ _ hc1)).trans hc1
      have q2 : wr.cell? ⟨b, of + k * 4 + 2, none⟩ = some (.int .i64 o.at') := (HH.out.bel.cell (World.block_lt_of_cell? _ _ hc2)).trans hc2
      have q3 : wr.cell? ⟨b, of + k * 4 + 3, none⟩ = some (.string o.s) := (HH.out.bel.cell (World.block_lt_of_cell? _ _ hc3)).trans hc3
      clear hc0 hc1 hc2 hc3 hoo
      by_cases hpar : k % 2 = 0
      · have hpar' : (k : Int) % 2 = 0 := by omega
        go_wp2_with fail
        refine (bufStep_any 0 2 HH.out rfl rfl (by decide) HE1.out o.kind o.n o.at' o.s hk1 hk2 hk3 (HL1.out.le (by omega))).mono ?_
        rintro e wq ⟨rfl, K1', K3', s1', s3', hH', hE', hl'⟩
        have HF : Hid (∃ K1 K2 K3 K4 s1 s2 s3 s4, Herd w wq [(K1, g, .b s1), (K2, gc, .b s2), (K3, r, .r s3), (K4, rs, .r s4)] ∧ Eqv s1 s3 ∧ Eqv s2 s4 ∧ Short s1 (k + 1) ∧ Short s2 (k + 1)) :=
          ⟨K1', K2, K3', K4, s1', s2, s3', s4, hH', hE', HE2.out, HL1.out.step hl', HL2.out.more⟩
        clear hH' hE' hl'
        go_wp2
        go_roundw
        case rel => exact ⟨k + 1, by omega, by go_num, HF.out⟩
        case measure => simp [intOf]; omega
      · have hpar' : (k : Int) % 2 = 1 := by omega
        go_wp2_with fail
        refine (bufStep_any 1 3 HH.out rfl rfl (by decide) HE2.out o.kind o.n o.at' o.s hk1 hk2 hk3 (HL2.out.le (by omega))).mono ?_
        rintro e wq ⟨rfl, K2', K4', s2', s4', hH', hE', hl'⟩
        have HF : Hid (∃ K1 K2 K3 K4 s1 s2 s3 s4, Herd w wq [(K1, g, .b s1), (K2, gc, .b s2), (K3, r, .r s3), (K4, rs, .r s4)] ∧ Eqv s1 s3 ∧ Eqv s2 s4 ∧ Short s1 (k + 1) ∧ Short s2 (k + 1)) :=
          ⟨K1, K2', K3, K4', s1, s2', s3, s4', hH', HE1.out, hE', HL1.out.more, HL2.out.step hl'⟩
        clear hH' hE' hl'
        go_wp2
        go_roundw
        case rel => exact ⟨k + 1, by omega, by go_num, HF.out⟩
        case measure => simp [intOf]; omega
    · obtain ⟨u1, HU1⟩ : ∃ u, Hid (BuV true wr K1 g u s1) := HH.out.rep 0 _ rfl
      have hlm1 : s1.l.length ≤ 140737488351232 := Nat.le_trans (HL1.out.le (by omega)) (by omega)
      have hlm2 : s2.l.length ≤ 140737488351232 := Nat.le_trans (HL2.out.le (by omega)) (by omega)
      have hlm3 : s3.l.length ≤ 140737488351232 := by rw [← HE1.out.l]; exact hlm1
      have hlm4 : s4.l.length ≤ 140737488351232 := by rw [← HE2.out.l]; exact hlm2
      obtain ⟨t1, HT1⟩ : ∃ t, Hid (t = if s1.e = 0 then s1.l else []) := ⟨_, rfl⟩
      obtain ⟨t2, HT2⟩ : ∃ t, Hid (t = if s2.e = 0 then s2.l else []) := ⟨_, rfl⟩
      have HT3 : Hid (t1 = if s3.e = 0 then s3.l else []) := by show _ = _; rw [HT1.out, HE1.out.l, HE1.out.e]
      have HT4 : Hid (t2 = if s4.e = 0 then s4.l else []) := by show _ = _; rw [HT2.out, HE2.out.l, HE2.out.e]
      go_wp2_with fail
      refine (btake_any HU1.out hlm1 t1 HT1.out).mono ?_
      rintro e w5 ⟨a5, c5, rfl, ho5, hb5⟩
      have HH5 := hide (HH.out.below hb5)
      have HO5 := hide ho5
      obtain ⟨u2, HU2⟩ : ∃ u, Hid (BuV true w5 K2 gc u s2) := HH5.out.rep 1 _ rfl
      clear ho5 hb5
      go_wp2_with fail
      refine (btake_any HU2.out hlm2 t2 HT2.out).mono ?_
      rintro e w6 ⟨a6, c6, rfl, ho6, hb6⟩
      have HH6 := hide (HH5.out.below hb6)
      have HO5b := hide (HO5.out.below hb6 (Nat.le_refl _))
      have HO6 := hide ho6
      obtain ⟨u3, HU3⟩ : ∃ u, Hid (BuV false w6 K3 r u s3) := HH6.out.rep 2 _ rfl
      clear ho6 hb6
      go_wp2_with fail
      refine (rbtake_any HU3.out hlm3 t1 HT3.out).mono ?_
      rintro e w7 ⟨a7, c7, rfl, ho7, hb7⟩
      have HH7 := hide (HH6.out.below hb7)
      have HO5c := hide (HO5b.out.below hb7 (Nat.le_refl _))
      have HO6c := hide (HO6.out.below hb7 (Nat.le_refl _))
      have HO7 := hide ho7
      clear ho7 hb7
      go_wp2_with fail
      refine (same_any _ _ t1 t1 _ HO5c.out.sb HO7.out.sb).mono ?_
      rintro e w8 ⟨rfl, n8, hw8⟩
      rw [eqB_self]
      have hb8 : Below w7.heap.size w7 w8 := by rw [hw8]; exact below_drewN (Below.refl _ _) _
      have HH8 := hide (HH7.out.below hb8)
      have HO6d := hide (HO6c.out.below hb8 (Nat.le_refl _))
      clear hb8 hw8
      obtain ⟨v1, HV1⟩ : ∃ u, Hid (BuV true w8 K1 g u s1) := HH8.out.rep 0 _ rfl
      obtain ⟨v3, HV3⟩ : ∃ u, Hid (BuV false w8 K3 r u s3) := HH8.out.rep 2 _ rfl
      obtain ⟨v2, HV2⟩ : ∃ u, Hid (BuV true w8 K2 gc u s2) := HH8.out.rep 1 _ rfl
      have el1 : s3.l.length = s1.l.length := by rw [HE1.out.l]
      have ee1 : s3.e = s1.e := HE1.out.e.symm
      have el2 : s4.l.length = s2.l.length := by rw [HE2.out.l]
      have ee2 : s4.e = s2.e := HE2.out.e.symm
      go_wp2_with fail
      refine (blen_any HV1.out).mono ?_
      rintro e w' ⟨rfl, hw⟩
      subst hw
      go_wp2_with fail
      refine (rblen_any HV3.out).mono ?_
      rintro e w' ⟨rfl, hw⟩
      subst hw
      go_wp2_with fail
      refine (berr_any HV1.out).mono ?_
      rintro e w' ⟨rfl, hw⟩
      subst hw
      go_wp2_with fail
      refine (num_any _ _).mono ?_
      rintro e w' ⟨rfl, hw⟩
      subst hw
      go_wp2_with fail
      refine (rberr_any HV3.out).mono ?_
      rintro e w' ⟨rfl, hw⟩
      subst hw
      obtain ⟨v4, HV4⟩ : ∃ u, Hid (BuV false w' K4 rs u s4) := HH8.out.rep 3 _ rfl
      go_wp2_with fail
      refine (rbtake_any HV4.out hlm4 t2 HT4.out).mono ?_
      rintro e w9 ⟨a9, c9, rfl, ho9, hb9⟩
      have HH9 := hide (HH8.out.below hb9)
      have HO6e := hide (HO6d.out.below hb9 (Nat.le_refl _))
      have HO9 := hide ho9
      clear ho9 hb9
      go_wp2_with fail
      refine (same_any _ _ t2 t2 _ HO6e.out.sb HO9.out.sb).mono ?_
      rintro e wA ⟨rfl, nA, hwA⟩
      rw [eqB_self]
      have hbA : Below w9.heap.size w9 wA := by rw [hwA]; exact below_drewN (Below.refl _ _) _
      have HHA := hide (HH9.out.below hbA)
      clear hbA hwA
      obtain ⟨y2, HY2⟩ : ∃ u, Hid (BuV true wA K2 gc u s2) := HHA.out.rep 1 _ rfl
      obtain ⟨y4, HY4⟩ : ∃ u, Hid (BuV false wA K4 rs u s4) := HHA.out.rep 3 _ rfl
      go_wp2_with fail
      refine (blen_any HY2.out).mono ?_
      rintro e w' ⟨rfl, hw⟩
      subst hw
      go_wp2_with fail
      refine (rblen_any HY4.out).mono ?_
      rintro e w' ⟨rfl, hw⟩
      subst hw
      go_wp2_with fail
      refine (berr_any HY2.out).mono ?_
      rintro e w' ⟨rfl, hw⟩
      subst hw
      go_wp2_with fail
      refine (num_any _ _).mono ?_
      rintro e w' ⟨rfl, hw⟩
      subst hw
      go_wp2_with fail
      refine (rberr_any HY4.out).mono ?_
      rintro e w' ⟨rfl, hw⟩
      subst hw
      go_wp2
      go_ret
      exact ⟨rfl, HHA.out.bel⟩
end Go.Proofs.Ythjgabncifghaab
