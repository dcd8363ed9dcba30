import Derived.Test.YtiabhmdefaabgabDoorGRhu
namespace Go.Proofs.YtiabhmdefaabgabDoor
open Go.RowKit Go.Maps
set_option maxRecDepth 20000
set_option linter.unusedVariables false

theorem smC_len19 (row : List Int) (p : Nat) : ∀ n, (smC row p n).length = 19
  | 0 => by simp [smC]
  | n + 1 => by simp [smC, smC_len19 row p n]

set_option maxHeartbeats 4000000 in
theorem hsmall {W w : World} {xs : List ((Nat → Nat) × Thing)} (H : Herd W w xs) (i : Nat) {K : Nat → Nat} {g : Nat} {row : List Int} {p : Nat} (hi : xs[i]? = some (K, tr g row p)) (n : Nat) (hn : n ≤ 19) (O : Odr W) :
    Calls Tryd.prog 42 #[.pointer (some ⟨g, 0, none⟩), .int .i64 n] w fun e w' => (smE row p n ≠ 0 ∧ e = .returned (.tuple #[.pointer none, .int .i64 (smE row p n)]) ∧ ∃ q, Herd W w' (xs.set i (K, tr g row q))) ∨ (smE row p n = 0 ∧ ∃ gd Kd, e = .returned (.tuple #[.pointer (some ⟨gd, 0, none⟩), .int .i64 0]) ∧ Herd W w' (xs.set i (K, tr g row (p + 3 * n)) ++ [(Kd, td gd (smC row p n))])) := by
  have hR : Rp w K g row p := H.rep i _ hi
  have hpl := hR.le.1
  have HBT := hide hR.bit
  have HLOW := hide H.low
  have hsz := H.bel.size
  have HI := hide hi
  have HO := hide O
  have HH := hide H
  clear H hi hR O
  go_enter Tryd.func42, Tryd.ntmps42
  go_wp2_with (at_make; refine wpList_mkI rfl _ _ rfl _ _ _ _ 19 19 rfl rfl rfl rfl (Nat.le_refl _) (by omega) ?_)
  intro w1 hg1 hb1
  have ho1 : OI w1 w.heap.size (.slice (some ⟨w.heap.size, 0, none⟩) 19 19) (smC row p 0) := OI.of_full (l := List.replicate 19 0) (by rw [hg1]; rfl) (Nat.le_refl _) (by unfold maxLen; simp)
  obtain ⟨Kc, hc0⟩ := (HH.out.below hb1).tibs HLOW.out hsz ho1
  have HX0 : Hid (Herd W w1 (xs.set i (K, tr g row (p + 3 * 0)) ++ [(Kc, tib w.heap.size (.slice (some ⟨w.heap.size, 0, none⟩) 19 19) (smC row p 0))])) := by
    have := hc0.same (get_front HI.out)
    rw [setf HI.out] at this
    exact hide this
  clear hg1 hb1 ho1 hc0
  go_wp2
  go_loopw [16] (fun x wr => ∃ (k : Nat) (Kc : Nat → Nat), k ≤ n ∧ x = .int .i64 k ∧ p + 3 * k ≤ row.length ∧ Hid (Herd W wr (xs.set i (K, tr g row (p + 3 * k)) ++ [(Kc, tib w.heap.size (.slice (some ⟨w.heap.size, 0, none⟩) 19 19) (smC row p k))]))) (fun x _ => n - (intOf x).toNat)
  case atStart => exact ⟨0, Kc, Nat.zero_le _, rfl, hpl, HX0⟩
  case round =>
    obtain ⟨k, Kc, hk, rfl, hkl, HX⟩ := hrel
    by_cases hlt : k < n
    · have hlt' : (k : Int) < (n : Int) := by omega
      have HTK := hide (htake HX.out i (get_front (getset HI.out)) 3)
      rw [setf (getset HI.out), List.set_set] at HTK
      have hab := ahead_bound HBT.out (p + 3 * k) 3
      go_wp2_with fail
      refine HTK.out.mono ?_
      rintro e w2 ⟨rfl, h2⟩
      have HX2 := hide h2
      by_cases hl : row.length < p + 3 * k + 3
      · have HF : Hid (smE row p n = 70) := by show _ = _; unfold smE; rw [if_pos (by omega)]
        have e30 : takeE row (p + 3 * k) 3 = 30 := by unfold takeE; rw [if_pos ⟨by omega, by omega⟩, if_neg (by omega)]
        rw [e30]
        clear h2 hab
        go_wp2
        go_ret2
        refine .inl ⟨by rw [HF.out]; decide, by rw [HF.out]; rfl, _, HX2.out.front⟩
      · obtain ⟨t1, t2, t3⟩ := take_ok (takeOk_of (row := row) (p := p + 3 * k) (n := 3) (by omega) (by omega))
        have t1' : takeE row (p + 3 * k) 3 = 0 := t1
        have t2' : takeV row (p + 3 * k) 3 = ahead row (p + 3 * k) 3 := t2
        have t3' : takeP row (p + 3 * k) 3 = p + 3 * (k + 1) := t3.trans (by omega)
        rw [t1', t2']
        rw [t3'] at HX2
        have o1 := (HO.out.mono h2.bel).get k (by omega)
        have o2 := zor_at k (by omega)
        have HST : Hid (smC row p (k + 1) = (smC row p k).set (zor.getD k 0).toNat (ahead row (p + 3 * k) 3)) := rfl
        obtain ⟨V, HV⟩ : ∃ V, Hid (V = ahead row (p + 3 * k) 3) := ⟨_, rfl⟩
        rw [← HV.out] at hab HST ⊢
        have hv1 := hab.1
        have hv2 : V < 8 := hab.2
        obtain ⟨z', hz⟩ : ∃ z', z' = zor.getD k 0 := ⟨_, rfl⟩
        rw [← hz] at o1 o2 HST
        obtain ⟨z, rfl⟩ := Int.eq_ofNat_of_zero_le o2.1
        rw [Int.toNat_natCast] at HST
        have hz19 : (z : Int) < 19 := o2.2
        have hk19 : (k : Int) < 19 := by omega
        obtain ⟨⟨u, hu⟩, hfz, hput⟩ := HX2.out.tibput (k := z) (by rw [smC_len19]; omega) V
        rw [← HST.out] at hput
        have HP := hide hput
        clear h2 hab t1 t2 t3 t1' t2' t3' hz o2 hput HTK
        go_wp2
        go_roundw
        case rel => exact ⟨k + 1, Kc, by omega, by go_num, by omega, HP⟩
        case measure => simp [intOf]; omega
    · obtain rfl : k = n := by omega
      have hlt' : ¬ (k : Int) < (k : Int) := by omega
      have hsi := (HX.out.tibo _ (get_last _ _)).sb
      have HCK := hide (check_any _ (smC row p k) _ hsi)
      clear hsi
      go_wp2_with fail
      refine HCK.out.mono ?_
      rintro e w2 ⟨rfl, hb2⟩
      have HX2 := hide (HX.out.below hb2)
      have HSE : Hid (smE row p k = if chkS (smC row p k) ≠ 4 then 72 else 0) := by show _ = _; unfold smE; rw [if_neg (by omega)]
      obtain ⟨S, HS⟩ : ∃ S, Hid (S = chkS (smC row p k)) := ⟨_, rfl⟩
      rw [← HS.out] at HSE ⊢
      clear hb2
      by_cases s4 : S = 4
      · subst s4
        have HF : Hid (smE row p k = 0) := by show _ = _; rw [HSE.out]; rfl
        have hdc : dcE (smC row p k) = 0 := by
          have hS := HS.out
          unfold chkS at hS
          by_cases q : Lens (smC row p k)
          · rw [if_pos q] at hS
            refine (dcE_iff _).2 ⟨?_, .inr hS.symm⟩
            unfold chkE
            rw [if_neg (by have := q.1; omega), if_pos q]
          · rw [if_neg q] at hS; omega
        have HDC := hide hdc
        have HND := hide (hdecode HX2.out _ (smC row p k) (HX2.out.tibo _ (get_last _ _)).sb)
        clear hdc
        go_wp2_with fail
        refine HND.out.mono ?_
        rintro e w3 (⟨hne, _⟩ | ⟨_, gd, Kd, rfl, h3⟩)
        · exact absurd HDC.out hne
        have HX3 := hide h3.mid
        clear h3
        go_wp2
        go_ret2
        exact .inr ⟨HF.out, gd, Kd, rfl, HX3.out⟩
      · have s4' : (S != 4) = true := by simpa using s4
        have HF : Hid (smE row p k = 72) := by show _ = _; rw [HSE.out, if_pos s4]
        go_wp2
        go_ret2
        exact .inl ⟨by rw [HF.out]; decide, by rw [HF.out]; rfl, _, HX2.out.front⟩
end Go.Proofs.YtiabhmdefaabgabDoor

