import Derived.Test.YtgengoffkoonfabJhp
namespace Go.Proofs.Ytgengoffkoonfab
open Go.RowKit Go.Maps
set_option maxRecDepth 20000
set_option linter.unusedVariables false

/-- The state of the joining, so many joinings done. -/
structure Jrd (w wr : World) (n : Nat) (F : Nat → Nat) (h t : Nat) : Prop where
  ex : ∃ K R Z H, Jst w wr K R (n + t) Z ∧ OI wr w.heap.size (.slice (some ⟨h, 0, none⟩) (2 * n - 2) (2 * n - 2)) (hls (2 * n - 2) H) ∧ K h = 0 ∧ w.heap.size ≤ h ∧ h < wr.heap.size ∧ Znum Z (n + t) ∧ Z.length = n - t ∧ zsum Z ≤ 1236950581248 ∧ hids (n - 1 - t) Z (n + t) H = F

theorem pushK {w wr w' : World} {K K' : Nat → Nat} {h : Nat} (hf : H4.Fr K K' wr w') (hh : h < wr.heap.size) (h0 : K h = 0) : K' h = 0 := by rw [hf.role h hh]; exact h0

theorem oiFr {w wr w' : World} {K K' : Nat → Nat} {h n c base : Nat} {l : List Int} (hf : H4.Fr K K' wr w') (ho : OI wr base (.slice (some ⟨h, 0, none⟩) n c) l) (hh : h < wr.heap.size) (h0 : K h = 0) : OI w' base (.slice (some ⟨h, 0, none⟩) n c) l :=
  ho.move fun k hk => by
    simp only [Value.ownBlock, Option.some.injEq] at hk
    subst hk
    exact hf.block _ hh h0

set_option maxHeartbeats 1000000 in
theorem hold_any (v : Value) (l : List Int) (Z0 : List Znd) (w : World) (h : SI w v l) (hz : l = Z0.map fun z => (z.1.1 : Int)) (hid : Z0.map (·.2) = List.range Z0.length) (h2 : 2 ≤ Z0.length) (hN : Z0.length ≤ 288) (hs : zsum Z0 ≤ 1236950581248) :
    Calls Try.prog 41 #[v] w fun e w' => ∃ a c, e = .returned (.slice a (2 * Z0.length - 2) c) ∧ OI w' w.heap.size (.slice a (2 * Z0.length - 2) c) (hls (2 * Z0.length - 2) (hids (Z0.length - 1) Z0 Z0.length fun _ => 0)) ∧ Below w.heap.size w w' := by
  have HS := hide h
  have hl : l.length = Z0.length := by rw [hz]; simp
  obtain ⟨ao, cap, rfl, hlc, hcm⟩ := h.open
  have HZ : Hid (∀ k, k < Z0.length → l.getD k 0 = ((Z0.getD k (nod0, 0)).1.1 : Int) ∧ (Z0.getD k (nod0, 0)).2 = k ∧ Z0.take (k + 1) = Z0.take k ++ [Z0.getD k (nod0, 0)]) := fun k hk => by
    refine ⟨?_, ?_, ?_⟩
    · rw [hz]; simp [hk]
    · have := congrArg (fun l => l[k]?) hid
      simp only [List.getElem?_map, List.getElem?_eq_getElem hk, Option.map_some, List.getElem?_range hk, Option.some.injEq] at this
      rw [show Z0.getD k (nod0, 0) = Z0[k] by simp [hk]]
      exact this
    · rw [List.take_succ_eq_append_getElem hk, show Z0.getD k (nod0, 0) = Z0[k] by simp [hk]]
  have HNUM : Hid (Znum Z0 Z0.length) := ⟨by rw [hid]; exact List.nodup_range, fun z hz' => by
    have : z.2 ∈ Z0.map (·.2) := List.mem_map_of_mem hz'
    rw [hid] at this
    exact List.mem_range.1 this⟩
  rw [hl] at HS hlc ⊢
  have HSI : Hid (SI w (.slice ao l.length cap) l) := by rw [hl]; exact HS.out
  have HL := hide hl
  have HSUM := hide hs
  clear hz hid h hl HS hs
  obtain ⟨F, HF⟩ : ∃ F, Hid (F = hids (Z0.length - 1) Z0 Z0.length fun _ => 0) := ⟨_, rfl⟩
  rw [← HF.out]
  obtain ⟨n, HNN⟩ : ∃ n, Hid (n = Z0.length) := ⟨_, rfl⟩
  rw [← HNN.out] at HF HNUM h2 hN hlc ⊢
  have HL' : Hid (l.length = n) := HL.out.trans HNN.out.symm
  clear HL
  go_enter Try.func41, Try.ntmps41
  go_wp2_with fail
  refine (H4.new_any w).mono ?_
  rintro e w1 ⟨rfl, hw1⟩
  obtain ⟨K1, hj1⟩ := Jst.start w _ (show Obj.cells #[.slice none 0 0, .int .i64 0] 123 = _ from rfl)
  rw [← hw1] at hj1
  have HJ1 := hide hj1
  clear hw1 hj1
  go_wp2
  go_loopw [17] (fun i wr => ∃ k : Nat, k ≤ n ∧ i = .int .i64 k ∧ Hid (∃ K R, Jst w wr K R k (Z0.take k))) (fun i _ => n - (intOf i).toNat)
  case atStart => exact ⟨0, Nat.zero_le _, rfl, K1, [], HJ1.out⟩
  case round =>
    obtain ⟨k, hk, rfl, HJ⟩ := hrel
    by_cases hlt : k < n
    · have hlt' : (k : Int) < (n : Int) := by omega
      obtain ⟨K, R, hj⟩ := HJ.out
      obtain ⟨z1, z2, z3⟩ := HZ.out k (by rw [← HNN.out]; exact hlt)
      obtain ⟨b, o, rfl, hc⟩ := HSI.out.get hj.b (k := k) (by rw [HL'.out]; exact hlt)
      rw [z1] at hc
      obtain ⟨z, HZZ⟩ : ∃ z, Hid (z = Z0.getD k (nod0, 0)) := ⟨_, rfl⟩
      rw [← HZZ.out] at hc z2 z3
      have hRl : R.length ≤ k := by rw [hj.z.len, List.length_take]; exact Nat.min_le_left _ _
      have HJJ := hide hj
      have HT := hide z3
      have HE2 := hide z2
      clear z1 z2 z3 hj HJ
      go_wp2_with fail
      refine (H4.push_any HJJ.out.q _ _ (by omega) (by omega)).mono ?_
      rintro e w2 ⟨rfl, K', hq', hf'⟩
      have HN : Hid (∃ K R, Jst w w2 K R (k + 1) (Z0.take (k + 1))) := by
        refine ⟨K', _, HJJ.out.fr hq' ?_ hf'⟩
        have := HJJ.out.z.push (k : Int) z.1 k
        rw [HT.out]
        have e : z = (z.1, k) := by rw [← HE2.out]
        rw [e]
        exact this
      clear hq' hf'
      go_wp2
      go_roundw
      case rel => exact ⟨k + 1, by omega, by go_num, HN⟩
      case measure => simp [intOf]; omega
    · obtain rfl : k = n := by omega
      have hlt' : ¬ (k : Int) < (k : Int) := by omega
      have HJ2 : Hid (∃ K R, Jst w wr K R k Z0) := by have := HJ.out; rwa [List.take_of_length_le (by rw [← HNN.out]; exact Nat.le_refl _)] at this
      clear HJ
      have e1 : IntKind.i64.wrap (2 * (k : Int)) = 2 * (k : Int) := by rw [IntKind.wrap_i64]; omega
      have e2 : IntKind.i64.wrap (2 * (k : Int) - 2) = ((2 * k - 2 : Nat) : Int) := by rw [IntKind.wrap_i64]; omega
      obtain ⟨K, R, hj⟩ := HJ2.out
      have HJJ := hide hj
      have hwr := hj.b.size
      clear hj HJ2
      go_wp2_with (at_make; refine wpList_mkI rfl _ _ rfl _ _ _ _ (2 * k - 2) (2 * k - 2) rfl rfl (by first | rfl | omega) (by first | rfl | omega) (Nat.le_refl _) (by omega) ?_)
      intro w2 hg hb2
      have HO2 := hide (mk_oi hg (by omega))
      have HB2 := hide hb2
      have hK0 : K wr.heap.size = 0 := by
        apply Classical.byContradiction
        intro c
        have := HJJ.out.q.sup _ c
        omega
      have HR0 : Hid (Jrd w w2 k F wr.heap.size 0) := by
        refine ⟨K, R, Z0, fun _ => 0, ?_, ?_, hK0, hwr, ?_, ?_, ?_, HSUM.out, ?_⟩
        · exact HJJ.out.far hb2.size (fun k hk => hb2.block k (HJJ.out.q.sup k hk)) (HJJ.out.b.trans (hb2.mono hwr))
        · rw [hls_zero]; exact HO2.out.base hwr
        · exact (HO2.out.lt _ rfl).2
        · exact HNUM.out
        · rw [← HNN.out]; omega
        · rw [HF.out]; exact congrArg (fun q => hids q Z0 k fun _ => 0) rfl
      clear hg hb2 hK0 e1 e2 HJJ HO2 HB2
      obtain ⟨B, HBB⟩ : ∃ B, Hid (B = wr.heap.size) := ⟨_, rfl⟩
      rw [← HBB.out] at HR0 ⊢
      go_wp2
      go_loopw [7] (fun j wq => ∃ t : Nat, t + 1 ≤ k ∧ j = .int .i64 ((k : Int) + t) ∧ Hid (Jrd w wq k F B t)) (fun j _ => 2 * k - (intOf j).toNat)
      case atStart => exact ⟨0, by omega, by simp, HR0⟩
      case round =>
        obtain ⟨t, ht, rfl, HR⟩ := hrel
        obtain ⟨K, R, Z, H, hj, ho, hK, hB1, hB2, hnum, hZl, hsum, hF⟩ := HR.out.ex
        have hRl : R.length = k - t := hj.z.len.trans hZl
        have HJJ := hide hj
        have HO := hide ho
        have HNU := hide hnum
        have HZL := hide hZl
        have HSU := hide hsum
        have HFF := hide hF
        have HRL := hide hRl
        have hlenC := H4.len_any hj.q
        obtain ⟨m, hm⟩ : ∃ m : Nat, m = R.length := ⟨_, rfl⟩
        rw [← hm] at hlenC
        have hm' : m = k - t := hm.trans hRl
        clear hj ho hnum hZl hsum hF hRl hm HR
        by_cases hmore : 1 < m
        · have hmore' : (1 : Int) < (m : Int) := by omega
          have hz2 : 2 ≤ Z.length := by rw [HZL.out]; omega
          obtain ⟨p1, p2, p3⟩ := HJJ.out.z.pop (by omega)
          obtain ⟨q1, q2, q3⟩ := p3.pop (zwo2 hz2)
          have hP1 := H4.pop_any HJJ.out.q (by rw [HRL.out]; omega)
          rw [p1, p2] at hP1
          have hid1 := HNU.out.lt _ (zfi_mem hz2).1
          have hid2 := HNU.out.lt _ (zfi_mem hz2).2
          have hsm := zsum_two hz2
          have hss := HSU.out
          have HST : Hid (zst Z (k + t) = zwo (zwo Z) ++ [(hjn (zro Z), k + t)]) := rfl
          have hjw : (hjn (zro Z)).1 = (zfi Z).1.1 + (zfi (zwo Z)).1.1 := by
            unfold hjn
            rw [zfi_fst, zfi_fst, zro_wo]
          have HHI : Hid (hids (k - 1 - (t + 1)) (zst Z (k + t)) (k + (t + 1)) (upd H (zfi Z).2 (zfi (zwo Z)).2 (k + t)) = F) := by
            show _ = _
            rw [← HFF.out, show k - 1 - t = k - 1 - (t + 1) + 1 by omega]
            rfl
          have HNU2 := hide (HNU.out.st hz2)
          have HZL2 := hide (zst_len hz2 (k + t))
          have HSU2 := hide (zsum_st hz2 (k + t))
          have HQ2 : Hid (H4.pkK (H4.rest R) = ((zfi (zwo Z)).1.1 : Int) ∧ H4.pkV (H4.rest R) = ((zfi (zwo Z)).2 : Int)) := ⟨q1, q2⟩
          obtain ⟨a1, HA1⟩ : ∃ x, Hid (x = (zfi Z).1.1) := ⟨_, rfl⟩
          obtain ⟨i1, HI1⟩ : ∃ x, Hid (x = (zfi Z).2) := ⟨_, rfl⟩
          obtain ⟨a2, HA2⟩ : ∃ x, Hid (x = (zfi (zwo Z)).1.1) := ⟨_, rfl⟩
          obtain ⟨i2, HI2⟩ : ∃ x, Hid (x = (zfi (zwo Z)).2) := ⟨_, rfl⟩
          rw [← HA1.out] at hP1 hsm hjw
          rw [← HI1.out] at hP1 hid1 HHI
          rw [← HA2.out] at hsm hjw HQ2
          rw [← HI2.out] at hid2 HHI HQ2
          have HZ3 : Hid (Hz (H4.rest (H4.rest R)) (zwo (zwo Z))) := q3
          have HJW := hide hjw
          have ha : a1 + a2 ≤ 1236950581248 := by omega
          have hi1 : i1 < 2 * k - 2 := by omega
          have hi2 : i2 < 2 * k - 2 := by omega
          have hRl2 : (H4.rest R).length + 1 = k - t := by rw [← HRL.out]; exact H4.rest_len (fun e => by have := HRL.out; rw [e] at this; simp at this; omega)
          have hRl3 : (H4.rest (H4.rest R)).length + 2 = k - t := by
            have := H4.rest_len (R := H4.rest R) (fun e => by rw [e] at hRl2; simp at hRl2; omega)
            omega
          have HRL2 := hide hRl2
          have HRL3 := hide hRl3
          clear p1 p2 p3 q1 q2 q3 hsm hss hjw hRl2 hRl3
          go_wp2_with fail
          refine hlenC.mono ?_
          rintro e w3 ⟨rfl, rfl⟩
          go_wp2_with fail
          refine hP1.mono ?_
          rintro e w4 ⟨rfl, hq4, hf4⟩
          obtain ⟨pb1, hpb1⟩ : ∃ b, b = H4.pkB R := ⟨_, rfl⟩
          rw [← hpb1]
          clear hpb1
          have hP2 := H4.pop_any hq4 (by have := HRL2.out; omega)
          rw [HQ2.out.1, HQ2.out.2] at hP2
          obtain ⟨pb2, hpb2⟩ : ∃ b, b = H4.pkB (H4.rest R) := ⟨_, rfl⟩
          rw [← hpb2] at hP2
          clear hpb2
          have HF4 := hide hf4
          clear hf4 hq4
          go_wp2_with fail
          refine hP2.mono ?_
          rintro e w5 ⟨rfl, hq5, hf5⟩
          have HF5 := hide (HF4.out.trans hf5)
          have HQ5 := hide hq5
          have ho5 := oiFr (w := w) HF5.out HO.out hB2 hK
          have hB5 : B < w5.heap.size := Nat.lt_of_lt_of_le hB2 HF5.out.size
          obtain ⟨⟨u1, hu1⟩, hfz1, ho6⟩ := ho5.putg (k := i1) (by rw [hls_len]; exact hi1) ((k : Int) + t)
          obtain ⟨⟨u2, hu2⟩, hfz2, ho7⟩ := ho6.putg (k := i2) (by rw [List.length_set, hls_len]; exact hi2) ((k : Int) + t)
          have HO7 : Hid (OI ((w5.setCell ⟨B, i1, none⟩ (.int .i64 ((k : Int) + t))).setCell ⟨B, i2, none⟩ (.int .i64 ((k : Int) + t))) w.heap.size (.slice (some ⟨B, 0, none⟩) (2 * k - 2) (2 * k - 2)) (hls (2 * k - 2) (upd H i1 i2 (k + t)))) := by
            rw [← hls_set]
            rw [show ((k + t : Nat) : Int) = (k : Int) + t by omega]
            exact ho7
          have hi1' : (i1 : Int) < ((2 * k - 2 : Nat) : Int) := by omega
          have hi2' : (i2 : Int) < ((2 * k - 2 : Nat) : Int) := by omega
          clear hf5 hq5 ho5 ho6 ho7
          obtain ⟨w7, HW7⟩ : ∃ w7, Hid (w7 = (w5.setCell ⟨B, i1, none⟩ (.int .i64 ((k : Int) + t))).setCell ⟨B, i2, none⟩ (.int .i64 ((k : Int) + t))) := ⟨_, rfl⟩
          have hK5 : K B = 0 := hK
          have HJ7 : Hid (Jst w w7 K (H4.rest (H4.rest R)) (k + t) (zwo (zwo Z))) := by
            have hJ5 := HJJ.out.fr HQ5.out HZ3.out HF5.out
            refine hJ5.far (by rw [HW7.out, size_setCell, size_setCell]; exact Nat.le_refl _) (fun b hb => ?_) ?_
            · have hne : b ≠ B := fun e => hb (by rw [e]; exact hK5)
              rw [HW7.out, setCell_others _ _ _ _ _ hne, setCell_others _ _ _ _ _ hne]
            · rw [HW7.out]; exact (hJ5.b.setCell hB1 _).setCell hB1 _
          have hwa : IntKind.i64.wrap ((a1 : Int) + (a2 : Int)) = ((a1 + a2 : Nat) : Int) := by rw [IntKind.wrap_i64]; omega
          have hP8 := H4.push_any HJ7.out.q ((a1 + a2 : Nat) : Int) ((k : Int) + t) (by have := HRL3.out; omega) (by omega)
          rw [HW7.out] at hP8
          have hO8 : Hid (OI w7 w.heap.size (.slice (some ⟨B, 0, none⟩) (2 * k - 2) (2 * k - 2)) (hls (2 * k - 2) (upd H i1 i2 (k + t)))) := by rw [HW7.out]; exact HO7.out
          have hB7 : B < w7.heap.size := by rw [HW7.out, size_setCell, size_setCell]; exact hB5
          go_wp2_with fail
          refine hP8.mono ?_
          rintro e w8 ⟨rfl, K', hq8, hf8⟩
          rw [← HW7.out] at hf8
          have HR9 : Hid (Jrd w w8 k F B (t + 1)) := by
            refine ⟨K', _, zst Z (k + t), _, HJ7.out.fr hq8 ?_ hf8, oiFr (w := w) hf8 hO8.out hB7 hK5, pushK (w := w) hf8 hB7 hK5, hB1, Nat.lt_of_lt_of_le hB7 hf8.size, HNU2.out, ?_, ?_, HHI.out⟩
            · have := HJ7.out.z.push ((k + t : Nat) : Int) (hjn (zro Z)) (k + t)
              rw [HJW.out] at this
              rw [HST.out]
              exact this
            · rw [HZL2.out, HZL.out]; omega
            · rw [HSU2.out]; exact HSU.out
          clear hq8 hf8
          go_wp2
          go_roundw
          case rel => exact ⟨t + 1, by omega, by go_num, HR9⟩
          case measure => simp [intOf]; omega
        · have hmore' : ¬ (1 : Int) < (m : Int) := by omega
          have HFIN : Hid (OI wr w.heap.size (.slice (some ⟨B, 0, none⟩) (2 * k - 2) (2 * k - 2)) (hls (2 * k - 2) F) ∧ Below w.heap.size w wr) := by
            refine ⟨?_, HJJ.out.b⟩
            have e : H = F := by
              have := HFF.out
              rw [show k - 1 - t = 0 by omega] at this
              exact this
            rw [← e]
            exact HO.out
          go_wp2_with fail
          refine hlenC.mono ?_
          rintro e w3 ⟨rfl, rfl⟩
          go_wp2
          go_ret
          exact ⟨_, _, rfl, HFIN.out.1, HFIN.out.2⟩
end Go.Proofs.Ytgengoffkoonfab
