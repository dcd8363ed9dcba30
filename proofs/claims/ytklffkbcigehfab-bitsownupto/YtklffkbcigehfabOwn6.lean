import Derived.Test.YtklffkbcigehfabOwn5
namespace Go.Proofs.Ytklffkbcigehfab
open Go.RowKit Go.Maps
set_option maxRecDepth 20000

def xo (b : Int) : Int := bits .xor .u8 b 255

theorem xo_in (b : Int) : 0 ≤ xo b ∧ xo b < 256 := by
  unfold xo bits
  exact wrap8_in

theorem byt_xo (A : List Int) : Byt (A.map xo) := by
  induction A with
  | nil => exact byt_nil
  | cons a r ih =>
    rw [List.map_cons]
    exact byt_cons_mk (xo_in a).1 (xo_in a).2 ih

/-- The list when its first k bytes are turned. -/
def turned (A : List Int) (k : Nat) : List Int := (A.map xo).take k ++ A.drop k

theorem turned_zero (A : List Int) : turned A 0 = A := by simp [turned]
theorem turned_all (A : List Int) : turned A A.length = A.map xo := by
  unfold turned
  rw [List.drop_length, List.append_nil, List.take_of_length_le (by simp)]
theorem turned_len (A : List Int) (k : Nat) : (turned A k).length = A.length := by simp [turned]; omega
theorem turned_get {A : List Int} {k : Nat} (h : k < A.length) : (turned A k).getD k 0 = A.getD k 0 := by
  unfold turned
  simp only [List.getD]
  rw [List.getElem?_append_right (by simp; omega)]
  simp only [List.length_take, List.length_map]
  rw [show k - min k A.length = 0 by omega, List.getElem?_drop, Nat.add_zero]
theorem turned_set {A : List Int} {k : Nat} (h : k < A.length) : (turned A k).set k (xo (A.getD k 0)) = turned A (k + 1) := by
  unfold turned
  rw [List.set_append_right _ _ (by simp; omega)]
  simp only [List.length_take, List.length_map]
  rw [show k - min k A.length = 0 by omega, List.drop_eq_getElem_cons h, List.set_cons_zero, List.take_succ_eq_append_getElem (by simpa using h), List.append_assoc]
  simp [h]

theorem take_xo {A : List Int} {k : Nat} (h : k < A.length) : (A.map xo).take (k + 1) = (A.map xo).take k ++ [xo (A.getD k 0)] := by
  rw [List.take_succ_eq_append_getElem (by simpa using h)]
  simp [h]

/-- A byte of a list of the herd is written. -/
theorem Herd.store {W w : World} {xs : List ((Nat → Nat) × Thing)} (H : Herd W w xs) (i : Nat) {K : Nat → Nat} {g c n : Nat} {l : List Int} (hi : xs[i]? = some (K, tl (.slice (some ⟨g, 0, none⟩) n c) l)) (k : Nat) (x : Int) : Herd W (w.setCell ⟨g, k, none⟩ (.int .u8 x)) (xs.set i (K, tl (.slice (some ⟨g, 0, none⟩) n c) (l.set k x))) := by
  have h : (tl (.slice (some ⟨g, 0, none⟩) n c) l).P w K := H.rep i _ hi
  have hn : n = l.length := by
    obtain ⟨a, c', e⟩ := h.1.shape
    simp only [Value.slice.injEq] at e
    exact e.2.1
  subst hn
  obtain ⟨h1, h2⟩ := World.ownsRow.stored h.1 k (.int .u8 x)
  refine H.op i hi (x' := tl _ _) ⟨?_, h.2.1, fun j hj => ?_⟩ ⟨h2.os, h2.tape, h2.output, h2.size, fun j hj h0 => h2.block j hj (fun e => h.2.1 j (by rw [e]; rfl) h0), fun _ _ => rfl⟩
  · show World.ownsRow _ _ _ _ _ _ _
    rw [List.map_set, List.length_set]
    exact h1
  · rw [size_setCell]; exact h.2.2 j hj

set_option maxHeartbeats 4000000 in
theorem again_any {W w : World} {xs : List ((Nat → Nat) × Thing)} (H : Herd W w xs) (j : Nat) {Ka : Nat → Nat} {A : List Int} {aa : Option Addr} {ac : Nat} (hj : xs[j]? = some (Ka, tl (.slice aa A.length ac) A)) (hB : Byt A) (hl : A.length ≤ 1048576) :
    Calls Try.prog 19 #[.slice aa A.length ac] w fun e w' => e = .returned (.bool true) ∧ Herd W w' xs := by
  have H0 := hide H
  have HJ := hide hj
  have HB := hide hB
  have HRA := hide (rraw_all hB)
  have HBX := hide (byt_xo A)
  have HXL : Hid ((A.map xo).length = A.length) := by show _ = _; simp
  have HRX := rraw_all (byt_xo A)
  rw [HXL.out] at HRX
  have HRX := hide HRX
  have P1 : Hid (rawE [] A = 0 ∧ rawRow [] A = unpack A) := by
    show _ ∧ _
    unfold rawE rawRow
    rw [List.length_nil, if_neg (by omega), if_neg (by omega), if_neg (by omega), if_neg (by omega)]
    exact ⟨rfl, rfl⟩
  have P2 : Hid (rawE (unpack A) (A.map xo) = 0 ∧ rawRow (unpack A) (A.map xo) = unpack (A ++ A.map xo)) := by
    show _ ∧ _
    rw [unpack_append]
    unfold rawE rawRow
    rw [length_unpack, HXL.out, if_neg (by omega), if_neg (by omega), if_neg (by omega), if_neg (by omega)]
    exact ⟨rfl, rfl⟩
  have HPK : Hid (pack (unpack (A ++ A.map xo)) = A ++ A.map xo) := pack_unpack (byt_append hB (byt_xo A))
  clear H hj hB
  go_enter Try.func19, Try.ntmps19
  go_wp2_with fail
  refine (hnewW H0.out).mono ?_
  rintro e w1 ⟨gw, Kw, rfl, hH⟩
  have H1 := hide hH
  clear hH
  go_wp2_with fail
  refine (copied_any _ A w1 (H1.out.sb j (get_l HJ.out)) (by omega)).mono ?_
  rintro e w2 ⟨ia, ic, rfl, ho, hb⟩
  obtain ⟨Ki, hH⟩ := H1.out.list hb ho
  have H2 : Hid (Herd W w2 (xs ++ [(Kw, tw gw []), (Ki, tl (.slice ia A.length ic) A)])) := by
    rw [List.append_assoc] at hH
    exact hH
  clear hH ho hb
  go_wp2_with fail
  refine (hnewR H2.out _ A (H2.out.sb (xs.length + 1) (get_r rfl)) HB.out (by omega)).mono ?_
  rintro e w3 ⟨gr, Kr, rfl, hH⟩
  have H3 : Hid (Herd W w3 (xs ++ [(Kw, tw gw []), (Ki, tl (.slice ia A.length ic) A), (Kr, tr gr (unpack A) 0)])) := by
    rw [List.append_assoc] at hH
    exact hH
  clear hH
  go_wp2_with fail
  refine (hraw H3.out (xs.length + 0) (get_r rfl) _ A HB.out (H3.out.sb (xs.length + 1) (get_r rfl)) (fun k hk _ => H3.out.sep (xs.length + 1) (xs.length + 0) _ _ (get_r rfl) (get_r rfl) (by omega) k ((show (tl (.slice ia A.length ic) A).P w3 Ki from H3.out.rep (xs.length + 1) _ (get_r rfl)).2.1 k hk))).mono ?_
  rintro e w4 ⟨rfl, K4, hH⟩
  rw [P1.out.1]
  rw [P1.out.2, set_r] at hH
  have H4 : Hid (Herd W w4 (xs ++ [(K4, tw gw (unpack A)), (Ki, tl (.slice ia A.length ic) A), (Kr, tr gr (unpack A) 0)])) := hH
  clear hH
  go_wp2_with fail
  refine (copied_any _ A w4 (H4.out.sb j (get_l HJ.out)) (by omega)).mono ?_
  rintro e w5 ⟨ba, bc, rfl, ho, hb⟩
  obtain ⟨Kb, hH⟩ := H4.out.list hb ho
  have H5 : Hid (∃ Kb, Herd W w5 (xs ++ [(K4, tw gw (unpack A)), (Ki, tl (.slice ia A.length ic) (turned A 0)), (Kr, tr gr (unpack A) 0), (Kb, tl (.slice ba A.length bc) (A ++ (A.map xo).take 0))])) := by
    rw [List.append_assoc] at hH
    rw [turned_zero, List.take_zero, List.append_nil]
    exact ⟨_, hH⟩
  clear hH ho hb
  go_wp2
  go_loopw [6, 7] (fun bv n wr => ∃ k : Nat, k ≤ A.length ∧ n = .int .i64 k ∧ Hid (∃ Kb, Herd W wr (xs ++ [(K4, tw gw (unpack A)), (Ki, tl (.slice ia A.length ic) (turned A k)), (Kr, tr gr (unpack A) 0), (Kb, tl bv (A ++ (A.map xo).take k))]))) (fun _ n _ => A.length - (intOf n).toNat)
  case atStart => exact ⟨0, Nat.zero_le _, rfl, H5.out⟩
  case round =>
    clear H5
    obtain ⟨k, hk, rfl, HQ⟩ := hrel
    obtain ⟨Kb, hH⟩ := HQ.out
    obtain ⟨ba, bc, hbv⟩ := (show (tl u6 (A ++ (A.map xo).take k)).P wr Kb from hH.rep (xs.length + 3) _ (get_r rfl)).1.shape
    have hbl : (A ++ (A.map xo).take k).length = A.length + k := by rw [List.length_append, List.length_take, HXL.out]; omega
    rw [hbl] at hbv
    subst hbv
    have HBL := hide hbl
    have H6 := hide hH
    clear hH HQ hbl
    by_cases hlt : k < A.length
    · have hlt' : (k : Int) < (A.length : Int) := by omega
      have hoi := (show (tl (.slice ia A.length ic) (turned A k)).P wr Ki from H6.out.rep (xs.length + 1) _ (get_r rfl)).1
      obtain ⟨gi, ci, hiv, _, hgi⟩ := World.ownsRow.form hoi (by rw [turned_len]; omega)
      rw [turned_len] at hiv
      simp only [Value.slice.injEq, true_and] at hiv
      obtain ⟨rfl, rfl⟩ := hiv
      obtain ⟨y, HY⟩ : ∃ y, Hid (y = A.getD k 0) := ⟨_, rfl⟩
      have hc : wr.cell? ⟨gi, k, none⟩ = some (.int .u8 y) := by
        rw [hoi.get rfl (i := k) (by rw [turned_len]; exact hlt), turned_get hlt, HY.out]
      have hf : wr.frozen? ⟨gi, k, none⟩ = false := by
        have := hoi
        unfold OB at this
        rw [turned_len] at this
        exact World.ownsRow.frozenAt this k
      have hcl : A.length ≤ ic ∧ ic ≤ 9223372036854775807 := by
        have := (show SB wr (.slice (some ⟨gi, 0, none⟩) (turned A k).length ic) (turned A k) from by rw [turned_len]; exact hoi.sb).cap
        rwa [turned_len] at this
      obtain ⟨hcl1, hcl2⟩ := hcl
      clear hoi
      obtain ⟨x, hx⟩ : ∃ x, bits .xor .u8 y 255 = x := ⟨_, rfl⟩
      have HX : Hid (xo (A.getD k 0) = x) := by rw [← HY.out]; exact hx
      obtain ⟨V, HV⟩ : ∃ V, Hid (V = wr.setCell ⟨gi, k, none⟩ (.int .u8 x)) := ⟨_, rfl⟩
      obtain ⟨D, HD⟩ : ∃ D, Hid (D = A ++ (A.map xo).take k) := ⟨_, rfl⟩
      rw [← HD.out] at HBL
      have H7 : Hid (Herd W V (xs ++ [(K4, tw gw (unpack A)), (Ki, tl (.slice (some ⟨gi, 0, none⟩) A.length ic) (turned A (k + 1))), (Kr, tr gr (unpack A) 0), (Kb, tl (.slice ba (A.length + k) bc) D)])) := by
        have h := H6.out.store (xs.length + 1) (get_r rfl) k x
        rw [set_r, ← HX.out, turned_set hlt, HX.out, ← HV.out, ← HD.out] at h
        exact h
      have HVS : Hid (V.heap.size = wr.heap.size) := by show _ = _; rw [HV.out, size_setCell]
      have HOB : Hid (OB V 0 (.slice ba (A.length + k) bc) D) := (show (tl (.slice ba (A.length + k) bc) D).P V Kb from H7.out.rep (xs.length + 3) _ (get_r rfl)).1
      have HSR : Hid (Src Try.prog 1 25 (.slice (some ⟨wr.heap.size, 0, none⟩) 1 1) ([x] : List Int).length (([x] : List Int).map (Value.int .u8)) (V.alloc (.cells #[.int .u8 x] 5))) := by
        have := built_src V [x]
        rw [HVS.out] at this
        exact this
      have hvc : V.cell? ⟨gi, k, none⟩ = some (.int .u8 x) := by
        have h := (show (tl (.slice (some ⟨gi, 0, none⟩) A.length ic) (turned A (k + 1))).P V Ki from H7.out.rep (xs.length + 1) _ (get_r rfl)).1
        rw [h.get rfl (i := k) (by rw [turned_len]; exact hlt), ← turned_set hlt, HX.out]
        simp [List.getD, turned_len, hlt]
      go_wp2_with (at_builtin; rw [← HV.out]; refine wpList_app rfl _ _ 25 rfl 0 _ _ D [x] rfl (HOB.out.alloc _) rfl HSR.out (by rw [HBL.out]; simp; omega) (Nat.zero_le _) ?_)
      intro v8 w8 ho hgr
      obtain ⟨K8, hH⟩ := (H7.out.below ((Below.refl _ _).alloc (Nat.le_refl _) _)).app (xs.length + 3) (get_r rfl) ho hgr
      rw [set_r] at hH
      obtain ⟨a8, c8, hv8⟩ := ho.shape
      have H8 : Hid (∃ Kb, Herd W w8 (xs ++ [(K4, tw gw (unpack A)), (Ki, tl (.slice (some ⟨gi, 0, none⟩) A.length ic) (turned A (k + 1))), (Kr, tr gr (unpack A) 0), (Kb, tl v8 (A ++ (A.map xo).take (k + 1)))])) := by
        refine ⟨K8, ?_⟩
        rw [take_xo hlt, HX.out, ← List.append_assoc, ← HD.out]
        exact hH
      subst hv8
      clear hH ho hgr HOB HSR hc hf hvc
      go_wp2
      go_roundw
      case rel => exact ⟨k + 1, by omega, by go_num, H8.out⟩
      case measure => simp [intOf]; omega
    · obtain rfl : k = A.length := by omega
      have hlt' : ¬ (A.length : Int) < (A.length : Int) := by omega
      obtain ⟨X, HXd⟩ : ∃ X, Hid (X = A.map xo) := ⟨_, rfl⟩
      have H9 : Hid (Herd W wr (xs ++ [(K4, tw gw (unpack A)), (Ki, tl (.slice ia A.length ic) X), (Kr, tr gr (unpack A) 0), (Kb, tl (.slice ba (A.length + A.length) bc) (A ++ X))])) := by
        have h := H6.out
        rw [turned_all, List.take_of_length_le (by rw [HXL.out]; exact Nat.le_refl _), ← HXd.out] at h
        exact h
      rw [← HXd.out] at HBX HXL HRX P2 HPK
      obtain ⟨Y, HYd⟩ : ∃ Y, Hid (Y = A ++ X) := ⟨_, rfl⟩
      rw [← HYd.out] at P2 HPK H9
      clear H6 HBL
      go_wp2_with fail
      refine (hnewR H9.out _ X (H9.out.sb (xs.length + 1) (get_r rfl)) HBX.out (by rw [HXL.out]; omega)).mono ?_
      rintro e w10 ⟨gq, Kq, rfl, hH⟩
      have H10 : Hid (Herd W w10 (xs ++ [(K4, tw gw (unpack A)), (Ki, tl (.slice ia A.length ic) X), (Kr, tr gr (unpack A) 0), (Kb, tl (.slice ba (A.length + A.length) bc) Y), (Kq, tr gq (unpack X) 0)])) := by
        rw [List.append_assoc] at hH
        exact hH
      clear hH
      go_wp2_with fail
      refine (hraw H10.out (xs.length + 0) (get_r rfl) _ X HBX.out (H10.out.sb (xs.length + 1) (get_r rfl)) (fun k hk _ => H10.out.sep (xs.length + 1) (xs.length + 0) _ _ (get_r rfl) (get_r rfl) (by omega) k ((show (tl (.slice ia A.length ic) X).P w10 Ki from H10.out.rep (xs.length + 1) _ (get_r rfl)).2.1 k hk))).mono ?_
      rintro e w11 ⟨rfl, K11, hH⟩
      rw [P2.out.1]
      rw [P2.out.2, set_r] at hH
      have H11 : Hid (Herd W w11 (xs ++ [(K11, tw gw (unpack Y)), (Ki, tl (.slice ia A.length ic) X), (Kr, tr gr (unpack A) 0), (Kb, tl (.slice ba (A.length + A.length) bc) Y), (Kq, tr gq (unpack X) 0)])) := hH
      clear hH
      go_wp2_with fail
      refine (hrraw H11.out (xs.length + 2) (get_r rfl) _).mono ?_
      rintro e w12 ⟨ax, cx, Kx, rfl, hH⟩
      rw [HRA.out.2.1, HRA.out.1]
      rw [HRA.out.2.1, HRA.out.2.2, set_r, List.append_assoc] at hH
      have H12 : Hid (Herd W w12 (xs ++ [(K11, tw gw (unpack Y)), (Ki, tl (.slice ia A.length ic) X), (Kr, tr gr (unpack A) (0 + 8 * A.length)), (Kb, tl (.slice ba (A.length + A.length) bc) Y), (Kq, tr gq (unpack X) 0), (Kx, tl (.slice ax A.length cx) A)])) := hH
      clear hH
      go_wp2_with fail
      refine (hrraw H12.out (xs.length + 4) (get_r rfl) _).mono ?_
      rintro e w13 ⟨ay, cy, Ky, rfl, hH⟩
      rw [HRX.out.2.1, HRX.out.1, HXL.out]
      rw [HRX.out.2.1, HRX.out.2.2, set_r, List.append_assoc, HXL.out] at hH
      have H13 : Hid (Herd W w13 (xs ++ [(K11, tw gw (unpack Y)), (Ki, tl (.slice ia A.length ic) X), (Kr, tr gr (unpack A) (0 + 8 * A.length)), (Kb, tl (.slice ba (A.length + A.length) bc) Y), (Kq, tr gq (unpack X) (0 + 8 * A.length)), (Kx, tl (.slice ax A.length cx) A), (Ky, tl (.slice ay A.length cy) X)])) := hH
      clear hH
      have HE1 : Hid (eqB A A = true) := by show _ = _; simp [eqB]
      have HE2 : Hid (eqB X X = true) := by show _ = _; simp [eqB]
      have HE3 : Hid (eqB Y Y = true) := by show _ = _; simp [eqB]
      go_wp2_with fail
      refine (same_any _ _ A A w13 (H13.out.sb (xs.length + 5) (get_r rfl)) (H13.out.sb j (get_l HJ.out))).mono ?_
      rintro e w14 ⟨rfl, n14, hw14⟩
      rw [HE1.out]
      have H14 := hide (H13.out.drewN n14)
      rw [← hw14] at H14
      clear hw14
      go_wp2_with fail
      refine (same_any _ _ X X w14 (H14.out.sb (xs.length + 6) (get_r rfl)) (H14.out.sb (xs.length + 1) (get_r rfl))).mono ?_
      rintro e w15 ⟨rfl, n15, hw15⟩
      rw [HE2.out]
      have H15 := hide (H14.out.drewN n15)
      rw [← hw15] at H15
      clear hw15
      go_wp2_with fail
      refine (hbytes H15.out (xs.length + 0) (get_r rfl)).mono ?_
      rintro e w16 ⟨a16, c16, K16, rfl, hH⟩
      rw [HPK.out] at hH ⊢
      have H16 := hide hH
      clear hH
      go_wp2_with fail
      refine (same_any _ _ Y Y w16 (H16.out.sb _ (get_at _ _ [])) (H16.out.sb (xs.length + 3) (get_l (get_r rfl)))).mono ?_
      rintro e w17 ⟨rfl, n17, hw17⟩
      rw [HE3.out]
      have HF : Hid (Herd W w17 xs) := by rw [hw17]; exact (H16.out.drewN n17).cut.cut
      clear hw17
      go_wp2
      go_ret
      exact ⟨rfl, HF.out⟩
end Go.Proofs.Ytklffkbcigehfab
