import Derived.Test.YtklffkbcigehfabOwn3
namespace Go.Proofs.Ytklffkbcigehfab
open Go.RowKit Go.Maps
set_option maxRecDepth 20000

theorem get_l {α : Type} {xs ys : List α} {i : Nat} {d : α} (h : xs[i]? = some d) : (xs ++ ys)[i]? = some d := by
  rw [List.getElem?_append_left (List.getElem?_eq_some_iff.1 h).1]; exact h

theorem get_r {α : Type} {xs ys : List α} {i : Nat} {d : α} (h : ys[i]? = some d) : (xs ++ ys)[xs.length + i]? = some d := by
  rw [List.getElem?_append_right (by omega), show xs.length + i - xs.length = i by omega]; exact h

theorem set_r {α : Type} (xs ys : List α) (i : Nat) (d : α) : (xs ++ ys).set (xs.length + i) d = xs ++ ys.set i d := by
  rw [List.set_append_right _ _ (by omega), show xs.length + i - xs.length = i by omega]

/-- Some of the last ones, in another order. -/
theorem Herd.pick {W w : World} {xs T T' : List ((Nat → Nat) × Thing)} (h : Herd W w (xs ++ T)) (f : Nat → Nat) (hf : ∀ (i : Nat) (d : (Nat → Nat) × Thing), T'[i]? = some d → T[f i]? = some d) (hi : ∀ i, i < T'.length → ∀ j, j < T'.length → f i = f j → i = j) : Herd W w (xs ++ T') := by
  have e : ∀ (i : Nat) (d : (Nat → Nat) × Thing), (xs ++ T')[i]? = some d → (xs ++ T)[if i < xs.length then i else xs.length + f (i - xs.length)]? = some d := fun i d hd => by
    by_cases hl : i < xs.length
    · rw [if_pos hl]
      rw [List.getElem?_append_left hl] at hd ⊢
      exact hd
    · rw [if_neg hl]
      rw [List.getElem?_append_right (by omega)] at hd
      exact get_r (hf _ _ hd)
  refine ⟨h.bel, fun i d hd => h.rep _ d (e i d hd), fun i d hd => h.up _ d (e i d hd), fun i j d d' hd hd' hne => h.sep _ _ d d' (e i d hd) (e j d' hd') ?_⟩
  have h1 := (List.getElem?_eq_some_iff.1 hd).1
  have h2 := (List.getElem?_eq_some_iff.1 hd').1
  rw [List.length_append] at h1 h2
  intro e2
  apply hne
  by_cases a1 : i < xs.length
  · by_cases a2 : j < xs.length
    · rw [if_pos a1, if_pos a2] at e2; exact e2
    · rw [if_pos a1, if_neg a2] at e2; omega
  · by_cases a2 : j < xs.length
    · rw [if_neg a1, if_pos a2] at e2; omega
    · rw [if_neg a1, if_neg a2] at e2
      have := hi (i - xs.length) (by omega) (j - xs.length) (by omega) (by omega)
      omega

def lz (LS : List ((Nat → Nat) × Value × List Int)) : List ((Nat → Nat) × Thing) := LS.map fun p => (p.1, tl p.2.1 p.2.2)

theorem lz_get {LS : List ((Nat → Nat) × Value × List Int)} {i : Nat} {p : (Nat → Nat) × Value × List Int} (h : LS[i]? = some p) : (lz LS)[i]? = some (p.1, tl p.2.1 p.2.2) := by
  unfold lz
  rw [List.getElem?_map, h]
  rfl

theorem lz_drop {LS : List ((Nat → Nat) × Value × List Int)} {i : Nat} {p : (Nat → Nat) × Value × List Int} (h : LS[i]? = some p) : lz (LS.drop i) = (p.1, tl p.2.1 p.2.2) :: lz (LS.drop (i + 1)) := by
  obtain ⟨hi, rfl⟩ := List.getElem?_eq_some_iff.1 h
  unfold lz
  rw [List.drop_eq_getElem_cons hi, List.map_cons]

theorem rraw_all {A : List Int} (hB : Byt A) : rrawE (unpack A) 0 (A.length : Nat) = 0 ∧ rrawL (unpack A) 0 (A.length : Nat) = A ∧ rrawP (unpack A) 0 (A.length : Nat) = 0 + 8 * A.length :=
  rraw_ok (Nat.zero_le _) rfl rfl hB (rest := []) (by simp)

set_option maxHeartbeats 4000000 in
theorem asked_any {W w : World} {xs : List ((Nat → Nat) × Thing)} (H : Herd W w xs) (i j : Nat) {Kw Ka : Nat → Nat} {g : Nat} {A : List Int} {aa : Option Addr} {ac : Nat} (hi : xs[i]? = some (Kw, tw g (unpack A))) (hj : xs[j]? = some (Ka, tl (.slice aa A.length ac) A)) (hB : Byt A) (hl : A.length ≤ 1048576) :
    Calls Try.prog 18 #[.pointer (some ⟨g, 0, none⟩), .slice aa A.length ac] w fun e w' => e = .returned (.bool true) ∧ Herd W w' xs := by
  have H0 := hide H
  have HI := hide hi
  have HJ := hide hj
  have HB := hide hB
  have HRA := hide (rraw_all hB)
  have HPK : Hid (pack (unpack A) = A) := pack_unpack hB
  have HB1 : Hid (Byt (A ++ [1])) := byt_append hB (byt_one (by omega) (by omega))
  have P1 : Hid (rawE [] A = 0 ∧ rawRow [] A = unpack A) := by
    show _ ∧ _
    unfold rawE rawRow
    rw [List.length_nil, if_neg (by omega), if_neg (by omega), if_neg (by omega), if_neg (by omega)]
    exact ⟨rfl, rfl⟩
  have P2 : Hid (putE (unpack A) 1 8 = 0 ∧ putRow (unpack A) 1 8 = unpack (A ++ [1])) := by
    have := putE_ok (putOk_of (row := unpack A) (v := 1) (n := 8) (by omega) (by omega) (by rw [length_unpack]; omega))
    rw [unpack_append, unpack_one]
    exact this
  clear H hi hj hB
  go_enter Try.func18, Try.ntmps18
  go_wp2_with fail
  refine (hnewW H0.out).mono ?_
  rintro e w1 ⟨gu, Ku, rfl, hH⟩
  have H1 := hide hH
  clear hH
  go_wp2_with fail
  refine (copied_any _ A w1 (H1.out.sb j (get_l HJ.out)) (by omega)).mono ?_
  rintro e w2 ⟨ta, tc, rfl, ho, hb⟩
  have HT := hide ho.sb
  have H2 := hide (H1.out.below hb)
  clear ho hb
  go_wp2_with fail
  refine (hnewR H2.out _ A HT.out HB.out (by omega)).mono ?_
  rintro e w3 ⟨gr, Kr, rfl, hH⟩
  have H3 := hide hH
  clear hH HT
  go_wp2_with fail
  refine (copied_any _ A w3 (H3.out.sb j (get_l (get_l HJ.out))) (by omega)).mono ?_
  rintro e w4 ⟨ta2, tc2, rfl, ho, hb⟩
  have HT := hide ho.sb
  have H4 := hide (H3.out.below hb)
  clear ho hb
  go_wp2_with fail
  refine (hnewR H4.out _ A HT.out HB.out (by omega)).mono ?_
  rintro e w5 ⟨gq, Kq, rfl, hH⟩
  have H5 : Hid (Herd W w5 (xs ++ [(Ku, tw gu []), (Kr, tr gr (unpack A) 0), (Kq, tr gq (unpack A) 0)])) := by
    simp only [List.append_assoc, List.cons_append, List.nil_append] at hH
    exact hH
  clear hH HT
  go_wp2_with fail
  refine (copied_any _ A w5 (H5.out.sb j (get_l HJ.out)) (by omega)).mono ?_
  rintro e w6 ⟨ta3, tc3, rfl, ho, hb⟩
  have HT := hide ho.sb
  have H6 := hide (H5.out.below hb)
  have HAP : Hid (∀ k, (Value.slice ta3 A.length tc3).ownBlock = some k → k < w6.heap.size → Ku k = 0) := fun k hk _ => by
    by_cases e0 : Ku k = 0
    · exact e0
    · have h1 := (ho.lt k hk).1
      have h2 := (tw gu []).sup (H5.out.rep (xs.length + 0) _ (get_r rfl)) k e0
      omega
  clear ho hb
  go_wp2_with fail
  refine (hraw H6.out (xs.length + 0) (get_r rfl) _ A HB.out HT.out HAP.out).mono ?_
  rintro e w7 ⟨rfl, K7, hH⟩
  rw [P1.out.1]
  rw [P1.out.2, set_r] at hH
  have H7 : Hid (Herd W w7 (xs ++ [(K7, tw gu (unpack A)), (Kr, tr gr (unpack A) 0), (Kq, tr gq (unpack A) 0)])) := hH
  clear hH HT HAP
  go_wp2_with fail
  refine (hput H7.out (xs.length + 0) (get_r rfl) 1 8 (by omega) (by omega)).mono ?_
  rintro e w8 ⟨rfl, K8, hH⟩
  rw [P2.out.1]
  rw [P2.out.2, set_r] at hH
  have H8 : Hid (Herd W w8 (xs ++ [(K8, tw gu (unpack (A ++ [1]))), (Kr, tr gr (unpack A) 0), (Kq, tr gq (unpack A) 0)])) := hH
  clear hH
  go_wp2_with fail
  refine (hrraw H8.out (xs.length + 1) (get_r rfl) _).mono ?_
  rintro e w9 ⟨ax, cx, Kx, rfl, hH⟩
  rw [HRA.out.2.1, HRA.out.1]
  rw [HRA.out.2.1, HRA.out.2.2, set_r] at hH
  have H9 : Hid (Herd W w9 (xs ++ [(K8, tw gu (unpack (A ++ [1]))), (Kr, tr gr (unpack A) (0 + 8 * A.length)), (Kq, tr gq (unpack A) 0), (Kx, tl (.slice ax A.length cx) A)])) := by
    rw [List.append_assoc] at hH
    exact hH
  clear hH
  go_wp2_with fail
  refine (hrraw H9.out (xs.length + 2) (get_r rfl) _).mono ?_
  rintro e w10 ⟨ay, cy, Ky, rfl, hH⟩
  rw [HRA.out.2.1, HRA.out.1]
  rw [HRA.out.2.1, HRA.out.2.2, set_r] at hH
  have H10 : Hid (Herd W w10 (xs ++ [(K8, tw gu (unpack (A ++ [1]))), (Kr, tr gr (unpack A) (0 + 8 * A.length)), (Kq, tr gq (unpack A) (0 + 8 * A.length)), (Kx, tl (.slice ax A.length cx) A), (Ky, tl (.slice ay A.length cy) A)])) := by
    rw [List.append_assoc] at hH
    exact hH
  clear hH
  have HPK1 : Hid (pack (unpack (A ++ [1])) = A ++ [1]) := pack_unpack HB1.out
  go_wp2_with fail
  refine (hbytes H10.out i (get_l HI.out)).mono ?_
  rintro e w11 ⟨a11, c11, K11, rfl, hH⟩
  rw [HPK.out] at hH ⊢
  have H11 := hide hH
  clear hH
  go_wp2_with fail
  refine (hbytes H11.out i (get_l (get_l HI.out))).mono ?_
  rintro e w12 ⟨a12, c12, K12, rfl, hH⟩
  rw [HPK.out] at hH ⊢
  have H12 := hide hH
  clear hH
  go_wp2_with fail
  refine (hbytes H12.out (xs.length + 0) (get_l (get_l (get_r rfl)))).mono ?_
  rintro e w13 ⟨a13, c13, K13, rfl, hH⟩
  rw [HPK1.out] at hH ⊢
  have H13 := hide hH
  clear hH
  go_wp2_with fail
  refine (hbytes H13.out (xs.length + 0) (get_l (get_l (get_l (get_r rfl))))).mono ?_
  rintro e w14 ⟨a14, c14, K14, rfl, hH⟩
  rw [HPK1.out] at hH ⊢
  have HL1 : Hid ((A ++ [1]).length = A.length + 1) := by show _ = _; simp
  rw [HL1.out] at hH ⊢
  simp only [List.append_assoc, List.cons_append, List.nil_append] at hH
  obtain ⟨KB, hH2⟩ := hH.alloc (.cells #[.slice a11 A.length c11, .slice a12 A.length c12, .slice ax A.length cx, .slice ay A.length cy, .slice a13 (A.length + 1) c13, .slice a14 (A.length + 1) c14] 25)
  rw [List.append_assoc] at hH2
  obtain ⟨LS, HLS⟩ : ∃ LS : List ((Nat → Nat) × Value × List Int), Hid (LS = [(K11, .slice a11 A.length c11, A), (K12, .slice a12 A.length c12, A), (Kx, .slice ax A.length cx, A), (Ky, .slice ay A.length cy, A), (K13, .slice a13 (A.length + 1) c13, A ++ [1]), (K14, .slice a14 (A.length + 1) c14, A ++ [1])]) := ⟨_, hide rfl⟩
  obtain ⟨V, HV⟩ : ∃ V, Hid (V = w14.alloc (.cells #[.slice a11 A.length c11, .slice a12 A.length c12, .slice ax A.length cx, .slice ay A.length cy, .slice a13 (A.length + 1) c13, .slice a14 (A.length + 1) c14] 25)) := ⟨_, rfl⟩
  obtain ⟨O, HO⟩ : ∃ O, Hid (O = Obj.cells #[.slice a11 A.length c11, .slice a12 A.length c12, .slice ax A.length cx, .slice ay A.length cy, .slice a13 (A.length + 1) c13, .slice a14 (A.length + 1) c14] 25 (0, 0)) := ⟨_, rfl⟩
  obtain ⟨blk, HBK⟩ : ∃ blk, Hid (blk = w14.heap.size) := ⟨_, rfl⟩
  have H15 : Hid (Herd W V (xs ++ (KB, tb blk O) :: lz LS)) := by
    rw [HLS.out, HBK.out, HO.out, HV.out]
    refine hH2.pick (fun i => [9, 5, 6, 3, 4, 7, 8].getD i 0) (fun i d hd => ?_) ?_
    · match i, hd with
      | 0, hd => exact hd
      | 1, hd => exact hd
      | 2, hd => exact hd
      | 3, hd => exact hd
      | 4, hd => exact hd
      | 5, hd => exact hd
      | 6, hd => exact hd
      | n + 7, hd => simp [lz] at hd
    · show ∀ i, i < 7 → ∀ j, j < 7 → _
      decide
  have F1 : Hid (LS.length = 6) := by show _ = _; rw [HLS.out]; rfl
  have F2 : Hid (∀ (i : Nat) (p : (Nat → Nat) × Value × List Int), LS[i]? = some p → (i < 4 → p.2.2 = A) ∧ (¬ i < 4 → p.2.2 = A ++ [1]) ∧ ∃ a c, p.2.1 = .slice a p.2.2.length c) := fun i p hp => by
    rw [HLS.out] at hp
    match i, hp with
    | 0, hp => simp at hp; subst hp; exact ⟨fun _ => rfl, fun h => absurd (by omega) h, _, _, rfl⟩
    | 1, hp => simp at hp; subst hp; exact ⟨fun _ => rfl, fun h => absurd (by omega) h, _, _, rfl⟩
    | 2, hp => simp at hp; subst hp; exact ⟨fun _ => rfl, fun h => absurd (by omega) h, _, _, rfl⟩
    | 3, hp => simp at hp; subst hp; exact ⟨fun _ => rfl, fun h => absurd (by omega) h, _, _, rfl⟩
    | 4, hp => simp at hp; subst hp; exact ⟨fun h => absurd h (by omega), fun _ => rfl, a13, c13, by rw [HL1.out]⟩
    | 5, hp => simp at hp; subst hp; exact ⟨fun h => absurd h (by omega), fun _ => rfl, a14, c14, by rw [HL1.out]⟩
    | n + 6, hp => simp at hp
  have F3 : Hid (∀ (wq : World), (tb blk O).P wq KB → ∀ (i : Nat) (p : (Nat → Nat) × Value × List Int), LS[i]? = some p → wq.cell? ⟨blk, i, none⟩ = some p.2.1) := fun wq hq i p hp => by
    have h1 : wq.heap[blk]? = some O := hq.1
    rw [HO.out] at h1
    have h2 : wq.cell? ⟨blk, i, none⟩ = (LS.map (·.2.1)).toArray[i]? := by
      rw [HLS.out]
      simp only [World.cell?, h1]
      rfl
    rw [h2, List.getElem?_toArray, List.getElem?_map, hp]
    rfl
  clear hH hH2 H1 H2 H3 H4 H5 H6 H7 H8 H9 H10 H11 H12 H13
  go_wp2
  rw [← HV.out, ← HBK.out]
  go_loopw [13] (fun n wr => ∃ t : Nat, t ≤ 6 ∧ n = .int .i64 t ∧ Hid (Herd W wr (xs ++ (KB, tb blk O) :: lz LS))) (fun n _ => 6 - (intOf n).toNat)
  case atStart => exact ⟨0, by omega, rfl, H15.out⟩
  case round =>
    clear H15
    obtain ⟨t, ht, rfl, H16⟩ := hrel
    by_cases ht6 : t < 6
    · have ht6' : (t : Int) < 6 := by omega
      obtain ⟨p, hp⟩ : ∃ p, LS[t]? = some p := ⟨LS[t]'(by rw [F1.out]; exact ht6), by simp [F1.out, ht6]⟩
      obtain ⟨f1, f2, pa, pc, hpv⟩ := F2.out t p hp
      have z0 := F3.out wr (H16.out.rep (xs.length + 0) _ (get_r rfl)) t p hp
      have HSB : Hid (SB wr p.2.1 p.2.2) := H16.out.sb (xs.length + (t + 1)) (get_r (lz_get hp))
      by_cases ht4 : t < 4
      · have hd1 : decide ((t : Int) < 4) = true := decide_eq_true (by omega)
        have hd2 : decide ((4 : Int) ≤ (t : Int)) = false := decide_eq_false (by omega)
        have hd3 : decide (t < 4) = true := decide_eq_true ht4
        have hd4 : decide (4 ≤ t) = false := decide_eq_false (by omega)
        have hpA := f1 ht4
        rw [hpv, hpA] at z0 HSB
        have HE : Hid (eqB A A = true) := by show _ = _; simp [eqB]
        clear f1 f2 hpv hpA hp
        go_wp2_with fail
        refine (same_any _ _ A A wr HSB.out (H16.out.sb j (get_l HJ.out))).mono ?_
        rintro e w17 ⟨rfl, n17, hw17⟩
        rw [HE.out]
        have H17 := hide (H16.out.drewN n17)
        rw [← hw17] at H17
        clear hw17
        go_wp2
        go_roundw
        case rel => exact ⟨t + 1, by omega, by go_num, H17.out⟩
        case measure => simp [intOf]; omega
      · have hd1 : decide ((t : Int) < 4) = false := decide_eq_false (by omega)
        have hd2 : decide ((4 : Int) ≤ (t : Int)) = true := decide_eq_true (by omega)
        have hd3 : decide (t < 4) = false := decide_eq_false ht4
        have hd4 : decide (4 ≤ t) = true := decide_eq_true (by omega)
        have hpA := f2 ht4
        rw [hpv, hpA, HL1.out] at z0
        clear f1 f2 hpv hpA hp HSB
        go_wp2
        go_roundw
        case rel => exact ⟨t + 1, by omega, by go_num, H16.out⟩
        case measure => simp [intOf]; omega
    · have ht6' : ¬ (t : Int) < 6 := by omega
      have H18 : Hid (∃ Kb hs, hs.length = 0 ∧ Herd W wr ((((Kb, tk (.slice none 0 0) (ez hs)) :: (xs ++ [(KB, tb blk O)])) ++ hz hs) ++ lz (LS.drop 0))) := by
        refine ⟨fun _ => 0, [], rfl, ?_⟩
        have h := H16.out.front (tk_nil wr)
        rw [← List.singleton_append (x := (KB, tb blk O)), ← List.append_assoc] at h
        simpa [hz, ez] using h
      clear H16
      go_wp2
      go_loopw [14, 15] (fun bv n wr => ∃ t : Nat, t ≤ 6 ∧ n = .int .i64 t ∧ Hid (∃ Kb hs, hs.length = t ∧ Herd W wr ((((Kb, tk bv (ez hs)) :: (xs ++ [(KB, tb blk O)])) ++ hz hs) ++ lz (LS.drop t)))) (fun _ n _ => 6 - (intOf n).toNat)
      case atStart => exact ⟨0, by omega, rfl, H18.out⟩
      case round =>
        clear H18 ht6 ht6' ht
        rename_i t0
        obtain ⟨t, ht, rfl, HQ⟩ := hrel
        obtain ⟨Kb, hs, hsl, hH⟩ := HQ.out
        obtain ⟨ba, bc, hbv⟩ := tk_shape (show (tk u14 (ez hs)).P wr Kb from hH.rep 0 _ rfl)
        subst hbv
        have H19 := hide hH
        clear hH HQ
        by_cases ht6 : t < 6
        · have ht6' : (t : Int) < 6 := by omega
          obtain ⟨p, hp⟩ : ∃ p, LS[t]? = some p := ⟨LS[t]'(by rw [F1.out]; exact ht6), by simp [F1.out, ht6]⟩
          obtain ⟨f1, f2, pa, pc, hpv⟩ := F2.out t p hp
          have z0 := F3.out wr (H19.out.rep (xs.length + 1) _ (get_l (get_l (by show (xs ++ [(KB, tb blk O)])[xs.length]? = _; exact get_at _ _ [])))) t p hp
          have hpl : p.2.2.length ≤ 1048577 := by
            by_cases h4 : t < 4
            · rw [f1 h4]; omega
            · rw [f2 h4, HL1.out]; omega
          rw [lz_drop hp] at H19
          rw [hpv] at z0 H19
          obtain ⟨T, HT⟩ : ∃ T, Hid (T = p.2.2) := ⟨_, rfl⟩
          rw [← HT.out] at z0 H19 hpl
          obtain ⟨m, hm⟩ : ∃ m, IntKind.u8.wrap (20 * (t : Int) + 1) = m := ⟨_, rfl⟩
          have hmb : 0 ≤ m ∧ m < 256 := by rw [← hm]; exact wrap8_in
          obtain ⟨hm0, hm1⟩ := hmb
          have HES : Hid ((ez hs).length ≤ 100) := by show _ ≤ _; rw [ez_len]; omega
          clear f1 f2 hpv hp
          go_wp2_with fail
          refine (hhold H19.out m hm0 hm1 hpl).mono ?_
          rintro e w20 ⟨M20, K20, rfl, ⟨am, cm, hM20⟩, hH⟩
          subst hM20
          have H20 := hide hH
          clear hH
          go_wp2_with (at_builtin; refine wpList_book rfl _ _ rfl H20.out 0 rfl ⟨.slice pa T.length pc, .slice am (T.length + 1) cm, T.length, m⟩ _ rfl rfl (Nat.le_trans HES.out (by omega)) rfl rfl ?_)
          intro gb cb w21 K21 hH
          have H21 : Hid (Herd W w21 ((((K21, tk (.slice (some ⟨gb, 0, none⟩) ((ez hs).length + 1) cb) (ez hs ++ [⟨.slice pa T.length pc, .slice am (T.length + 1) cm, T.length, m⟩])) :: (xs ++ [(KB, tb blk O)])) ++ hz hs) ++ ((K20, th ⟨.slice pa T.length pc, .slice am (T.length + 1) cm, T.length, m⟩) :: lz (LS.drop (t + 1))))) := by
            show Herd _ _ _
            simpa only [List.cons_append, List.append_assoc, List.nil_append] using hH
          clear hH
          have H22 : Hid (∃ Kb hs2, hs2.length = t + 1 ∧ Herd W w21 ((((Kb, tk (.slice (some ⟨gb, 0, none⟩) ((ez hs).length + 1) cb) (ez hs2)) :: (xs ++ [(KB, tb blk O)])) ++ hz hs2) ++ lz (LS.drop (t + 1)))) := by
            refine ⟨K21, hs ++ [(K20, ⟨.slice pa T.length pc, .slice am (T.length + 1) cm, T.length, m⟩)], by rw [List.length_append, hsl]; rfl, ?_⟩
            have h := H21.out
            rw [← ez_snoc hs K20] at h
            rw [hz_snoc]
            simpa only [List.cons_append, List.append_assoc, List.nil_append] using h
          clear H21 H20 H19
          go_wp2
          go_roundw
          case rel =>
            exact ⟨t + 1, by omega, by go_num, H22.out⟩
          case measure => simp [intOf]; omega
        · obtain rfl : t = 6 := by omega
          go_wp2_with fail
          refine (stands_any _ _ wr (hbook H19.out 0 rfl hz_has)).mono ?_
          rintro e w22 ⟨rfl, hb⟩
          have H22 := hide (H19.out.below hb)
          clear hb
          go_wp2_with fail
          refine (hbytes H22.out (i + 1) (get_l (get_l (by show (xs ++ [(KB, tb blk O)])[i]? = _; exact get_l HI.out)))).mono ?_
          rintro e w23 ⟨a23, c23, K23, rfl, hH⟩
          rw [HPK.out] at hH ⊢
          have H23 := hide hH
          clear hH
          have HE : Hid (eqB A A = true) := by show _ = _; simp [eqB]
          go_wp2_with fail
          refine (same_any _ _ A A w23 (H23.out.sb _ (get_at _ _ [])) (H23.out.sb (j + 1) (get_l (get_l (get_l (by show (xs ++ [(KB, tb blk O)])[j]? = _; exact get_l HJ.out)))))).mono ?_
          rintro e w24 ⟨rfl, n24, hw24⟩
          rw [HE.out]
          have H24 := hide (H23.out.drewN n24)
          rw [← hw24] at H24
          have HF : Hid (Herd W w24 xs) := H24.out.cut.cut.cut.rest.cut
          clear hw24
          go_wp2
          go_ret
          exact ⟨rfl, HF.out⟩
end Go.Proofs.Ytklffkbcigehfab
