import Derived.Test.YtklffkbcigehfabOwn6
namespace Go.Proofs.Ytklffkbcigehfab
open Go.RowKit Go.Maps
set_option maxRecDepth 20000

/-- The parts in memory. -/
def LSc (w : World) (v : Value) (ps : List (Value × List Int)) : Prop :=
  ∃ ao cap, v = .slice ao ps.length cap ∧ ps.length ≤ cap ∧ cap ≤ maxLen ∧ ∀ (i : Nat) (p : Value × List Int), ps[i]? = some p → ∃ b of, ao = some ⟨b, of, none⟩ ∧ w.cell? ⟨b, of + i, none⟩ = some p.1

def LOk (w : World) (ps : List (Value × List Int)) : Prop := ∀ p ∈ ps, SB w p.1 p.2 ∧ Byt p.2 ∧ p.2.length ≤ 1048576

theorem LSc.len {w : World} {v : Value} {ps : List (Value × List Int)} (h : LSc w v ps) : ∃ a c, v = .slice a ps.length c ∧ ps.length ≤ c ∧ c ≤ 9223372036854775807 := by
  obtain ⟨a, c, h, h1, h2, _⟩ := h
  unfold maxLen at h2
  exact ⟨a, c, h, h1, h2⟩

theorem LSc.item {W w : World} {ao : Option Addr} {cap : Nat} {ps : List (Value × List Int)} (h : LSc W (.slice ao ps.length cap) ps) (hb : Below W.heap.size W w) {k : Nat} {p : Value × List Int} (hp : ps[k]? = some p) :
    ∃ b of, ao = some ⟨b, of, none⟩ ∧ w.cell? ⟨b, of + k, none⟩ = some p.1 := by
  obtain ⟨ao', cap', hue, hc1, hc2, hc3⟩ := h
  simp only [Value.slice.injEq] at hue
  obtain ⟨rfl, -, rfl⟩ := hue
  obtain ⟨b, of, rfl, h0⟩ := hc3 k p hp
  exact ⟨b, of, rfl, (hb.cell (World.block_lt_of_cell? _ _ h0)).trans h0⟩

/-- The first k parts, one behind the other. -/
def cat (ps : List (Value × List Int)) (k : Nat) : List Int := ((ps.take k).map (·.2)).flatten

theorem cat_zero (ps : List (Value × List Int)) : cat ps 0 = [] := by simp [cat]

theorem cat_succ {ps : List (Value × List Int)} {k : Nat} {p : Value × List Int} (h : ps[k]? = some p) : cat ps (k + 1) = cat ps k ++ p.2 := by
  unfold cat
  rw [take_snoc h]
  simp

theorem cat_byt {w : World} {ps : List (Value × List Int)} (h : LOk w ps) : ∀ k, Byt (cat ps k)
  | 0 => by rw [cat_zero]; exact byt_nil
  | k + 1 => by
    by_cases hk : k < ps.length
    · have hp : ps[k]? = some ps[k] := by simp [hk]
      rw [cat_succ hp]
      exact byt_append (cat_byt h k) (h _ (List.getElem_mem hk)).2.1
    · have := cat_byt h k
      unfold cat at this ⊢
      rw [List.take_of_length_le (by omega)] at this ⊢
      exact this

theorem cat_split {ps : List (Value × List Int)} {k : Nat} {p : Value × List Int} (h : ps[k]? = some p) : ∃ R, cat ps ps.length = cat ps k ++ (p.2 ++ R) := by
  refine ⟨((ps.drop (k + 1)).map (·.2)).flatten, ?_⟩
  obtain ⟨hk, rfl⟩ := List.getElem?_eq_some_iff.1 h
  unfold cat
  rw [List.take_of_length_le (Nat.le_refl _)]
  have e : ps = ps.take k ++ (ps[k] :: ps.drop (k + 1)) := by rw [← List.drop_eq_getElem_cons hk, List.take_append_drop]
  have e2 := congrArg (fun l : List (Value × List Int) => (l.map (·.2)).flatten) e
  simp only [List.map_append, List.map_cons, List.flatten_append, List.flatten_cons] at e2
  exact e2

/-- A part of a list that is read. -/
theorem SB.part {w : World} {b o n c : Nat} {l l1 l2 : List Int} {A : List Int} (h : SB w (.slice (some ⟨b, o, none⟩) n c) A) (hA : A = l1 ++ (l ++ l2)) : SB w (.slice (some ⟨b, o + l1.length, none⟩) l.length (c - l1.length)) l := by
  obtain ⟨ao, cap, e, h1, h2, h3, h4⟩ := h
  simp only [Value.slice.injEq] at e
  obtain ⟨rfl, rfl, rfl⟩ := e
  have hl : A.length = l1.length + (l.length + l2.length) := by rw [hA, List.length_append, List.length_append]
  refine ⟨_, _, rfl, by omega, by omega, (fun h => by cases h), fun x hx i hi => ?_⟩
  cases hx
  have := h4 _ rfl (l1.length + i) (by omega)
  rw [Addr.add_lit] at this ⊢
  rw [Nat.add_assoc, this, hA]
  simp only [List.getD]
  rw [List.getElem?_append_right (by omega), show l1.length + i - l1.length = i by omega, List.getElem?_append_left hi]

theorem SB.nothing (w : World) (ao : Option Addr) (c : Nat) (h : ao = none → c = 0) (hc : c ≤ maxLen) : SB w (.slice ao 0 c) [] :=
  ⟨ao, c, rfl, Nat.zero_le _, hc, h, fun x _ i hi => by simp at hi⟩

/-- The first herd: the writer, all, the book, what was handed out. -/
def X3 (Kw Ka Kb : Nat → Nat) (g : Nat) (A : List Int) (av bv : Value) (hs : List ((Nat → Nat) × He)) : List ((Nat → Nat) × Thing) := (Kw, tw g (unpack A)) :: (Ka, tl av A) :: (Kb, tk bv (ez hs)) :: hz hs

structure Inv (W wr : World) (g : Nat) (A : List Int) (av bv : Value) (Kw Ka Kb : Nat → Nat) (hs : List ((Nat → Nat) × He)) : Prop where
  herd : Herd W wr (X3 Kw Ka Kb g A av bv hs)

set_option maxHeartbeats 4000000 in
theorem own_walk (vo : Value) (ps : List (Value × List Int)) (w : World) (hI : LSc w vo ps) (hO : LOk w ps) (hn : ps.length ≤ 1048576) :
    Calls Try.prog 3 #[vo] w fun e w' => e = .returned (.bool true) ∧ Below w.heap.size w w' := by
  obtain ⟨ao, cap, hvo, hcap1, hcap2⟩ := hI.len
  subst hvo
  have HI := hide hI
  have HO := hide hO
  clear hI hO
  go_enter Try.func3, Try.ntmps3
  go_wp2_with fail
  refine (hnewW (Herd.nil w)).mono ?_
  rintro e w1 ⟨g, K, rfl, hH⟩
  have H1 : Hid (∃ Kw Ka Kb hs, hs.length = 2 * 0 ∧ (cat ps 0).length ≤ 1048576 ∧ Herd w w1 (X3 Kw Ka Kb g (cat ps 0) (.slice none 0 0) (.slice none 0 0) hs)) := by
    refine ⟨K, fun _ => 0, fun _ => 0, [], rfl, by rw [cat_zero]; simp, ?_⟩
    rw [cat_zero]
    have h1 := (hH.push (Below.refl _ _) (tl_nil w1) (fun k hk => absurd rfl hk)).push (Below.refl _ _) (tk_nil w1) (fun k hk => absurd rfl hk)
    exact h1
  clear hH
  go_wp2
  go_loopw [4, 5, 6] (fun av bv i wr => ∃ k : Nat, i = .int .i64 k ∧ k ≤ ps.length ∧ Hid (∃ Kw Ka Kb hs, hs.length = 2 * k ∧ (cat ps k).length ≤ 1048576 ∧ Herd w wr (X3 Kw Ka Kb g (cat ps k) av bv hs))) (fun _ _ i _ => ps.length - (intOf i).toNat)
  case atStart => exact ⟨0, rfl, Nat.zero_le _, H1.out⟩
  case round =>
    clear H1
    obtain ⟨k, rfl, hk, HQ⟩ := hrel
    obtain ⟨Kw, Ka, Kb, hs, hsl, hAl, hH⟩ := HQ.out
    obtain ⟨aa, ac, hav⟩ := (show (tl u4 (cat ps k)).P wr Ka from hH.rep 1 _ rfl).1.shape
    subst hav
    obtain ⟨ba, bc, hbv⟩ := tk_shape (show (tk u5 (ez hs)).P wr Kb from hH.rep 2 _ rfl)
    subst hbv
    have H2 := hide hH
    clear hH HQ
    by_cases hlt : k < ps.length
    · have hlt' : (k : Int) < (ps.length : Int) := by omega
      obtain ⟨p, hp⟩ : ∃ p, ps[k]? = some p := ⟨ps[k], by simp [hlt]⟩
      obtain ⟨b, of, hab, q0⟩ := HI.out.item H2.out.bel hp
      subst hab
      obtain ⟨hps, hpB, hpl⟩ := HO.out p (List.mem_of_getElem? hp)
      obtain ⟨da, dc, hd⟩ := hps.len
      rw [hd] at q0 hps
      have HPS := hide hps
      have HPB := hide hpB
      have HBC := hide (cat_byt HO.out k)
      have HCS := hide (cat_succ hp)
      obtain ⟨A, HA⟩ : ∃ A, Hid (A = cat ps k) := ⟨_, rfl⟩
      obtain ⟨l, HLp⟩ : ∃ l, Hid (l = p.2) := ⟨_, rfl⟩
      rw [← HA.out] at hAl H2 HBC HCS
      rw [← HLp.out] at q0 HPS HPB hpl HCS
      rw [← HA.out]
      have HCE : Hid (∀ wq, Below w.heap.size w wq → wq.cell? ⟨b, of + k, none⟩ = some (.slice da l.length dc)) := fun wq hb => by
        obtain ⟨b', of', e, h⟩ := HI.out.item hb hp
        simp only [Option.some.injEq, Addr.mk.injEq, and_true] at e
        obtain ⟨rfl, rfl⟩ := e
        rw [hd, ← HLp.out] at h
        exact h
      clear hps hpB hd hp
      by_cases hbig : 1048576 < A.length + l.length
      · have hbig' : 1048576 < (A.length : Int) + (l.length : Int) := by omega
        have HBL := hide H2.out.bel
        go_wp2
        go_ret
        exact ⟨rfl, HBL.out⟩
      · have hbig' : ¬ 1048576 < (A.length : Int) + (l.length : Int) := by omega
        obtain ⟨A', HA'⟩ : ∃ A', Hid (A' = A ++ l) := ⟨_, rfl⟩
        have hAl' : A'.length = A.length + l.length := by rw [HA'.out, List.length_append]
        have HAL := hide hAl'
        have hAm : A'.length ≤ 1048576 := by omega
        have HBA : Hid (Byt A') := by rw [HA'.out]; exact byt_append HBC.out HPB.out
        have P1 : Hid (rawE (unpack A) l = 0 ∧ rawRow (unpack A) l = unpack A') := by
          show _ ∧ _
          rw [HA'.out, unpack_append]
          unfold rawE rawRow
          rw [length_unpack, if_neg (by omega), if_neg (by omega), if_neg (by omega), if_neg (by omega)]
          exact ⟨rfl, rfl⟩
        clear hAl'
        go_wp2_with fail
        refine (copied_any _ l wr (HPS.out.below H2.out.bel) (by omega)).mono ?_
        rintro e w2 ⟨ga, gc, rfl, ho, hb⟩
        obtain ⟨Kg, hH⟩ := H2.out.list hb ho
        have H3 : Hid (Herd w w2 ((Kw, tw g (unpack A)) :: (Ka, tl (.slice aa A.length ac) A) :: (Kb, tk (.slice ba (ez hs).length bc) (ez hs)) :: (hz hs ++ [(Kg, tl (.slice ga l.length gc) l)]))) := hH
        clear hH ho hb q0
        go_wp2_with fail
        refine (hraw H3.out 0 rfl (.slice ga l.length gc) l HPB.out (H3.out.sb _ (get_at ((Kw, tw g (unpack A)) :: (Ka, tl (.slice aa A.length ac) A) :: (Kb, tk (.slice ba (ez hs).length bc) (ez hs)) :: hz hs) _ [])) (fun j hj _ => H3.out.sep _ 0 _ _ (get_at ((Kw, tw g (unpack A)) :: (Ka, tl (.slice aa A.length ac) A) :: (Kb, tk (.slice ba (ez hs).length bc) (ez hs)) :: hz hs) _ []) rfl (by simp) j ((show (tl (.slice ga l.length gc) l).P w2 Kg from H3.out.rep _ _ (get_at ((Kw, tw g (unpack A)) :: (Ka, tl (.slice aa A.length ac) A) :: (Kb, tk (.slice ba (ez hs).length bc) (ez hs)) :: hz hs) _ [])).2.1 j hj))).mono ?_
        rintro e w3 ⟨rfl, K3, hH⟩
        rw [P1.out.1]
        rw [P1.out.2] at hH
        have H4 : Hid (Herd w w3 ((K3, tw g (unpack A')) :: (Ka, tl (.slice aa A.length ac) A) :: (Kb, tk (.slice ba (ez hs).length bc) (ez hs)) :: (hz hs ++ [(Kg, tl (.slice ga l.length gc) l)]))) := hH
        clear hH
        have q3 := HCE.out w3 H4.out.bel
        have HE : Hid (eqB l l = true) := by show _ = _; simp [eqB]
        go_wp2_with fail
        refine (same_any _ _ l l w3 (H4.out.sb _ (get_at ((K3, tw g (unpack A')) :: (Ka, tl (.slice aa A.length ac) A) :: (Kb, tk (.slice ba (ez hs).length bc) (ez hs)) :: hz hs) _ [])) (HPS.out.below H4.out.bel)).mono ?_
        rintro e w4 ⟨rfl, n4, hw4⟩
        rw [HE.out]
        have H5 := hide (H4.out.drewN n4)
        rw [← hw4] at H5
        clear hw4 q3
        have q4 := HCE.out w4 H5.out.bel
        go_wp2_with fail
        refine (copied_any _ l w4 (HPS.out.below H5.out.bel) (by omega)).mono ?_
        rintro e w5 ⟨ta, tc, rfl, ho, hb⟩
        have HT := hide ho.sb.src
        have H6 := hide (H5.out.below hb)
        clear ho hb q4
        have HOA : Hid (OB w5 0 (.slice aa A.length ac) A) := (show (tl (.slice aa A.length ac) A).P w5 Ka from H6.out.rep 1 _ rfl).1
        go_wp2_with (at_builtin; refine wpList_app rfl _ _ 25 rfl 0 _ _ A l rfl HOA.out rfl HT.out (by omega) (Nat.zero_le _) ?_)
        intro v6 w6 ho hgr
        rw [← HA'.out] at ho
        obtain ⟨K6, hH⟩ := H6.out.app 1 rfl ho hgr
        obtain ⟨a6, c6, hv6⟩ := ho.shape
        subst hv6
        have H7 : Hid (Herd w w6 (((K3, tw g (unpack A')) :: (K6, tl (.slice a6 A'.length c6) A') :: (Kb, tk (.slice ba (ez hs).length bc) (ez hs)) :: hz hs) ++ (Kg, tl (.slice ga l.length gc) l) :: [])) := hH
        clear hH ho hgr HT HOA
        obtain ⟨m, hm⟩ : ∃ m, IntKind.u8.wrap (7 * (k : Int)) = m := ⟨_, rfl⟩
        have hmb : 0 ≤ m ∧ m < 256 := by rw [← hm]; exact wrap8_in
        obtain ⟨hm0, hm1⟩ := hmb
        have HES : Hid ((ez hs).length ≤ 2097152) := by show _ ≤ _; rw [ez_len]; omega
        go_wp2_with fail
        refine (hhold H7.out m hm0 hm1 (by omega)).mono ?_
        rintro e w7 ⟨M7, K7, rfl, ⟨am, cm, hM7⟩, hH⟩
        subst hM7
        have H8 := hide hH
        clear hH
        go_wp2_with (at_builtin; refine wpList_book rfl _ _ rfl H8.out 2 rfl ⟨.slice ga l.length gc, .slice am (l.length + 1) cm, l.length, m⟩ _ rfl rfl (Nat.le_trans HES.out (by omega)) rfl rfl ?_)
        intro gb cb w8 K8 hH
        have H9 : Hid (Herd w w8 ((K3, tw g (unpack A')) :: (K6, tl (.slice a6 A'.length c6) A') :: (K8, tk (.slice (some ⟨gb, 0, none⟩) ((ez hs).length + 1) cb) (ez hs ++ [⟨.slice ga l.length gc, .slice am (l.length + 1) cm, l.length, m⟩])) :: (hz hs ++ [(K7, th ⟨.slice ga l.length gc, .slice am (l.length + 1) cm, l.length, m⟩)]))) := hH
        clear hH
        rw [← hz_snoc, ← ez_snoc] at H9
        obtain ⟨hs2, HS2⟩ : ∃ hs2, Hid (hs2 = hs ++ [(K7, (⟨.slice ga l.length gc, .slice am (l.length + 1) cm, l.length, m⟩ : He))]) := ⟨_, rfl⟩
        rw [← HS2.out] at H9
        have HS2l : Hid (hs2.length = 2 * k + 1) := by show _ = _; rw [HS2.out, List.length_append, hsl]; rfl
        have HES2 : Hid ((ez hs2).length ≤ 2097152) := by show _ ≤ _; rw [ez_len, HS2l.out]; omega
        have HPK : Hid (pack (unpack A') = A') := pack_unpack HBA.out
        go_wp2_with fail
        refine (hbytes H9.out 0 rfl).mono ?_
        rintro e w9 ⟨a9, c9, K9, rfl, hH⟩
        rw [HPK.out]
        rw [HPK.out] at hH
        have H10 := hide hH
        clear hH
        have HE2 : Hid (eqB A' A' = true) := by show _ = _; simp [eqB]
        go_wp2_with fail
        refine (same_any _ _ A' A' w9 (H10.out.sb _ (get_at _ _ [])) (H10.out.sb 1 rfl)).mono ?_
        rintro e w10 ⟨rfl, n10, hw10⟩
        rw [HE2.out]
        have H11 := hide (H10.out.drewN n10)
        rw [← hw10] at H11
        clear hw10
        obtain ⟨m2, hm2⟩ : ∃ m, IntKind.u8.wrap (7 * (k : Int) + 3) = m := ⟨_, rfl⟩
        have hmb2 : 0 ≤ m2 ∧ m2 < 256 := by rw [← hm2]; exact wrap8_in
        obtain ⟨hm20, hm21⟩ := hmb2
        go_wp2_with fail
        refine (hhold H11.out m2 hm20 hm21 (by omega)).mono ?_
        rintro e w11 ⟨M11, K11, rfl, ⟨am2, cm2, hM11⟩, hH⟩
        subst hM11
        have H12 := hide hH
        clear hH
        go_wp2_with (at_builtin; refine wpList_book rfl _ _ rfl H12.out 2 rfl ⟨.slice a9 A'.length c9, .slice am2 (A'.length + 1) cm2, A'.length, m2⟩ _ rfl rfl (Nat.le_trans HES2.out (by omega)) rfl rfl ?_)
        intro gb2 cb2 w12 K12 hH
        have H13 : Hid (Herd w w12 ((K3, tw g (unpack A')) :: (K6, tl (.slice a6 A'.length c6) A') :: (K12, tk (.slice (some ⟨gb2, 0, none⟩) ((ez hs2).length + 1) cb2) (ez hs2 ++ [⟨.slice a9 A'.length c9, .slice am2 (A'.length + 1) cm2, A'.length, m2⟩])) :: (hz hs2 ++ [(K11, th ⟨.slice a9 A'.length c9, .slice am2 (A'.length + 1) cm2, A'.length, m2⟩)]))) := hH
        clear hH
        rw [← hz_snoc, ← ez_snoc] at H13
        obtain ⟨hs3, HS3⟩ : ∃ hs3, Hid (hs3 = hs2 ++ [(K11, (⟨.slice a9 A'.length c9, .slice am2 (A'.length + 1) cm2, A'.length, m2⟩ : He))]) := ⟨_, rfl⟩
        rw [← HS3.out] at H13
        have HS3l : Hid (hs3.length = 2 * (k + 1)) := by show _ = _; rw [HS3.out, List.length_append, HS2l.out]; simp; omega
        go_wp2_with fail
        refine (stands_any _ _ w12 (hbook H13.out 2 rfl (by
          have := hz_has (xs := [(K3, tw g (unpack A')), (K6, tl (.slice a6 A'.length c6) A'), (K12, tk (.slice (some ⟨gb2, 0, none⟩) ((ez hs2).length + 1) cb2) (ez hs3))]) (ys := []) (hs := hs3)
          rw [List.append_nil] at this
          exact this))).mono ?_
        rintro e w13 ⟨rfl, hb⟩
        have H14 : Hid (Herd w w13 (X3 K3 K6 K12 g A' (.slice a6 A'.length c6) (.slice (some ⟨gb2, 0, none⟩) ((ez hs2).length + 1) cb2) hs3)) := H13.out.below hb
        clear hb
        go_wp2
        go_roundw
        case rel => exact ⟨k + 1, by go_num, by omega, _, _, _, hs3, HS3l.out, by rw [HCS.out, ← HA'.out]; exact hAm, by rw [HCS.out, ← HA'.out]; exact H14.out⟩
        case measure => simp [intOf]; omega
    · obtain rfl : k = ps.length := by omega
      have hlt' : ¬ (ps.length : Int) < (ps.length : Int) := by omega
      have HBC := hide (cat_byt HO.out ps.length)
      have HCT : Hid (∀ (i : Nat) (p : Value × List Int), ps[i]? = some p → ∃ R, cat ps ps.length = cat ps i ++ (p.2 ++ R)) := fun i p hp => cat_split hp
      obtain ⟨A, HA⟩ : ∃ A, Hid (A = cat ps ps.length) := ⟨_, rfl⟩
      rw [← HA.out] at hAl H2 HBC HCT
      rw [← HA.out]
      have HE : Hid (eqB A A = true) := by show _ = _; simp [eqB]
      go_wp2_with fail
      refine (copied_any _ A wr (H2.out.sb 1 rfl) (by omega)).mono ?_
      rintro e w2 ⟨ga, gc, rfl, ho, hb⟩
      obtain ⟨Kg, hH⟩ := H2.out.list hb ho
      have H3 := hide hH
      clear hH ho hb
      go_wp2_with fail
      refine (hnewR H3.out _ A (H3.out.sb _ (get_at _ _ [])) HBC.out (by omega)).mono ?_
      rintro e w3 ⟨gr, Kr, rfl, hH⟩
      have H4 : Hid (Herd w w3 (((Kw, tw g (unpack A)) :: (Ka, tl (.slice aa A.length ac) A) :: (Kb, tk (.slice ba (ez hs).length bc) (ez hs)) :: (Kr, tr gr (unpack A) 0) :: hz hs) ++ (Kg, tl (.slice ga A.length gc) A) :: [])) := Herd.rot (T := hz hs ++ [(Kg, tl (.slice ga A.length gc) A)]) hH
      clear hH
      go_wp2_with fail
      refine (same_any _ _ A A w3 (H4.out.sb _ (get_at _ _ [])) (H4.out.sb 1 rfl)).mono ?_
      rintro e w4 ⟨rfl, n4, hw4⟩
      rw [HE.out]
      have H5 := hide (H4.out.drewN n4)
      rw [← hw4] at H5
      clear hw4
      have HES : Hid ((ez hs).length ≤ 2097152) := by show _ ≤ _; rw [ez_len]; omega
      go_wp2_with fail
      refine (hhold H5.out 200 (by omega) (by omega) (by omega)).mono ?_
      rintro e w5 ⟨M5, K5, rfl, ⟨am, cm, hM5⟩, hH⟩
      subst hM5
      have H6 := hide hH
      clear hH
      go_wp2_with (at_builtin; refine wpList_book rfl _ _ rfl H6.out 2 rfl ⟨.slice ga A.length gc, .slice am (A.length + 1) cm, A.length, 200⟩ _ rfl rfl (Nat.le_trans HES.out (by omega)) rfl rfl ?_)
      intro gb cb w6 K6 hH
      have H7 : Hid (∃ Kb Kr hs2, hs2.length = 2 * ps.length + 1 + 0 ∧ Herd w w6 ((Kw, tw g (unpack A)) :: (Ka, tl (.slice aa A.length ac) A) :: (Kb, tk (.slice (some ⟨gb, 0, none⟩) ((ez hs).length + 1) cb) (ez hs2)) :: (Kr, tr gr (unpack A) (8 * (cat ps 0).length)) :: hz hs2)) := by
        refine ⟨K6, Kr, hs ++ [(K5, ⟨.slice ga A.length gc, .slice am (A.length + 1) cm, A.length, 200⟩)], by rw [List.length_append, hsl]; rfl, ?_⟩
        rw [hz_snoc, ez_snoc, cat_zero]
        simpa only [List.cons_append, List.append_assoc, List.nil_append, List.length_nil, Nat.mul_zero] using hH
      have HC0 : Hid ((0 : Int) = ((cat ps 0).length : Nat)) := by show _ = _; rw [cat_zero]; rfl
      have HF := hide (H6.out.rep 1 _ rfl)
      clear hH H2 H3 H4 H5 H6 HES
      go_wp2
      go_loopw [5, 11, 12] (fun bv t n wr => ∃ k : Nat, k ≤ ps.length ∧ n = .int .i64 k ∧ t = .int .i64 (cat ps k).length ∧ Hid (∃ Kb Kr hs2, hs2.length = 2 * ps.length + 1 + k ∧ Herd w wr ((Kw, tw g (unpack A)) :: (Ka, tl (.slice aa A.length ac) A) :: (Kb, tk bv (ez hs2)) :: (Kr, tr gr (unpack A) (8 * (cat ps k).length)) :: hz hs2))) (fun _ _ n _ => ps.length - (intOf n).toNat)
      case atStart => exact ⟨0, Nat.zero_le _, rfl, by rw [← HC0.out], H7.out⟩
      case round =>
        clear H7 HF HC0
        obtain ⟨k, hk, rfl, rfl, HQ⟩ := hrel
        obtain ⟨Kb, Kr, hs, hsl, hH⟩ := HQ.out
        obtain ⟨ba, bc, hbv⟩ := tk_shape (show (tk u5 (ez hs)).P wr Kb from hH.rep 2 _ rfl)
        subst hbv
        have H8 := hide hH
        clear hH HQ
        by_cases hlt : k < ps.length
        · have hlt' : (k : Int) < (ps.length : Int) := by omega
          obtain ⟨p, hp⟩ : ∃ p, ps[k]? = some p := ⟨ps[k], by simp [hlt]⟩
          obtain ⟨b, of, hab, q0⟩ := HI.out.item H8.out.bel hp
          subst hab
          obtain ⟨hps, hpB, hpl⟩ := HO.out p (List.mem_of_getElem? hp)
          obtain ⟨da, dc, hd⟩ := hps.len
          rw [hd] at q0
          have HPB := hide hpB
          have HCS := hide (cat_succ hp)
          obtain ⟨R, hR⟩ := HCT.out k p hp
          obtain ⟨C, HC⟩ : ∃ C, Hid (C = cat ps k) := ⟨_, rfl⟩
          obtain ⟨l, HLp⟩ : ∃ l, Hid (l = p.2) := ⟨_, rfl⟩
          rw [← HC.out] at H8 HCS hR
          rw [← HLp.out] at q0 HPB hpl HCS hR
          rw [← HC.out]
          have hAlen : A.length = C.length + (l.length + R.length) := by rw [hR, List.length_append, List.length_append]
          have HR := hide hR
          have HRW : Hid (rrawE (unpack A) (8 * C.length) (l.length : Nat) = 0 ∧ rrawL (unpack A) (8 * C.length) (l.length : Nat) = l ∧ rrawP (unpack A) (8 * C.length) (l.length : Nat) = 8 * C.length + 8 * l.length) :=
            rraw_ok (by rw [length_unpack]; omega) (by omega) rfl HPB.out (rest := unpack R) (by rw [← unpack_drop, hR, List.drop_left' rfl, unpack_append])
          have hb1 : C.length + l.length ≤ A.length := by omega
          clear hps hpB hd hp hR hAlen
          go_wp2_with fail
          refine (hrraw H8.out 3 rfl _).mono ?_
          rintro e w9 ⟨ax, cx, Kx, rfl, hH⟩
          rw [HRW.out.2.1, HRW.out.1]
          rw [HRW.out.2.1, HRW.out.2.2] at hH
          have H9 : Hid (Herd w w9 (((Kw, tw g (unpack A)) :: (Ka, tl (.slice aa A.length ac) A) :: (Kb, tk (.slice ba (ez hs).length bc) (ez hs)) :: (Kr, tr gr (unpack A) (8 * C.length + 8 * l.length)) :: hz hs) ++ (Kx, tl (.slice ax l.length cx) l) :: [])) := hH
          clear hH
          have hsb := H9.out.sb 1 rfl
          have hcap := hsb.cap
          obtain ⟨hcp1, hcp2⟩ := hcap
          have hcase : (aa = none ∧ ac = 0 ∧ A = [] ∧ C = [] ∧ l = []) ∨ (∃ xb, aa = some ⟨xb, 0, none⟩ ∧ C.length = ac ∧ l.length = 0) ∨ (∃ xb, aa = some ⟨xb, 0, none⟩ ∧ ¬ C.length = ac) := by
            have h := (show (tl (.slice aa A.length ac) A).P w9 Ka from H9.out.rep 1 _ rfl).1
            rcases h.2 with ⟨h1, h2⟩ | ⟨g1, c1, cu1, h1, _⟩
            · simp only [Value.slice.injEq] at h1
              exact .inl ⟨h1.1, h1.2.2, List.eq_nil_of_length_eq_zero h2, List.eq_nil_of_length_eq_zero (by omega), List.eq_nil_of_length_eq_zero (by omega)⟩
            · simp only [Value.slice.injEq] at h1
              by_cases hed : C.length = ac
              · exact .inr (.inl ⟨g1, h1.1, hed, by omega⟩)
              · exact .inr (.inr ⟨g1, h1.1, hed⟩)
          have HSN : Hid (∀ (x : Addr), l.length = 0 → SB w9 (.slice (some x) l.length 0) l) := fun x h0 => by
            have : l = [] := List.eq_nil_of_length_eq_zero h0
            subst this
            exact SB.nothing _ _ _ (fun h => by cases h) (Nat.zero_le _)
          have HSP : Hid (∀ xb, aa = some ⟨xb, 0, none⟩ → SB w9 (.slice (some ⟨xb, C.length, none⟩) l.length (ac - C.length)) l) := fun xb e => by
            have h := hsb
            rw [e] at h
            have := h.part HR.out
            rwa [Nat.zero_add] at this
          clear hsb
          obtain ⟨m, hm⟩ : ∃ m, IntKind.u8.wrap (11 * (k : Int) + 1) = m := ⟨_, rfl⟩
          have hmb : 0 ≤ m ∧ m < 256 := by rw [← hm]; exact wrap8_in
          obtain ⟨hm0, hm1⟩ := hmb
          have HES : Hid ((ez hs).length ≤ 4194304) := by show _ ≤ _; rw [ez_len]; omega
          have HEl : Hid (eqB l l = true) := by show _ = _; simp [eqB]
          rcases hcase with ⟨rfl, rfl, hA0, hC0, hl0⟩ | ⟨xb, rfl, rfl, hl0⟩ | ⟨xb, rfl, hed⟩
          · have hz0 : C.length + l.length ≤ 0 := by rw [hC0, hl0]; simp
            have hz1 : (C.length : Int) + (l.length : Int) ≤ 0 := by omega
            have HSO : Hid (SB w9 (.slice none l.length 0) l) := by rw [hl0]; exact SB.nothing _ _ _ (fun _ => rfl) (Nat.zero_le _)
            clear hA0 hC0 hl0
            go_wp2_with fail
            refine (same_any _ _ l l w9 (H9.out.sb _ (get_at _ _ [])) HSO.out).mono ?_
            rintro e w10 ⟨rfl, n10, hw10⟩
            rw [HEl.out]
            clear hz0 hz1
            have H10 := hide (H9.out.drewN n10)
            rw [← hw10] at H10
            clear hw10
            go_wp2_with fail
            refine (hhold H10.out m hm0 hm1 (by omega)).mono ?_
            rintro e w11 ⟨M11, K11, rfl, ⟨am2, cm2, hM11⟩, hH⟩
            subst hM11
            have H11 := hide hH
            clear hH
            go_wp2_with (at_builtin; refine wpList_book rfl _ _ rfl H11.out 2 rfl ⟨.slice ax l.length cx, .slice am2 (l.length + 1) cm2, l.length, m⟩ _ rfl rfl (Nat.le_trans HES.out (by omega)) rfl rfl ?_)
            intro gb2 cb2 w12 K12 hH
            have H12 : Hid (∃ hs2, hs2.length = 2 * ps.length + 1 + (k + 1) ∧ Herd w w12 (((Kw, tw g (unpack A)) :: (Ka, tl (.slice none A.length 0) A) :: (K12, tk (.slice (some ⟨gb2, 0, none⟩) ((ez hs).length + 1) cb2) (ez hs2)) :: (Kr, tr gr (unpack A) (8 * C.length + 8 * l.length)) :: []) ++ hz hs2 ++ [])) := by
              refine ⟨hs ++ [(K11, ⟨.slice ax l.length cx, .slice am2 (l.length + 1) cm2, l.length, m⟩)], by rw [List.length_append, hsl, List.length_singleton]; omega, ?_⟩
              rw [hz_snoc, ez_snoc]
              simpa only [List.cons_append, List.append_assoc, List.nil_append, List.append_nil] using hH
            obtain ⟨hs2, hs2l, hH2⟩ := H12.out
            have H13 := hide hH2
            clear hH hH2 H12
            go_wp2_with fail
            refine (stands_any _ _ w12 (hbook H13.out 2 rfl hz_has)).mono ?_
            rintro e w13 ⟨rfl, hb⟩
            have H14 : Hid (∃ Kb Kr hs2, hs2.length = 2 * ps.length + 1 + (k + 1) ∧ Herd w w13 ((Kw, tw g (unpack A)) :: (Ka, tl (.slice none A.length 0) A) :: (Kb, tk (.slice (some ⟨gb2, 0, none⟩) ((ez hs).length + 1) cb2) (ez hs2)) :: (Kr, tr gr (unpack A) (8 * (cat ps (k + 1)).length)) :: hz hs2)) := by
              refine ⟨K12, Kr, hs2, hs2l, ?_⟩
              have h := H13.out.below hb
              rw [HCS.out, List.length_append, Nat.mul_add]
              simpa only [List.cons_append, List.append_assoc, List.nil_append, List.append_nil] using h
            have HCN : Hid (((cat ps (k + 1)).length : Int) = (C.length : Int) + l.length) := by show _ = _; rw [HCS.out, List.length_append]; omega
            clear hb H13
            go_wp2
            go_roundw
            case rel => exact ⟨k + 1, by omega, by go_num, by rw [HCN.out], H14.out⟩
            case measure => simp [intOf]; omega
          · have HL0 := hide hl0
            clear hl0
            go_wp2_with fail
            refine (same_any _ _ l l w9 (H9.out.sb _ (get_at _ _ [])) (HSN.out _ HL0.out)).mono ?_
            rintro e w10 ⟨rfl, n10, hw10⟩
            rw [HEl.out]
            have H10 := hide (H9.out.drewN n10)
            rw [← hw10] at H10
            clear hw10
            go_wp2_with fail
            refine (hhold H10.out m hm0 hm1 (by omega)).mono ?_
            rintro e w11 ⟨M11, K11, rfl, ⟨am2, cm2, hM11⟩, hH⟩
            subst hM11
            have H11 := hide hH
            clear hH
            go_wp2_with (at_builtin; refine wpList_book rfl _ _ rfl H11.out 2 rfl ⟨.slice ax l.length cx, .slice am2 (l.length + 1) cm2, l.length, m⟩ _ rfl rfl (Nat.le_trans HES.out (by omega)) rfl rfl ?_)
            intro gb2 cb2 w12 K12 hH
            have H12 : Hid (∃ hs2, hs2.length = 2 * ps.length + 1 + (k + 1) ∧ Herd w w12 (((Kw, tw g (unpack A)) :: (Ka, tl (.slice (some ⟨xb, 0, none⟩) A.length C.length) A) :: (K12, tk (.slice (some ⟨gb2, 0, none⟩) ((ez hs).length + 1) cb2) (ez hs2)) :: (Kr, tr gr (unpack A) (8 * C.length + 8 * l.length)) :: []) ++ hz hs2 ++ [])) := by
              refine ⟨hs ++ [(K11, ⟨.slice ax l.length cx, .slice am2 (l.length + 1) cm2, l.length, m⟩)], by rw [List.length_append, hsl, List.length_singleton]; omega, ?_⟩
              rw [hz_snoc, ez_snoc]
              simpa only [List.cons_append, List.append_assoc, List.nil_append, List.append_nil] using hH
            obtain ⟨hs2, hs2l, hH2⟩ := H12.out
            have H13 := hide hH2
            clear hH hH2 H12
            go_wp2_with fail
            refine (stands_any _ _ w12 (hbook H13.out 2 rfl hz_has)).mono ?_
            rintro e w13 ⟨rfl, hb⟩
            have H14 : Hid (∃ Kb Kr hs2, hs2.length = 2 * ps.length + 1 + (k + 1) ∧ Herd w w13 ((Kw, tw g (unpack A)) :: (Ka, tl (.slice (some ⟨xb, 0, none⟩) A.length C.length) A) :: (Kb, tk (.slice (some ⟨gb2, 0, none⟩) ((ez hs).length + 1) cb2) (ez hs2)) :: (Kr, tr gr (unpack A) (8 * (cat ps (k + 1)).length)) :: hz hs2)) := by
              refine ⟨K12, Kr, hs2, hs2l, ?_⟩
              have h := H13.out.below hb
              rw [HCS.out, List.length_append, Nat.mul_add]
              simpa only [List.cons_append, List.append_assoc, List.nil_append, List.append_nil] using h
            have HCN : Hid (((cat ps (k + 1)).length : Int) = (C.length : Int) + l.length) := by show _ = _; rw [HCS.out, List.length_append]; omega
            clear hb H13
            go_wp2
            go_roundw
            case rel => exact ⟨k + 1, by omega, by go_num, by rw [HCN.out], H14.out⟩
            case measure => simp [intOf]; omega
          · have HSQ := hide (HSP.out xb rfl)
            go_wp2_with fail
            refine (same_any _ _ l l w9 (H9.out.sb _ (get_at _ _ [])) HSQ.out).mono ?_
            rintro e w10 ⟨rfl, n10, hw10⟩
            rw [HEl.out]
            have H10 := hide (H9.out.drewN n10)
            rw [← hw10] at H10
            clear hw10
            go_wp2_with fail
            refine (hhold H10.out m hm0 hm1 (by omega)).mono ?_
            rintro e w11 ⟨M11, K11, rfl, ⟨am2, cm2, hM11⟩, hH⟩
            subst hM11
            have H11 := hide hH
            clear hH
            go_wp2_with (at_builtin; refine wpList_book rfl _ _ rfl H11.out 2 rfl ⟨.slice ax l.length cx, .slice am2 (l.length + 1) cm2, l.length, m⟩ _ rfl rfl (Nat.le_trans HES.out (by omega)) rfl rfl ?_)
            intro gb2 cb2 w12 K12 hH
            have H12 : Hid (∃ hs2, hs2.length = 2 * ps.length + 1 + (k + 1) ∧ Herd w w12 (((Kw, tw g (unpack A)) :: (Ka, tl (.slice (some ⟨xb, 0, none⟩) A.length ac) A) :: (K12, tk (.slice (some ⟨gb2, 0, none⟩) ((ez hs).length + 1) cb2) (ez hs2)) :: (Kr, tr gr (unpack A) (8 * C.length + 8 * l.length)) :: []) ++ hz hs2 ++ [])) := by
              refine ⟨hs ++ [(K11, ⟨.slice ax l.length cx, .slice am2 (l.length + 1) cm2, l.length, m⟩)], by rw [List.length_append, hsl, List.length_singleton]; omega, ?_⟩
              rw [hz_snoc, ez_snoc]
              simpa only [List.cons_append, List.append_assoc, List.nil_append, List.append_nil] using hH
            obtain ⟨hs2, hs2l, hH2⟩ := H12.out
            have H13 := hide hH2
            clear hH hH2 H12
            go_wp2_with fail
            refine (stands_any _ _ w12 (hbook H13.out 2 rfl hz_has)).mono ?_
            rintro e w13 ⟨rfl, hb⟩
            have H14 : Hid (∃ Kb Kr hs2, hs2.length = 2 * ps.length + 1 + (k + 1) ∧ Herd w w13 ((Kw, tw g (unpack A)) :: (Ka, tl (.slice (some ⟨xb, 0, none⟩) A.length ac) A) :: (Kb, tk (.slice (some ⟨gb2, 0, none⟩) ((ez hs).length + 1) cb2) (ez hs2)) :: (Kr, tr gr (unpack A) (8 * (cat ps (k + 1)).length)) :: hz hs2)) := by
              refine ⟨K12, Kr, hs2, hs2l, ?_⟩
              have h := H13.out.below hb
              rw [HCS.out, List.length_append, Nat.mul_add]
              simpa only [List.cons_append, List.append_assoc, List.nil_append, List.append_nil] using h
            have HCN : Hid (((cat ps (k + 1)).length : Int) = (C.length : Int) + l.length) := by show _ = _; rw [HCS.out, List.length_append]; omega
            clear hb H13
            go_wp2
            go_roundw
            case rel => exact ⟨k + 1, by omega, by go_num, by rw [HCN.out], H14.out⟩
            case measure => simp [intOf]; omega
        · have hlt' : ¬ (k : Int) < (ps.length : Int) := by omega
          have HPK : Hid (pack (unpack A) = A) := pack_unpack HBC.out
          go_wp2_with fail
          refine (hbytes H8.out 0 rfl).mono ?_
          rintro e w14 ⟨a14, c14, K14, rfl, hH⟩
          rw [HPK.out] at hH ⊢
          have H15 := hide hH
          clear hH
          go_wp2_with fail
          refine (same_any _ _ A A w14 (H15.out.sb _ (get_at _ _ [])) (H15.out.sb 1 rfl)).mono ?_
          rintro e w15 ⟨rfl, n15, hw15⟩
          rw [HE.out]
          have H16 := hide (H15.out.drewN n15)
          rw [← hw15] at H16
          clear hw15
          go_wp2_with fail
          refine (asked_any H16.out 0 1 rfl rfl HBC.out hAl).mono ?_
          rintro e w16 ⟨rfl, hH⟩
          have H17 := hide hH
          clear hH
          go_wp2_with fail
          refine (again_any H17.out 1 rfl HBC.out hAl).mono ?_
          rintro e w17 ⟨rfl, hH⟩
          have HF := hide hH.bel
          clear hH
          go_wp2
          go_ret
          exact ⟨rfl, HF.out⟩
end Go.Proofs.Ytklffkbcigehfab
