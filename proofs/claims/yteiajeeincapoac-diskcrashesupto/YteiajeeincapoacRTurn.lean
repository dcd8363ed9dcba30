import Derived.Test.YteiajeeincapoacRAsk
namespace Go.Proofs.Yteiajeeincapoac
open Go.RowKit Go.Maps

def rsNew (l : List Int) (c : Nat) : RSt := { room := c, now := l, dur := l, rps := [], sizes := [], calls := 0, fuse := -1, live := true }

theorem rnew_rep (v : Value) (l : List Int) (c : Nat) (w : World) (hs : SB w v l) (h1 : c ≤ 16777216) (h2 : l.length ≤ c) :
    Calls Try.prog 24 #[v, .int .i64 c] w fun e w' => ∃ g K, e = .returned (.tuple #[.pointer (some ⟨g, 0, none⟩), .int .i64 0]) ∧ RRep w' K g (rsNew l c) ∧ (∀ k, K k ≠ 0 → w.heap.size ≤ k) ∧ Below w.heap.size w w' := by
  refine (rnew_yes v l c w hs (by omega) (by omega)).mono ?_
  rintro e w' ⟨g, vn, vd, rfl, hrc, hn, hd, hap, hg, hb⟩
  have ng : ∀ k, vn.ownBlock = some k → k ≠ g := by
    intro k hk e
    obtain ⟨cur, fr, hc⟩ := hn.block hk
    subst e
    unfold RC at hrc
    rw [hrc] at hc
    simp at hc
  have nd : ∀ k, vd.ownBlock = some k → k ≠ g := by
    intro k hk e
    obtain ⟨cur, fr, hc⟩ := hd.block hk
    subst e
    unfold RC at hrc
    rw [hrc] at hc
    simp at hc
  refine ⟨g, fun k => if k = g then 1 else if vn.ownBlock = some k then 2 else if vd.ownBlock = some k then 3 else 0, rfl, ⟨vn, vd, .slice none 0 0, .slice none 0 0, ?_⟩, ?_, hb⟩
  · refine { rc := hrc, kg := by simp, hn := hn.base (Nat.zero_le _), kn := ?_, hd := hd.base (Nat.zero_le _), kd := ?_, hp := ⟨[], trivial, World.ownsRow_nil _ _ _ _⟩, kp := fun k hk => by simp [Value.ownBlock] at hk, hs := World.ownsRow_nil _ _ _ _, ks := fun k hk => by simp [Value.ownBlock] at hk, sup := ?_ }
    · intro k hk
      simp [ng k hk, hk]
    · intro k hk
      have : vn.ownBlock ≠ some k := fun e => hap k e hk
      simp [nd k hk, hk, this]
    · intro k hk
      by_cases e1 : k = g
      · subst e1; exact hrc.lt
      by_cases e2 : vn.ownBlock = some k
      · exact (hn.lt k e2).2
      by_cases e3 : vd.ownBlock = some k
      · exact (hd.lt k e3).2
      simp [e1, e2, e3] at hk
  · intro k hk
    by_cases e1 : k = g
    · omega
    by_cases e2 : vn.ownBlock = some k
    · exact (hn.lt k e2).1
    by_cases e3 : vd.ownBlock = some k
    · exact (hd.lt k e3).1
    simp [e1, e2, e3] at hk

theorem get_snoc {α : Type} {l : List α} {x y : α} {i : Nat} (h : (l ++ [x])[i]? = some y) : (l[i]? = some y) ∨ (i = l.length ∧ y = x) := by
  by_cases hi : i < l.length
  · rw [List.getElem?_append_left hi] at h
    exact .inl h
  · rw [List.getElem?_append_right (by omega)] at h
    have := (List.getElem?_eq_some_iff.1 h).1
    simp at this
    have e : i = l.length := by omega
    subst e
    simp at h
    exact .inr ⟨rfl, h.symm⟩

theorem Herd.push {W w w' : World} {xs : List ((Nat → Nat) × Nat × Thing)} (h : Herd W w xs) (hb : Below w.heap.size w w') {K : Nat → Nat} {g : Nat} {x : Thing} (hr : RepX w' K g x) (hu : ∀ k, K k ≠ 0 → w.heap.size ≤ k) : Herd W w' (xs ++ [(K, g, x)]) := by
  have h' := h.below hb
  have hs := h.bel.size
  refine ⟨h'.bel, fun i d hd => ?_, fun i d hd k hk => ?_, fun i j d e hd he hne k hk => ?_⟩
  · rcases get_snoc hd with hd | ⟨_, rfl⟩
    · exact h'.rep i d hd
    · exact hr
  · rcases get_snoc hd with hd | ⟨_, rfl⟩
    · exact h.up i d hd k hk
    · have := hu k hk; omega
  · rcases get_snoc hd with hd | ⟨e1, rfl⟩
    · rcases get_snoc he with he | ⟨e2, rfl⟩
      · exact h.sep i j d e hd he hne k hk
      · by_cases e0 : K k = 0
        · exact e0
        · exact absurd ((h.rep i d hd).zero (hu k e0)) hk
    · rcases get_snoc he with he | ⟨e2, rfl⟩
      · exact (h.rep j e he).zero (hu k hk)
      · omega

theorem pair_new (l : List Int) (c : Nat) (h1 : c ≤ 16777216) (h2 : l.length ≤ c) : Pair (stNew l c) (rsNew l c) 0 :=
  ⟨⟨rfl, rfl, rfl, rfl, rfl, rfl, rfl, fun _ => rfl⟩, (Run.new l c h1 h2).inv, Nat.zero_le _, Nat.zero_le _⟩

theorem made_herd {W w : World} {xs : List ((Nat → Nat) × Nat × Thing)} (v : Value) (l : List Int) (c : Nat) (h : Herd W w xs) (hs : SB W v l) (h1 : c ≤ 16777216) (h2 : l.length ≤ c) :
    Calls Try.prog 6 #[v, .int .i64 c] w fun e w' => ∃ g gr K KR, e = .returned (.tuple #[.pointer (some ⟨g, 0, none⟩), .pointer (some ⟨gr, 0, none⟩), .bool true]) ∧ Herd W w' (xs ++ [(K, g, .inl (stNew l c))] ++ [(KR, gr, .inr (rsNew l c))]) := by
  have HS := hide hs
  have HH := hide h
  obtain ⟨ao, k, hv, _⟩ := hs
  subst hv
  clear h
  go_enter Try.func6, Try.ntmps6
  go_wp2_with fail
  refine (clone_any _ l _ (HS.out.below HH.out.bel) (by omega)).mono ?_
  rintro e w1 ⟨_, rfl, rfl, hg, hb1⟩
  have HG : Hid (OB w1 w.heap.size (.slice (some ⟨w.heap.size, 0, none⟩) l.length l.length) l) := hg
  have HH1 := hide (HH.out.below hb1)
  clear hg hb1
  go_wp2_with fail
  refine (new_rep _ l c _ HG.out.sb h1 h2).mono ?_
  rintro e w2 ⟨g, K, rfl, hR2, hU2, hb2⟩
  have HH2 := hide (HH1.out.push hb2 (x := .inl (stNew l c)) hR2 hU2)
  have HG2 := hide (HG.out.below hb2 (Nat.le_refl _))
  clear hR2 hU2 hb2
  go_wp2_with fail
  refine (rnew_rep _ l c _ (HS.out.below HH2.out.bel) h1 h2).mono ?_
  rintro e w3 ⟨gr, KR, rfl, hR3, hU3, hb3⟩
  have HH3 := hide (HH2.out.push hb3 (x := .inr (rsNew l c)) hR3 hU3)
  have HG3 := hide (HG2.out.below hb3 (Nat.le_refl _))
  clear hR3 hU3 hb3
  go_wp2_with fail
  refine (num_any _ _).mono ?_
  rintro e w3 ⟨rfl, rfl⟩
  go_wp2_with fail
  refine (same_any _ _ l l _ HG3.out.sb (HS.out.below HH3.out.bel)).mono ?_
  rintro e w4 ⟨rfl, n, hw4⟩
  rw [eqB_self]
  have HH4 := hide (HH3.out.below (show Below w3.heap.size w3 w4 by rw [hw4]; exact below_drewN (Below.refl _ _) _))
  clear hw4
  go_wp2
  go_ret3
  exact ⟨g, gr, K, KR, rfl, HH4.out⟩

theorem made_none {W w : World} {xs : List ((Nat → Nat) × Nat × Thing)} (v : Value) (l : List Int) (c : Int) (h : Herd W w xs) (hs : SB W v l) (hr : l.length ≤ 140737488351232) (hc : ¬ ((0 ≤ c ∧ c ≤ 16777216) ∧ l.length ≤ c)) :
    Calls Try.prog 6 #[v, .int .i64 c] w fun e w' => e = .returned (.tuple #[.pointer none, .pointer none, .bool true]) ∧ Herd W w' xs := by
  have HS := hide (hs.below h.bel)
  obtain ⟨ao, k, hv, _, hk, _⟩ := hs
  unfold maxLen at hk
  subst hv
  have hno : Calls Try.prog 6 #[.slice ao l.length k, .int .i64 c] w fun e w' => e = .returned (.tuple #[.pointer none, .pointer none, .bool true]) ∧ Below w.heap.size w w' := by
    by_cases hr2 : 0 ≤ c ∧ c ≤ 16777216
    · exact made_no _ l c w HS.out hr 10 (fun W a k => new_full a l.length k c W hr2.1 hr2.2 (by omega) (by unfold maxLen; omega)) (fun W a k => rnew_full a l.length k c W hr2.1 hr2.2 (by omega) (by unfold maxLen; omega))
    · exact made_no _ l c w HS.out hr 1 (fun W a k => new_neg _ c W (by omega)) (fun W a k => rnew_neg _ c W (by omega))
  refine hno.mono ?_
  rintro e w' ⟨rfl, hb⟩
  exact ⟨rfl, h.below hb⟩


set_option maxRecDepth 20000 in
set_option maxHeartbeats 4000000 in
theorem turned_walk {W w : World} (g gb gr gs : Nat) (K1 KR1 K2 KR2 : Nat → Nat) (l1 l2 : List Int) (c1 c2 : Nat) (v1 v2 : Value) (one two : List OpP) (h : Herd W w [(K1, g, .inl (stNew l1 c1)), (KR1, gr, .inr (rsNew l1 c1)), (K2, gb, .inl (stNew l2 c2)), (KR2, gs, .inr (rsNew l2 c2))])
    (hc1 : c1 ≤ 16777216) (hl1 : l1.length ≤ c1) (hc2 : c2 ≤ 16777216) (hl2 : l2.length ≤ c2) (ho1 : SO W v1 one) (hB1 : OpsB one) (ho2 : SO W v2 two) (hB2 : OpsB two) (hn1 : one.length ≤ 1500000) (hn2 : two.length ≤ 1500000) (ha1 : ∀ o ∈ one, o.a ≤ 9223372036854775807) (ha2 : ∀ o ∈ two, o.a ≤ 9223372036854775807) :
    Calls Try.prog 19 #[.pointer (some ⟨g, 0, none⟩), .pointer (some ⟨gb, 0, none⟩), .pointer (some ⟨gr, 0, none⟩), .pointer (some ⟨gs, 0, none⟩), v1, v2] w fun e w' => e = .returned (.bool true) ∧ Below W.heap.size W w' := by
  obtain ⟨ap1, kp1, hv, hop11, hop12, hops1⟩ := ho1
  unfold maxLen at hop12
  subst hv
  obtain ⟨ap2, kp2, hv, hop21, hop22, hops2⟩ := ho2
  unfold maxLen at hop22
  subst hv
  have HOPS1 := hide hops1
  have HOPS2 := hide hops2
  have HB1 := hide hB1
  have HB2 := hide hB2
  have HA1 := hide ha1
  have HA2 := hide ha2
  have HH := hide h
  have HPN1 := hide (pair_new l1 c1 hc1 hl1)
  have HPN2 := hide (pair_new l2 c2 hc2 hl2)
  clear hops1 hops2 hB1 hB2 ha1 ha2 h
  go_enter Try.func19, Try.ntmps19
  go_wp2
  go_loopw [13] (fun i wr => ∃ k : Nat, i = .int .i64 k ∧ k ≤ 1500000 ∧ Hid (∃ K1 KR1 K2 KR2 st1 rs1 st2 rs2, Herd W wr [(K1, g, .inl st1), (KR1, gr, .inr rs1), (K2, gb, .inl st2), (KR2, gs, .inr rs2)] ∧ Pair st1 rs1 k ∧ Pair st2 rs2 k)) (fun i _ => 1500000 - (intOf i).toNat)
  case atStart => exact ⟨0, rfl, Nat.zero_le _, K1, KR1, K2, KR2, _, _, _, _, HH.out, HPN1.out, HPN2.out⟩
  case round =>
    obtain ⟨k, rfl, hk, HQ⟩ := hrel
    clear HH HPN1 HPN2
    obtain ⟨K1, KR1, K2, KR2, st1, rs1, st2, rs2, hH, hP1, hP2⟩ := HQ.out
    have HD := hide hH
    have HP1 := hide hP1
    have HP2 := hide hP2
    clear HQ hH hP1 hP2
    by_cases hx1 : k < one.length
    case pos =>
      by_cases hx2 : k < two.length
      case pos =>
        have hxi1 : (k : Int) < (one.length : Int) := by omega
        obtain ⟨o1, hoo⟩ : ∃ o, one[k]? = some o := ⟨one[k], by simp [hx1]⟩
        obtain ⟨b1, of1, av1, cv1, asec1, csec1, hab, hat⟩ := HOPS1.out k o1 hoo
        have hdl1 := HB1.out.data o1 (List.mem_of_getElem? hoo)
        have hoa1 := HA1.out o1 (List.mem_of_getElem? hoo)
        have HAT1 := hide hat
        rw [hab]
        clear hat hoo hab
        have hxi2 : (k : Int) < (two.length : Int) := by omega
        obtain ⟨o2, hoo⟩ : ∃ o, two[k]? = some o := ⟨two[k], by simp [hx2]⟩
        obtain ⟨b2, of2, av2, cv2, asec2, csec2, hab, hat⟩ := HOPS2.out k o2 hoo
        have hdl2 := HB2.out.data o2 (List.mem_of_getElem? hoo)
        have hoa2 := HA2.out o2 (List.mem_of_getElem? hoo)
        have HAT2 := hide hat
        rw [hab]
        clear hat hoo hab
        obtain ⟨q0, q1, q2, q3, q4, q5, q6, -, -⟩ := HAT1.out.below HD.out.bel
        go_wp2_with fail
        refine (changes_any 0 1 o1 HD.out rfl rfl (by decide) HP1.out (by omega) HAT1.out.data hdl1 hoa1).mono ?_
        rintro e wa1 ⟨rfl, Ka1, KRa1, sta1, rsa1, hHa1, hPa1, -⟩
        have HDa1 : Hid (Herd W wa1 [(Ka1, g, .inl sta1), (KRa1, gr, .inr rsa1), (K2, gb, .inl st2), (KR2, gs, .inr rs2)]) := hHa1
        have HPa1 := hide hPa1
        clear hHa1 hPa1 q0 q1 q2 q3 q4 q5 q6
        obtain ⟨q0, q1, q2, q3, q4, q5, q6, -, -⟩ := HAT1.out.below HDa1.out.bel
        go_wp2_with fail
        refine (asks_any 0 1 o1 HDa1.out rfl rfl HPa1.out).mono ?_
        rintro e wb1 ⟨rfl, hHb1⟩
        have HDb1 := hide hHb1
        clear hHb1 q0 q1 q2 q3 q4 q5 q6
        obtain ⟨q0, q1, q2, q3, q4, q5, q6, -, -⟩ := HAT2.out.below HDb1.out.bel
        go_wp2_with fail
        refine (changes_any 2 3 o2 HDb1.out rfl rfl (by decide) HP2.out (by omega) HAT2.out.data hdl2 hoa2).mono ?_
        rintro e wa2 ⟨rfl, Ka2, KRa2, sta2, rsa2, hHa2, hPa2, -⟩
        have HDa2 : Hid (Herd W wa2 [(Ka1, g, .inl sta1), (KRa1, gr, .inr rsa1), (Ka2, gb, .inl sta2), (KRa2, gs, .inr rsa2)]) := hHa2
        have HPa2 := hide hPa2
        clear hHa2 hPa2 q0 q1 q2 q3 q4 q5 q6
        obtain ⟨q0, q1, q2, q3, q4, q5, q6, -, -⟩ := HAT2.out.below HDa2.out.bel
        go_wp2_with fail
        refine (asks_any 2 3 o2 HDa2.out rfl rfl HPa2.out).mono ?_
        rintro e wb2 ⟨rfl, hHb2⟩
        have HDb2 := hide hHb2
        clear hHb2 q0 q1 q2 q3 q4 q5 q6
        go_wp2
        go_roundw
        case rel => exact ⟨k + 1, by go_num, by omega, _, _, _, _, _, _, _, _, HDb2.out, HPa1.out, HPa2.out⟩
        case measure => simp [intOf]; omega
      case neg =>
        have hxi1 : (k : Int) < (one.length : Int) := by omega
        obtain ⟨o1, hoo⟩ : ∃ o, one[k]? = some o := ⟨one[k], by simp [hx1]⟩
        obtain ⟨b1, of1, av1, cv1, asec1, csec1, hab, hat⟩ := HOPS1.out k o1 hoo
        have hdl1 := HB1.out.data o1 (List.mem_of_getElem? hoo)
        have hoa1 := HA1.out o1 (List.mem_of_getElem? hoo)
        have HAT1 := hide hat
        rw [hab]
        clear hat hoo hab
        have hxi2 : ¬ (k : Int) < (two.length : Int) := by omega
        obtain ⟨q0, q1, q2, q3, q4, q5, q6, -, -⟩ := HAT1.out.below HD.out.bel
        go_wp2_with fail
        refine (changes_any 0 1 o1 HD.out rfl rfl (by decide) HP1.out (by omega) HAT1.out.data hdl1 hoa1).mono ?_
        rintro e wa1 ⟨rfl, Ka1, KRa1, sta1, rsa1, hHa1, hPa1, -⟩
        have HDa1 : Hid (Herd W wa1 [(Ka1, g, .inl sta1), (KRa1, gr, .inr rsa1), (K2, gb, .inl st2), (KR2, gs, .inr rs2)]) := hHa1
        have HPa1 := hide hPa1
        clear hHa1 hPa1 q0 q1 q2 q3 q4 q5 q6
        obtain ⟨q0, q1, q2, q3, q4, q5, q6, -, -⟩ := HAT1.out.below HDa1.out.bel
        go_wp2_with fail
        refine (asks_any 0 1 o1 HDa1.out rfl rfl HPa1.out).mono ?_
        rintro e wb1 ⟨rfl, hHb1⟩
        have HDb1 := hide hHb1
        clear hHb1 q0 q1 q2 q3 q4 q5 q6
        go_wp2
        go_roundw
        case rel => exact ⟨k + 1, by go_num, by omega, _, _, _, _, _, _, _, _, HDb1.out, HPa1.out, HP2.out.more⟩
        case measure => simp [intOf]; omega
    case neg =>
      by_cases hx2 : k < two.length
      case pos =>
        have hxi1 : ¬ (k : Int) < (one.length : Int) := by omega
        have hxi2 : (k : Int) < (two.length : Int) := by omega
        obtain ⟨o2, hoo⟩ : ∃ o, two[k]? = some o := ⟨two[k], by simp [hx2]⟩
        obtain ⟨b2, of2, av2, cv2, asec2, csec2, hab, hat⟩ := HOPS2.out k o2 hoo
        have hdl2 := HB2.out.data o2 (List.mem_of_getElem? hoo)
        have hoa2 := HA2.out o2 (List.mem_of_getElem? hoo)
        have HAT2 := hide hat
        rw [hab]
        clear hat hoo hab
        obtain ⟨q0, q1, q2, q3, q4, q5, q6, -, -⟩ := HAT2.out.below HD.out.bel
        go_wp2_with fail
        refine (changes_any 2 3 o2 HD.out rfl rfl (by decide) HP2.out (by omega) HAT2.out.data hdl2 hoa2).mono ?_
        rintro e wa2 ⟨rfl, Ka2, KRa2, sta2, rsa2, hHa2, hPa2, -⟩
        have HDa2 : Hid (Herd W wa2 [(K1, g, .inl st1), (KR1, gr, .inr rs1), (Ka2, gb, .inl sta2), (KRa2, gs, .inr rsa2)]) := hHa2
        have HPa2 := hide hPa2
        clear hHa2 hPa2 q0 q1 q2 q3 q4 q5 q6
        obtain ⟨q0, q1, q2, q3, q4, q5, q6, -, -⟩ := HAT2.out.below HDa2.out.bel
        go_wp2_with fail
        refine (asks_any 2 3 o2 HDa2.out rfl rfl HPa2.out).mono ?_
        rintro e wb2 ⟨rfl, hHb2⟩
        have HDb2 := hide hHb2
        clear hHb2 q0 q1 q2 q3 q4 q5 q6
        go_wp2
        go_roundw
        case rel => exact ⟨k + 1, by go_num, by omega, _, _, _, _, _, _, _, _, HDb2.out, HP1.out.more, HPa2.out⟩
        case measure => simp [intOf]; omega
      case neg =>
        have hxi1 : ¬ (k : Int) < (one.length : Int) := by omega
        have hxi2 : ¬ (k : Int) < (two.length : Int) := by omega
        have hn1 : st1.now.length ≤ 16777216 := by have := HP1.out.inv.p.cap; have := HP1.out.inv.p.now; omega
        have hn2 : st2.now.length ≤ 16777216 := by have := HP2.out.inv.p.cap; have := HP2.out.inv.p.now; omega
        have HE1 := hide HP1.out.sim.now
        have HE2 := hide HP2.out.sim.now
        have hr1 := hide (fun (w' : World) (hr : RRep w' KR1 gr rs1) => rimage_any hr (by rw [HE1.out]; exact hn1))
        have hr2 := hide (fun (w' : World) (hr : RRep w' KR2 gs rs2) => rimage_any hr (by rw [HE2.out]; exact hn2))
        rw [HE1.out] at hr1
        rw [HE2.out] at hr2
        go_wp2_with fail
        refine (image_rep (HD.out.rep 0 _ rfl) hn1).mono ?_
        rintro e w1 ⟨a1, c1, rfl, ho1, hb1⟩
        have HO1 := hide ho1
        have HD1 := hide (HD.out.below hb1)
        clear ho1 hb1
        go_wp2_with fail
        refine (hr1.out _ (HD1.out.rep 1 _ rfl)).mono ?_
        rintro e w2 ⟨a2, c2, rfl, ho2, hb2⟩
        have HO2 := hide ho2
        have HO12 := hide (HO1.out.below hb2 (Nat.le_refl _))
        have HD2 := hide (HD1.out.below hb2)
        clear ho2 hb2
        go_wp2_with fail
        refine (same_any _ _ st1.now st1.now _ HO12.out.sb HO2.out.sb).mono ?_
        rintro e w3 ⟨rfl, n3, hw3⟩
        rw [eqB_self]
        have HD3 := hide (HD2.out.below (show Below w2.heap.size w2 w3 by rw [hw3]; exact below_drewN (Below.refl _ _) _))
        clear hw3
        go_wp2_with fail
        refine (image_rep (HD3.out.rep 2 _ rfl) hn2).mono ?_
        rintro e w4 ⟨a4, c4, rfl, ho4, hb4⟩
        have HO4 := hide ho4
        have HD4 := hide (HD3.out.below hb4)
        clear ho4 hb4
        go_wp2_with fail
        refine (hr2.out _ (HD4.out.rep 3 _ rfl)).mono ?_
        rintro e w5 ⟨a5, c5, rfl, ho5, hb5⟩
        have HO5 := hide ho5
        have HO45 := hide (HO4.out.below hb5 (Nat.le_refl _))
        have HD5 := hide (HD4.out.below hb5)
        clear ho5 hb5
        go_wp2_with fail
        refine (same_any _ _ st2.now st2.now _ HO45.out.sb HO5.out.sb).mono ?_
        rintro e w6 ⟨rfl, n6, rfl⟩
        rw [eqB_self]
        go_wp2
        go_ret
        exact ⟨rfl, below_drewN HD5.out.bel _⟩
end Go.Proofs.Yteiajeeincapoac
