import Derived.Test.YthlbmpmbbdaboabBck
namespace Go.Proofs.Ythlbmpmbbdaboab
open Go.RowKit Go.Maps
set_option maxRecDepth 20000

theorem kep_split (l syms : List Int) (i : Nat) : kep l syms = kep l (syms.take i) ++ kep l (syms.drop i) := by
  unfold kep
  rw [← List.filter_append, List.take_append_drop]

/-- The bits of all the symbols up to a place. -/
def ft (l syms : List Int) (k : Nat) : List Int := flat l (kep l (syms.take k))

theorem ft_yes {l syms : List Int} {k : Nat} (h : k < syms.length) (hn : lnI l (syms.getD k 0) ≠ 0) : ft l syms (k + 1) = ft l syms k ++ wb l (syms.getD k 0).toNat := by
  unfold ft
  rw [(kep_succ (l := l) h).1 hn, flat_append, flat_one]

theorem ft_no {l syms : List Int} {k : Nat} (h : k < syms.length) (hn : lnI l (syms.getD k 0) = 0) : ft l syms (k + 1) = ft l syms k := by
  unfold ft
  rw [(kep_succ (l := l) h).2 hn]

theorem ft_len {l syms : List Int} (hl : Lens l) (k : Nat) : (ft l syms k).length ≤ 15 * syms.length := by
  have h1 := flat_len (ks := kep l (syms.take k)) hl
  have h2 := kep_len l (syms.take k)
  rw [List.length_take] at h2
  unfold ft
  have : 15 * (kep l (syms.take k)).length ≤ 15 * syms.length := Nat.mul_le_mul_left _ (by omega)
  omega

theorem ft_put {l syms : List Int} (hl : Lens l) {k : Nat} (h : k < syms.length) (hs : syms.length ≤ 16777216) : epR l (ft l syms k) (syms.getD k 0) = ft l syms (k + 1) := by
  by_cases hz : lnI l (syms.getD k 0) = 0
  · rw [(ep_no hz).2, ft_no h hz]
  · rw [(ep_ok hz (by have := ft_len (syms := syms) hl k; omega) hl).2, ft_yes h hz]

theorem ft_read {l syms tail : List Int} (hd : dcE l = 0) (hb : Bit (ft l syms syms.length ++ tail)) {i : Nat} (hi : i < syms.length) (hn : lnI l (syms.getD i 0) ≠ 0) :
    nxE l (ft l syms syms.length ++ tail) (ft l syms i).length = 0 ∧ ((nxS l (ft l syms syms.length ++ tail) (ft l syms i).length : Nat) : Int) = syms.getD i 0 ∧ nxP l (ft l syms syms.length ++ tail) (ft l syms i).length = (ft l syms (i + 1)).length := by
  obtain ⟨h1, h2, h3⟩ := lnI_has hn
  have e : ft l syms syms.length = ft l syms i ++ (wb l (syms.getD i 0).toNat ++ flat l (kep l (syms.drop (i + 1)))) := by
    have e1 : ft l syms syms.length = ft l syms (i + 1) ++ flat l (kep l (syms.drop (i + 1))) := by
      unfold ft
      rw [List.take_of_length_le (Nat.le_refl _), kep_split l syms (i + 1), flat_append]
    rw [e1, ft_yes hi hn, List.append_assoc]
  have hdrop : (ft l syms syms.length ++ tail).drop (ft l syms i).length = wb l (syms.getD i 0).toNat ++ (flat l (kep l (syms.drop (i + 1))) ++ tail) := by
    rw [e, List.append_assoc, List.drop_left, List.append_assoc]
  obtain ⟨n1, n2, n3⟩ := nx_word hd h1 hb hdrop
  refine ⟨n1, by rw [n2]; exact h2, ?_⟩
  rw [n3, ft_yes hi hn, List.length_append, wb_len]

theorem hreads {W w : World} {xs : List ((Nat → Nat) × Thing)} (H : Herd W w xs) (i j k : Nat) {K Kr Kc : Nat → Nat} {g r c : Nat} {l row : List Int} {p : Nat} (hi : xs[i]? = some (K, td g l)) (hj : xs[j]? = some (Kr, tr r row p)) (hk : xs[k]? = some (Kc, te c l)) (s : Int) (hs0 : -9223372036854775808 ≤ s) (hs1 : s ≤ 9223372036854775807)
    (q : Nat) (hq0 : lnI l s = 0 → q = p) (hq : lnI l s ≠ 0 → nxE l row p = 0 ∧ ((nxS l row p : Nat) : Int) = s ∧ nxP l row p = q) :
    Calls Try.prog 21 #[.pointer (some ⟨g, 0, none⟩), .pointer (some ⟨r, 0, none⟩), .pointer (some ⟨c, 0, none⟩), .int .i64 s] w fun e w' => e = .returned (.bool true) ∧ Herd W w' (xs.set j (Kr, tr r row q)) := by
  have HH := hide H
  have HI := hide hi
  have HJ := hide hj
  have HK := hide hk
  by_cases hz : lnI l s = 0
  · have hset : xs.set j (Kr, tr r row p) = xs := by
      apply List.ext_getElem?
      intro n
      rw [List.getElem?_set]
      by_cases c : j = n
      · subst c
        rw [if_pos rfl, hj, if_pos (List.getElem?_eq_some_iff.1 hj).1]
      · rw [if_neg c]
    have hqp := hq0 hz
    have HST : Hid (xs.set j (Kr, tr r row q) = xs) := by rw [hqp]; exact hset
    have HZ := hide hz
    clear hset hqp hq0 hq hz H hi hj hk
    go_enter Try.func21, Try.ntmps21
    go_wp2_with fail
    refine (helen HH.out k HK.out s hs0 hs1).mono ?_
    rintro e w1 ⟨rfl, h1⟩
    rw [HZ.out]
    have H1 := hide h1
    clear h1
    go_wp2
    go_ret
    rw [HST.out]
    exact ⟨rfl, H1.out⟩
  · obtain ⟨n1, n2, n3⟩ := hq hz
    have HN1 := hide n1
    have HN2 := hide n2
    have HN3 := hide n3
    obtain ⟨m, HM⟩ : ∃ m, Hid (m = lnI l s) := ⟨_, rfl⟩
    have hm : ((m : Int) == 0) = false := by rw [HM.out]; simp; omega
    clear hq0 hq hz H hi hj hk n1 n2 n3
    go_enter Try.func21, Try.ntmps21
    go_wp2_with fail
    refine (helen HH.out k HK.out s hs0 hs1).mono ?_
    rintro e w1 ⟨rfl, h1⟩
    rw [← HM.out]
    have H1 := hide h1
    clear h1
    go_wp2_with fail
    refine (hnext H1.out i j HI.out HJ.out).mono ?_
    rintro e w2 ⟨rfl, h2⟩
    rw [HN1.out, HN2.out]
    rw [HN3.out] at h2
    have H2 := hide h2
    clear h2
    go_wp2_with fail
    refine (num_any _ _).mono ?_
    rintro e w3 ⟨rfl, rfl⟩
    go_wp2
    go_ret
    exact ⟨rfl, H2.out⟩

theorem dc11b : dcE [1, 1] = 0 := by decide +kernel

theorem madeD_shape {w w' : World} {l : List Int} {e : Ending} (h : MadeD w l e w') : ∃ p, e = .returned (.tuple #[.pointer p, .int .i64 (dcE l)]) := by
  rcases h.2 with ⟨_, rfl⟩ | ⟨h0, g, K, rfl, _, _⟩
  · exact ⟨_, rfl⟩
  · exact ⟨_, by rw [h0]⟩

theorem madeE_shape {w w' : World} {l : List Int} {e : Ending} (h : MadeE w l e w') : ∃ p c, e = .returned (.tuple #[.pointer p, .int .i64 c]) := by
  rcases h.2 with ⟨_, rfl⟩ | ⟨h0, g, K, rfl, _, _⟩
  · exact ⟨_, _, rfl⟩
  · exact ⟨_, _, rfl⟩

set_option maxHeartbeats 4000000 in
theorem turns_no (v1 v2 v3 : Value) (l1 l2 syms : List Int) (w : World) (h1 : SI w v1 l1) (h2 : SI w v2 l2) (h3 : SI w v3 syms) (hr1 : l1.length ≤ 17592186043904) (hr2 : l2.length ≤ 17592186043904) (hd : ¬ (dcE l1 = 0 ∧ dcE l2 = 0 ∧ syms.length ≤ 16777216)) :
    Calls Try.prog 4 #[v1, v2, v3] w fun e w' => e = .returned (.bool true) ∧ Below w.heap.size w w' := by
  have HS1 := hide h1
  have HS2 := hide h2
  obtain ⟨ao1, cap1, rfl, _, _⟩ := h1.open
  obtain ⟨ao2, cap2, rfl, _, _⟩ := h2.open
  obtain ⟨ao3, cap3, rfl, hlc3, hcm3⟩ := h3.open
  clear h1 h2 h3
  obtain ⟨c3, HC3⟩ : ∃ c, Hid (c = dcE l1) := ⟨_, rfl⟩
  obtain ⟨c4, HC4⟩ : ∃ c, Hid (c = dcE l2) := ⟨_, rfl⟩
  rw [← HC3.out, ← HC4.out] at hd
  go_enter Try.func4, Try.ntmps4
  go_wp2_with fail
  refine (icopied_any _ l1 _ HS1.out hr1).mono ?_
  rintro e w1 ⟨a1, rfl, ho1, hb1⟩
  have HB1 := hide hb1
  have HO1 := hide ho1.sb
  clear hb1 ho1
  go_wp2_with fail
  refine (newEncoder_any _ l1 _ HO1.out).mono ?_
  rintro e w2 hm2
  have HB2 := hide (HB1.out.trans (hm2.1.mono HB1.out.size))
  obtain ⟨p2, q2, rfl⟩ := madeE_shape hm2
  have HT2 := hide (HS2.out.below HB2.out)
  clear hm2
  go_wp2_with fail
  refine (icopied_any _ l2 _ HT2.out hr2).mono ?_
  rintro e w3 ⟨a3, rfl, ho3, hb3⟩
  have HB3 := hide (HB2.out.trans (hb3.mono HB2.out.size))
  have HO3 := hide ho3.sb
  clear hb3 ho3
  go_wp2_with fail
  refine (newEncoder_any _ l2 _ HO3.out).mono ?_
  rintro e w4 hm4
  have HB4 := hide (HB3.out.trans (hm4.1.mono HB3.out.size))
  obtain ⟨p4, q4, rfl⟩ := madeE_shape hm4
  have HT4 := hide (HS1.out.below HB4.out)
  clear hm4
  go_wp2_with fail
  refine (icopied_any _ l1 _ HT4.out hr1).mono ?_
  rintro e w5 ⟨a5, rfl, ho5, hb5⟩
  have HB5 := hide (HB4.out.trans (hb5.mono HB4.out.size))
  have HO5 := hide ho5.sb
  clear hb5 ho5
  go_wp2_with fail
  refine (newDecoder_any _ l1 _ HO5.out).mono ?_
  rintro e w6 hm6
  have HB6 := hide (HB5.out.trans (hm6.1.mono HB5.out.size))
  obtain ⟨p6, rfl⟩ := madeD_shape hm6
  rw [← HC3.out]
  have HT6 := hide (HS2.out.below HB6.out)
  clear hm6
  go_wp2_with fail
  refine (icopied_any _ l2 _ HT6.out hr2).mono ?_
  rintro e w7 ⟨a7, rfl, ho7, hb7⟩
  have HB7 := hide (HB6.out.trans (hb7.mono HB6.out.size))
  have HO7 := hide ho7.sb
  clear hb7 ho7
  go_wp2_with fail
  refine (newDecoder_any _ l2 _ HO7.out).mono ?_
  rintro e w8 hm8
  have HB8 := hide (HB7.out.trans (hm8.1.mono HB7.out.size))
  obtain ⟨p8, rfl⟩ := madeD_shape hm8
  rw [← HC4.out]
  clear hm8
  go_wp2_with fail
  refine (num_any _ _).mono ?_
  rintro e w9 ⟨rfl, rfl⟩
  have HS9 : Hid (SI (w9.alloc (.cells #[.int .i64 1, .int .i64 1] 3)) (.slice (some ⟨w9.heap.size, 0, none⟩) 2 2) [1, 1]) := built_si w9 [1, 1] (by simp)
  have HB9 : Hid (Below w.heap.size w (w9.alloc (.cells #[.int .i64 1, .int .i64 1] 3))) := HB8.out.alloc HB8.out.size _
  have key : c3 ≠ 0 ∨ (c3 = 0 ∧ c4 ≠ 0) ∨ (c3 = 0 ∧ c4 = 0 ∧ (16777216 : Int) < syms.length) := by omega
  clear hd
  rcases key with hk | ⟨hk, hk2⟩ | ⟨hk, hk2, hk3⟩
  · have hk' : (c3 == 0) = false := by simpa using hk
    go_wp2_with fail
    refine (newDecoder_any _ [1, 1] _ HS9.out).mono ?_
    rintro e w10 ⟨hb10, ⟨hne, _⟩ | ⟨_, g10, K10, rfl, _, _⟩⟩
    · exact absurd dc11b hne
    have HB10 := hide (HB9.out.trans (hb10.mono HB9.out.size))
    clear hb10
    go_wp2_with fail
    refine (num_any _ _).mono ?_
    rintro e w11 ⟨rfl, rfl⟩
    go_wp2
    go_ret
    exact ⟨rfl, HB10.out⟩
  · have hk2' : (c4 == 0) = false := by simpa using hk2
    subst hk
    go_wp2_with fail
    refine (num_any _ _).mono ?_
    rintro e w11 ⟨rfl, rfl⟩
    go_wp2_with fail
    refine (newDecoder_any _ [1, 1] _ HS9.out).mono ?_
    rintro e w10 ⟨hb10, ⟨hne, _⟩ | ⟨_, g10, K10, rfl, _, _⟩⟩
    · exact absurd dc11b hne
    have HB10 := hide (HB9.out.trans (hb10.mono HB9.out.size))
    clear hb10
    go_wp2_with fail
    refine (num_any _ _).mono ?_
    rintro e w11 ⟨rfl, rfl⟩
    go_wp2
    go_ret
    exact ⟨rfl, HB10.out⟩
  · subst hk hk2
    go_wp2_with fail
    refine (num_any _ _).mono ?_
    rintro e w11 ⟨rfl, rfl⟩
    go_wp2_with fail
    refine (newDecoder_any _ [1, 1] _ HS9.out).mono ?_
    rintro e w10 ⟨hb10, ⟨hne, _⟩ | ⟨_, g10, K10, rfl, _, _⟩⟩
    · exact absurd dc11b hne
    have HB10 := hide (HB9.out.trans (hb10.mono HB9.out.size))
    clear hb10
    go_wp2_with fail
    refine (num_any _ _).mono ?_
    rintro e w11 ⟨rfl, rfl⟩
    go_wp2
    go_ret
    exact ⟨rfl, HB10.out⟩
end Go.Proofs.Ythlbmpmbbdaboab
