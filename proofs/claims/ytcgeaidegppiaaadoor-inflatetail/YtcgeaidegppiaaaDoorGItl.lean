import Derived.Test.YtcgeaidegppiaaaDoorGIlt
import Derived.Test.YtcgeaidegppiaaaDoorGIfs
namespace Go.Proofs.YtcgeaidegppiaaaDoor
open Go.RowKit Go.Maps
set_option maxRecDepth 20000
set_option linter.unusedVariables false

theorem ends_any (e : Int) (w : World) (b : Bool) (hb : decide (e = 80 ∨ e = 70) = b) : Calls Tryd.prog 10 #[.int .i64 e] w fun x w' => x = .returned (.bool b) ∧ w' = w := by
  have HN : Hid (∀ (e : Int) (w : World), Calls Tryd.prog 8 #[.int .i64 e] w fun x w' => x = .returned (.int .i64 e) ∧ w' = w) := num8_any
  go_enter Tryd.func10, Tryd.ntmps10
  by_cases c0 : e = 80
  · subst c0
    obtain rfl : b = true := by rw [← hb]; decide
    clear hb
    go_wp2_with (go_at_call 8; refine (HN.out _ _).mono ?_; rintro e w4 ⟨rfl, rfl⟩)
    go_ret
    exact ⟨rfl, rfl⟩
  · have c0' : (e == 80) = false := by simpa using c0
    by_cases c1 : e = 70
    · subst c1
      obtain rfl : b = true := by rw [← hb]; decide
      clear hb
      go_wp2_with (go_at_call 8; refine (HN.out _ _).mono ?_; rintro e w4 ⟨rfl, rfl⟩)
      go_ret
      exact ⟨rfl, rfl⟩
    · have c1' : (e == 70) = false := by simpa using c1
      obtain rfl : b = false := by rw [← hb]; exact decide_eq_false (by omega)
      clear hb
      go_wp2_with (go_at_call 8; refine (HN.out _ _).mono ?_; rintro e w4 ⟨rfl, rfl⟩)
      go_ret
      exact ⟨rfl, rfl⟩

theorem sb_front {w : World} {a : Option Addr} {c : Nat} {l : List Int} (h : SB w (.slice a l.length c) l) {k : Nat} (hk : k ≤ l.length) (hp : 0 < l.length) : ∃ b o, a = some ⟨b, o, none⟩ ∧ l.length ≤ c ∧ c ≤ 9223372036854775807 ∧ SB w (.slice (some ⟨b, o, none⟩) k c) (l.take k) := by
  have h0 := h
  obtain ⟨ao, cap, he, h1, h2, h3, h4⟩ := h
  simp only [Value.slice.injEq, true_and] at he
  obtain ⟨rfl, rfl⟩ := he
  cases a with
  | none => have := h3 rfl; omega
  | some x =>
    obtain ⟨b, o, rfl⟩ := addr_lit (h4 x rfl 0 hp)
    have := h0.part8 (at' := 0) (n := k) (by omega)
    rw [List.drop_zero, Nat.add_zero, Nat.sub_zero] at this
    unfold maxLen at h2
    exact ⟨b, o, rfl, h1, by omega, this⟩

theorem Ifl.bad {data : List Int} {limit e : Int} {n : Nat} {o : List Int} (h : Ifl data limit e n o) (he : e ≠ 0) : n = 0 ∧ o = [] := by
  rcases h with ⟨_, _, h1, h2⟩ | ⟨_, ps, q, o', ht, ⟨h0, _⟩ | ⟨_, h1, h2⟩⟩
  · exact ⟨h1, h2⟩
  · exact absurd h0 he
  · exact ⟨h1, h2⟩

set_option maxHeartbeats 8000000 in
theorem inflateTail_walk (v u : Value) (l m : List Int) (limit : Int) (W : World) (h : SB W v l) (hB : Byt l) (hr : l.length ≤ 140737488351232) (hu : SB W u m) (hBm : Byt m) (hrm : m.length ≤ 140737488351232) (T : Tab W) (O : Odr W) :
    Calls Tryd.prog 4 #[v, u, .int .i64 limit] W fun e w' => e = .returned (.bool true) ∧ Below W.heap.size W w' := by
  have HLT := hide (letter_any W T O)
  have HS := hide h
  have HB := hide hB
  have HR := hide hr
  have HU := hide hu
  have HBM := hide hBm
  have HT := hide T
  have HO := hide O
  obtain ⟨a0, x0, rfl, -⟩ := h
  obtain ⟨am, xm, rfl, -⟩ := hu
  have HN : Hid (∀ (e : Int) (w : World), Calls Tryd.prog 8 #[.int .i64 e] w fun x w' => x = .returned (.int .i64 e) ∧ w' = w) := num8_any
  clear hB hr hBm T O
  go_enter Tryd.func4, Tryd.ntmps4
  go_wp2_with fail
  refine HLT.out.mono ?_
  rintro e w1 ⟨rfl, hb1⟩
  have HB1 := hide hb1
  clear hb1 HLT
  go_wp2_with fail
  refine (hcopinf HS.out HB.out HR.out HB1.out).mono ?_
  rintro e w2 ⟨a2, x2, rfl, s2, b2⟩
  have hb2 := HB1.out.trans (b2.mono HB1.out.size)
  have HI1 := hide (hInf s2 HB.out limit (HT.out.mono hb2) (HO.out.mono hb2))
  have HB2 := hide hb2
  clear s2 b2 hb2
  go_wp2_with fail
  refine HI1.out.mono ?_
  rintro e w3 ⟨E, n, o, a3, x3, hI, rfl, ho, b3⟩
  have HB3 := hide (HB2.out.trans (b3.mono HB2.out.size))
  have HII := hide hI
  have HOO := hide ho.sb
  clear hI ho b3 HI1
  obtain ⟨M, HM⟩ : ∃ M : Nat, Hid (M = o.length) := ⟨_, rfl⟩
  obtain ⟨N, HNL⟩ : ∃ N : Nat, Hid (N = l.length) := ⟨_, rfl⟩
  obtain ⟨K, HK⟩ : ∃ K : Nat, Hid (K = m.length) := ⟨_, rfl⟩
  have hN : N ≤ 140737488351232 := by rw [HNL.out]; exact HR.out
  have hK : K ≤ 140737488351232 := by rw [HK.out]; exact hrm
  rw [← HM.out, ← HNL.out, ← HK.out]
  clear hrm
  by_cases hbig : 33554432 < (N : Int) + (K : Int)
  · go_wp2
    go_ret
    exact ⟨rfl, HB3.out⟩
  have hsmall : (l ++ m).length ≤ 33554432 := by rw [List.length_append, ← HNL.out, ← HK.out]; omega
  have HSL := hide hsmall
  clear hsmall
  go_wp2_with fail
  have HC3 := hide (copied8_any _ l w3 (HS.out.below HB3.out) HR.out)
  rw [← HNL.out] at HC3
  refine HC3.out.mono ?_
  rintro e w4 ⟨rfl, ho4, b4⟩
  have HB4 := hide (HB3.out.trans (b4.mono HB3.out.size))
  have HOO4 := hide (HOO.out.below b4)
  have HO4 := hide ho4
  have HSR := hide (HU.out.below HB4.out).src
  rw [← HK.out] at HSR
  have hbl : l.length + m.length ≤ 140737488355328 := by have := HSL.out; rw [List.length_append] at this; omega
  have HBLL := hide hbl
  have hsz := b4.size
  have HSZ := hide hsz
  have HB34 := hide b4
  clear ho4 b4 HC3 hbl hsz
  have HSR2 : Hid (Src Tryd.prog 1 22 (.slice am K xm) m.length (m.map (Value.int .u8)) w4) := by
    show Src _ _ _ _ _ _ _
    have := HSR.out
    rwa [HK.out] at this ⊢
  go_wp2_with (at_builtin; refine wpList_app rfl _ _ 22 rfl w3.heap.size _ _ l m rfl HO4.out rfl HSR2.out HBLL.out HSZ.out ?_)
  intro v5 w5 ho5 hg5
  obtain ⟨S, HSS⟩ : ∃ S, Hid (S = l ++ m) := ⟨_, rfl⟩
  rw [← HSS.out] at ho5
  obtain ⟨a5, x5, rfl⟩ := ho5.shape
  have hb35 : Below w3.heap.size w3 w5 := HB34.out.grown hg5.by HSZ.out (fun k hk => by simp [Value.ownBlock] at hk; omega)
  have HB5 := hide (HB3.out.trans (hb35.mono HB3.out.size))
  have HO5 := hide (HOO.out.below hb35)
  have HS5 := hide ho5.sb
  have HBS : Hid (Byt S) := by rw [HSS.out]; exact hide (byt_append HB.out HBM.out)
  have hSl : S.length ≤ 33554432 := by rw [HSS.out]; exact HSL.out
  have HSLN := hide hSl
  obtain ⟨Z, HZ⟩ : ∃ Z : Nat, Hid (Z = S.length) := ⟨_, rfl⟩
  rw [← HZ.out]
  rw [← HZ.out] at hSl
  clear ho5 hg5 hb35 HO4 HSR HSR2 HOO4 HB34
  by_cases he : E = 0
  case neg =>
    have he' : (E != 0) = true := by simpa using he
    obtain ⟨hn0, ho0⟩ := HII.out.bad he
    have HC6 := hide (copied8_any _ S w5 HS5.out (by have := HSLN.out; omega))
    rw [← HZ.out] at HC6
    go_wp2_with (go_at_call 8; refine (HN.out _ _).mono ?_; rintro e wn ⟨rfl, rfl⟩)
    refine HC6.out.mono ?_
    rintro e w6 ⟨rfl, ho6, b6⟩
    have hb6 := HB5.out.trans (b6.mono HB5.out.size)
    have hs6 := ho6.sb
    have HI6 := hide (hInf hs6 HBS.out limit (HT.out.mono hb6) (HO.out.mono hb6))
    have HB6 := hide hb6
    clear ho6 b6 hb6 hs6 HC6
    go_wp2_with fail
    refine HI6.out.mono ?_
    rintro e w7 ⟨E2, n2, o2, a7, x7, hI7, rfl, ho7, b7⟩
    have HB7 := hide (HB6.out.trans (b7.mono HB6.out.size))
    clear ho7 b7 HI6
    by_cases hen : E = 80 ∨ E = 70
    · have HE := hide (ends_any E w7 true (decide_eq_true hen))
      obtain ⟨M2, HM2⟩ : ∃ M2 : Nat, Hid (M2 = o2.length) := ⟨_, rfl⟩
      rw [← HM2.out]
      clear hI7 hen
      go_wp2_with (first | (go_at_call 8; refine (HN.out _ _).mono ?_; rintro e wn ⟨rfl, rfl⟩) | (go_at_call 10; refine HE.out.mono ?_; rintro e wn ⟨rfl, hwn⟩; rw [hwn]; clear hwn))
      go_ret
      exact ⟨rfl, HB7.out⟩
    · have hx := HII.out.ext (more := m) HSL.out (by omega) (by omega)
      rw [← HSS.out] at hx
      obtain ⟨rfl, rfl, rfl⟩ := hI7.det hx
      have HE := hide (ends_any E2 w7 false (decide_eq_false hen))
      subst hn0
      subst ho0
      clear hI7 hx hen
      go_wp2_with (first | (go_at_call 8; refine (HN.out _ _).mono ?_; rintro e wn ⟨rfl, rfl⟩) | (go_at_call 10; refine HE.out.mono ?_; rintro e wn ⟨rfl, hwn⟩; rw [hwn]; clear hwn))
      go_ret
      exact ⟨rfl, HB7.out⟩
  subst he
  obtain ⟨u1, u2, u3, u4, u5⟩ := HII.out.used
  rw [← HNL.out] at u2 u4
  obtain ⟨sz, HSZ2⟩ : ∃ sz : Nat, Hid (sz = (n + 7) / 8) := ⟨_, rfl⟩
  have hszN : sz ≤ l.length ∧ 0 < l.length := by rw [← HNL.out, HSZ2.out]; omega
  obtain ⟨bb, oo, ha0, hcap, hcap2, hf1⟩ := sb_front HS.out (k := sz) hszN.1 hszN.2
  subst ha0
  obtain ⟨bb2, oo2, ha1, -, -, hf2⟩ := sb_front HS.out (k := sz - 1) (by omega) hszN.2
  simp only [Option.some.injEq, Addr.mk.injEq, and_true] at ha1
  obtain ⟨rfl, rfl⟩ := ha1
  have HF1 := hide hf1
  have HF2 := hide hf2
  rw [← HNL.out] at hcap
  clear hf1 hf2 hszN
  have hq : ((n : Int) + 7).tdiv 8 = (sz : Int) := by rw [Int.tdiv_eq_ediv_of_nonneg (by omega), HSZ2.out]; omega
  have q1 : 1 ≤ sz := by rw [HSZ2.out]; omega
  have q2 : sz ≤ N := by rw [HSZ2.out]; omega
  have q1' : ¬ ((sz : Int) < 1) := by omega
  have q2' : ¬ ((N : Int) < (sz : Int)) := by omega
  have hn28 : n ≤ 268435456 := by omega
  have HU1 : Hid (n ≤ 8 * sz ∧ 8 * (sz - 1) < n) := by show _ ∧ _; rw [HSZ2.out]; omega
  have HI5 := hide (hInf HS5.out HBS.out limit (HT.out.mono HB5.out) (HO.out.mono HB5.out))
  rw [← HZ.out] at HI5
  go_wp2_with (go_at_call 8; refine (HN.out _ _).mono ?_; rintro e wn ⟨rfl, rfl⟩)
  refine HI5.out.mono ?_
  rintro e w6 ⟨E2, n2, o2, a6, x6, hI6, rfl, ho6, b6⟩
  have hx := HII.out.ext (more := m) HSL.out (by decide) (by decide)
  rw [← HSS.out] at hx
  obtain ⟨rfl, rfl, rfl⟩ := hI6.det hx
  have HB6 := hide (HB5.out.trans (b6.mono HB5.out.size))
  have HO6 := hide (HO5.out.below b6)
  have HSM := hide (same_yes (HO5.out.below b6) ho6.sb)
  rw [← HM.out] at HSM ⊢
  clear hI6 hx ho6 b6 HI5
  go_wp2_with (first | (go_at_call 8; refine (HN.out _ _).mono ?_; rintro e wn ⟨rfl, rfl⟩) | (go_at_call 9; refine HSM.out.mono ?_; rintro e w7 ⟨rfl, nq, rfl⟩))
  have hb8 := below_drewN HB6.out nq
  obtain ⟨w8, HW8⟩ : ∃ w8, Hid (wn.drewN nq = w8) := ⟨_, rfl⟩
  rw [HW8.out] at hb8
  have HO8 : Hid (SB w8 (.slice a3 M x3) o2) := by
    show SB _ _ _
    have := HO6.out.below (below_drewN (Below.refl _ _) nq)
    rw [HW8.out, ← HM.out] at this
    exact this
  have HB8 := hide hb8
  have htl1 : (l.take sz).length = sz := by rw [List.length_take, ← HNL.out]; omega
  have htl2 : (l.take (sz - 1)).length = sz - 1 := by rw [List.length_take, ← HNL.out]; omega
  have HC8 := hide (copied8_any _ (l.take sz) w8 (HF1.out.below HB8.out) (by rw [htl1]; omega))
  rw [htl1] at HC8
  have HTL1 := hide htl1
  have HTL2 := hide htl2
  clear hb8 htl1 htl2 HSM
  rw [HW8.out]
  refine HC8.out.mono ?_
  rintro e w9 ⟨rfl, ho9, b9⟩
  have hb9 := HB8.out.trans (b9.mono HB8.out.size)
  have hs9 := ho9.sb
  have HI9 := hide (hInf (l := l.take sz) hs9 (byt_take HB.out _) limit (HT.out.mono hb9) (HO.out.mono hb9))
  have HB9 := hide hb9
  have HO9 := hide (HO8.out.below b9)
  clear ho9 b9 hb9 hs9 HC8
  go_wp2_with fail
  refine HI9.out.mono ?_
  rintro e w10 ⟨E3, n3, o3, a10, x10, hI10, rfl, ho10, b10⟩
  have hx := HII.out.front HU1.out.1 (by rw [← HNL.out]; exact q2)
  obtain ⟨rfl, rfl, rfl⟩ := hI10.det hx
  have HB10 := hide (HB9.out.trans (b10.mono HB9.out.size))
  have HSM2 : Hid (Calls Tryd.prog 9 #[.slice a3 M x3, .slice a10 M x10] w10 fun e w' => e = .returned (.bool true) ∧ ∃ n, w' = w10.drewN n) := by
    have h2 := ho10.sb
    rw [← HM.out] at h2
    exact same_yes (HO9.out.below b10) h2
  rw [← HM.out]
  obtain ⟨s1, HS1⟩ : ∃ s1 : Nat, Hid (s1 = sz - 1) := ⟨_, rfl⟩
  have k1 : (sz : Int) - 1 = (s1 : Int) := by rw [HS1.out]; omega
  have k2 : s1 ≤ x0 ∧ s1 ≤ 33554432 := by rw [HS1.out]; omega
  rw [← HS1.out] at HF2 HTL2
  clear hI10 hx ho10 b10 HI9
  go_wp2_with (first | (go_at_call 8; refine (HN.out _ _).mono ?_; rintro e wk ⟨rfl, rfl⟩) | (go_at_call 9; refine HSM2.out.mono ?_; rintro e w11 ⟨rfl, nq2, rfl⟩))
  obtain ⟨w12, HW12⟩ : ∃ w12, Hid (wk.drewN nq2 = w12) := ⟨_, rfl⟩
  have hb12 := below_drewN HB10.out nq2
  rw [HW12.out] at hb12 ⊢
  have HB12 := hide hb12
  have HC12 := hide (copied8_any _ (l.take s1) w12 (HF2.out.below HB12.out) (by rw [HTL2.out]; omega))
  rw [HTL2.out] at HC12
  clear hb12 HSM2
  refine HC12.out.mono ?_
  rintro e w13 ⟨rfl, ho13, b13⟩
  have hb13 := HB12.out.trans (b13.mono HB12.out.size)
  have hs13 := ho13.sb
  have HI13 := hide (hInf (l := l.take s1) hs13 (byt_take HB.out _) limit (HT.out.mono hb13) (HO.out.mono hb13))
  have HB13 := hide hb13
  clear ho13 b13 hb13 hs13 HC12
  go_wp2_with fail
  refine HI13.out.mono ?_
  rintro e w14 ⟨E4, n4, o4, a14, x14, hI14, rfl, ho14, b14⟩
  have hen := HII.out.cut (by rw [HS1.out]; exact HU1.out.2) hI14
  have HE := hide (ends_any E4 w14 true (decide_eq_true hen))
  have HB14 := hide (HB13.out.trans (b14.mono HB13.out.size))
  clear hI14 ho14 b14 hen HI13
  go_wp2_with (go_at_call 10; refine HE.out.mono ?_; rintro e wz ⟨rfl, rfl⟩)
  go_ret
  exact ⟨rfl, HB14.out⟩
end Go.Proofs.YtcgeaidegppiaaaDoor

