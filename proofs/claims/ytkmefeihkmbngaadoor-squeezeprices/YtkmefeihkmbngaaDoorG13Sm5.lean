import Derived.Test.YtkmefeihkmbngaaDoorG11Sm3
namespace Go.Proofs.YtkmefeihkmbngaaDoor
open Go.RowKit Go.Maps
set_option maxRecDepth 20000
set_option linter.unusedVariables false

set_option maxHeartbeats 40000000 in
theorem sym_step2 {w0 : World} {B c : Nat} {p : Value} {f : Int → Int} {D : Int → Prop} (hc : Cmp w0 B p f D) (N : Nat) (ih : SymOk6 w0 B c p f D N)
    (w : World) (A U V Z X : List Int) (a m b : Nat) (hN : U.length + V.length ≤ N + 1) (hX : X = A ++ (U ++ (V ++ Z))) (h : Srow w0 w B c X) (hD : ∀ y ∈ X, D y) (hL : X.length ≤ 288) (ha : a = A.length) (hm : m = A.length + U.length) (hb : b = m + V.length) (hU2 : 2 ≤ U.length) (hV2 : 2 ≤ V.length)
    (hU : U.Pairwise (Lx f)) (hV : V.Pairwise (Lx f)) (hx : ∀ u ∈ U, ∀ v ∈ V, f u = f v → u < v) (hbr0 : ¬ (a + b) / 2 < m) :
    Calls Tryd.prog 75 #[.slice (some ⟨B, 0, none⟩) X.length c, .int .i64 a, .int .i64 m, .int .i64 b, .func (.func 65) #[] #[p]] w fun e w' => e = .returned (.tuple #[]) ∧ Mrg w0 w' B c A (U ++ V) Z f := by
  have HS := hide h
  have hlen : A.length + U.length + V.length + Z.length = X.length := by rw [hX]; simp; omega
  have HX := hide hX
  obtain ⟨L, HLL⟩ : ∃ L, Hid (L = X.length) := ⟨_, rfl⟩
  have HD := hide hD
  have HU := hide hU
  have HV := hide hV
  have HXC := hide hx
  have HCM := hide hc
  have HIH := hide ih
  have HA := hide ha
  have HM := hide hm
  have HBB := hide hb
  have HN := hide hN
  have hbL : b ≤ L := by rw [HLL.out]; omega
  have hL2 : L ≤ 288 := by rw [HLL.out]; exact hL
  have GU : Hid (∀ i, i < U.length → X.getD (a + i) 0 = U.getD i 0) := fun i hi => by rw [hX, ha]; exact get_u A U V Z hi
  have GV : Hid (∀ i, i < V.length → X.getD (m + i) 0 = V.getD i 0) := fun i hi => by rw [hX, hm]; exact get_v A U V Z hi
  have DU : Hid (∀ i, i < U.length → D (U.getD i 0)) := fun i hi => hD _ (by rw [hX]; exact List.mem_append_right _ (List.mem_append_left _ (getD_mem6' hi)))
  have DV : Hid (∀ i, i < V.length → D (V.getD i 0)) := fun i hi => hD _ (by rw [hX]; exact List.mem_append_right _ (List.mem_append_right _ (List.mem_append_left _ (getD_mem6' hi))))
  have hUl : U.length = m - a := by omega
  have hVl : V.length = b - m := by omega
  have HUL := hide hUl
  have HVL := hide hVl
  have ham : a + 2 ≤ m := by omega
  have hmb : m + 2 ≤ b := by omega
  have hcap := h.cap
  rw [← HLL.out] at hcap ⊢
  have e1 : IntKind.i64.wrap ((m : Int) - a) = ((m - a : Nat) : Int) := by rw [IntKind.wrap_i64]; omega
  have e2 : IntKind.i64.wrap ((b : Int) - m) = ((b - m : Nat) : Int) := by rw [IntKind.wrap_i64]; omega
  obtain ⟨d1, hd1⟩ : ∃ d, d = m - a := ⟨_, rfl⟩
  obtain ⟨d2, hd2⟩ : ∃ d, d = b - m := ⟨_, rfl⟩
  rw [← hd1] at e1
  rw [← hd2] at e2
  have n1 : ¬ (d1 : Int) = 1 := by omega
  have n2 : ¬ (d2 : Int) = 1 := by omega
  have n1' : ((d1 : Int) == 1) = false := by simp; omega
  have n2' : ((d2 : Int) == 1) = false := by simp; omega
  obtain ⟨mid, hmid⟩ : ∃ mid, mid = (a + b) / 2 := ⟨_, rfl⟩
  have hbr : ¬ mid < m := by rw [hmid]; exact hbr0
  have hq : ((a : Int) + (b : Int)) / 2 = (mid : Int) := by omega
  have hmd : a + 2 ≤ mid ∧ mid + 2 ≤ b ∧ 2 * mid ≤ a + b ∧ a + b ≤ 2 * mid + 1 := by omega
  obtain ⟨n, hn⟩ : ∃ n, n = mid + m := ⟨_, rfl⟩
  have e3 : (mid : Int) + (m : Int) = (n : Int) := by omega
  have hn1 : n ≤ mid + m ∧ mid + m ≤ n := by omega
  have e4 : (n : Int) - 1 = ((n - 1 : Nat) : Int) := by omega
  obtain ⟨pp, hpp⟩ : ∃ q, q = n - 1 := ⟨_, rfl⟩
  rw [← hpp] at e4
  have hpp1 : pp + 1 ≤ n ∧ n ≤ pp + 1 := by omega
  have HMF : Hid (∀ lo hi st : Nat, lo ≤ st → st ≤ hi → a ≤ lo → hi ≤ m → hi ≤ mid → mid + m ≤ lo + b → (lo = a ∨ lo + b = mid + m) → (hi = m ∨ hi = mid) → (∀ c, lo ≤ c → c < st → f (U.getD (c - a) 0) ≤ f (V.getD (mid - 1 - c) 0)) → (∀ c, st ≤ c → c < hi → f (V.getD (mid - 1 - c) 0) < f (U.getD (c - a) 0)) → Cut4 f U V (U.take (st - a)) (U.drop (st - a)) (V.take (mid - st)) (V.drop (mid - st))) := fun lo hi st h1 h2 h3 h4 h5 h6 h7 h8 g1 g2 =>
    sym_split hU hV hx (by omega) (by omega) h1 h2 h3 h4 h5 h6 h7 h8 g1 g2
  clear h hX hD hU hV hx hc ih ha hm hb hlen hd1 hd2 hmid hn hpp hL hN hUl hVl hU2 hV2
  go_enter Tryd.func75, Tryd.ntmps75
  have hbr' : ¬ (mid : Int) < (m : Int) := by omega
  obtain ⟨lo, hlo⟩ : ∃ lo, lo = a := ⟨_, rfl⟩
  obtain ⟨hi, hhi⟩ : ∃ hi, hi = m := ⟨_, rfl⟩
  have FL : Hid (lo = a ∨ lo + b = mid + m) := .inl hlo
  have FH : Hid (hi = m ∨ hi = mid) := .inl hhi
  have FA : a ≤ lo ∧ lo ≤ hi ∧ hi ≤ m ∧ hi ≤ mid ∧ mid + m ≤ lo + b := by omega
  have HLO := hide hlo
  have HHI := hide hhi
  clear hlo hhi
  go_wp2
  go_loopw [20, 21] (fun vs vr wr => ∃ s r : Nat, lo ≤ s ∧ s ≤ r ∧ r ≤ hi ∧ vs = .int .i64 s ∧ vr = .int .i64 r ∧ Hid (Srow w0 wr B c X) ∧ Hid ((∀ t, lo ≤ t → t < s → f (U.getD (t - a) 0) ≤ f (V.getD (mid - 1 - t) 0)) ∧ ∀ t, r ≤ t → t < hi → f (V.getD (mid - 1 - t) 0) < f (U.getD (t - a) 0))) (fun vs vr _ => (intOf vr).toNat - (intOf vs).toNat)
  case atStart => exact ⟨lo, hi, Nat.le_refl _, FA.2.1, Nat.le_refl _, by first | rfl | rw [HLO.out], by first | rfl | rw [HHI.out], HS, fun t h1 h2 => by omega, fun t h1 h2 => by omega⟩
  case round =>
    obtain ⟨s, r, hls, hsr, hrh, rfl, rfl, HSR, HP⟩ := hrel
    by_cases hlt : s < r
    · have hlt' : (s : Int) < (r : Int) := by omega
      obtain ⟨hh, hhe⟩ : ∃ hh, hh = (s + r) / 2 := ⟨_, rfl⟩
      have hh1 : s ≤ hh ∧ hh < r := by omega
      have hqq : ((s : Int) + (r : Int)) / 2 = (hh : Int) := by omega
      have hxi : hh - a < U.length := by rw [HUL.out]; omega
      have hyi : mid - 1 - hh < V.length := by rw [HVL.out]; omega
      have cx := HSR.out.get (i := a + (hh - a)) (by rw [← HLL.out]; omega)
      rw [GU.out _ hxi, show a + (hh - a) = hh by omega] at cx
      have cy := HSR.out.get (i := m + (mid - 1 - hh)) (by rw [← HLL.out]; omega)
      rw [GV.out _ hyi] at cy
      obtain ⟨pc, hpc⟩ : ∃ pc, pc = m + (mid - 1 - hh) := ⟨_, rfl⟩
      rw [← hpc] at cy
      have e6 : (pp : Int) - (hh : Int) = (pc : Int) := by omega
      have hpcL : (pc : Int) < (L : Int) := by omega
      have hhL : (hh : Int) < (L : Int) := by omega
      have dx := DU.out _ hxi
      have dy := DV.out _ hyi
      have HMO : Hid (∀ t, (lo ≤ t → t ≤ hh → f (U.getD (t - a) 0) ≤ f (U.getD (hh - a) 0) ∧ f (V.getD (mid - 1 - hh) 0) ≤ f (V.getD (mid - 1 - t) 0)) ∧ (hh ≤ t → t < hi → f (U.getD (hh - a) 0) ≤ f (U.getD (t - a) 0) ∧ f (V.getD (mid - 1 - t) 0) ≤ f (V.getD (mid - 1 - hh) 0))) := fun t =>
        ⟨fun h1 h2 => ⟨mono_of HU.out (by omega) hxi, mono_of HV.out (by omega) (by rw [HVL.out]; omega)⟩, fun h1 h2 => ⟨mono_of HU.out (by omega) (by rw [HUL.out]; omega), mono_of HV.out (by omega) hyi⟩⟩
      obtain ⟨x, HXX⟩ : ∃ x, Hid (x = U.getD (hh - a) 0) := ⟨_, rfl⟩
      obtain ⟨y, HYY⟩ : ∃ x, Hid (x = V.getD (mid - 1 - hh) 0) := ⟨_, rfl⟩
      rw [← HXX.out] at cx dx HMO
      rw [← HYY.out] at cy dy HMO
      have HC : Hid (∀ k, Calls Tryd.prog 65 #[.int .i64 y, .int .i64 x, p] (wr.drewN k) fun e W' => e = .returned (.int .i64 (cmpv (f y) (f x))) ∧ ∃ k, W' = wr.drewN k) := fun k =>
        (HCM.out _ ((HSR.out.drewN k).only) y x dy dx).mono fun e W' ⟨he, j, hj⟩ => ⟨he, k + j, by rw [hj, World.drewN_drewN]⟩
      have hcv := cmpv_lt (f y) (f x)
      obtain ⟨cv, HCV⟩ : ∃ cv, Hid (cv = cmpv (f y) (f x)) := ⟨_, rfl⟩
      rw [← HCV.out] at hcv HC
      clear hhe hxi hyi hpc
      by_cases hlt2 : cv < 0
      · have HFL := hcv.1 hlt2
        have hnd : decide (cv < 0) = true := decide_eq_true hlt2
        have HPN : Hid ((∀ t, lo ≤ t → t < s → f (U.getD (t - a) 0) ≤ f (V.getD (mid - 1 - t) 0)) ∧ ∀ t, hh ≤ t → t < hi → f (V.getD (mid - 1 - t) 0) < f (U.getD (t - a) 0)) := ⟨HP.out.1, fun t h1 h2 => by
          have := (HMO.out t).2 h1 h2
          omega⟩
        clear hcv
        go_wp2
        go_quiet (first | (go_at_call 65; exact HC.out _))
        go_wp2
        go_roundw
        case rel => exact ⟨s, hh, hls, by omega, by omega, rfl, by go_num, HSR.out.drewN _, HPN⟩
        case measure => simp [intOf]; omega
      · have HFL : ¬ f y < f x := fun q => hlt2 (hcv.2 q)
        have hnd : decide (cv < 0) = false := decide_eq_false hlt2
        have HPN : Hid ((∀ t, lo ≤ t → t < hh + 1 → f (U.getD (t - a) 0) ≤ f (V.getD (mid - 1 - t) 0)) ∧ ∀ t, r ≤ t → t < hi → f (V.getD (mid - 1 - t) 0) < f (U.getD (t - a) 0)) := ⟨fun t h1 h2 => by
          have := (HMO.out t).1 h1 (by omega)
          omega, HP.out.2⟩
        clear hcv
        go_wp2
        go_quiet (first | (go_at_call 65; exact HC.out _))
        go_wp2
        go_roundw
        case rel => exact ⟨hh + 1, r, by omega, by omega, hrh, by go_num, rfl, HSR.out.drewN _, HPN⟩
        case measure => simp [intOf]; omega
    · obtain rfl : s = r := by omega
      have hlt' : ¬ (s : Int) < (s : Int) := by omega
      have HK := hide (HMF.out lo hi s hls hrh FA.1 FA.2.2.1 FA.2.2.2.1 FA.2.2.2.2 FL.out FH.out HP.out.1 HP.out.2)
      have hu1 : (U.take (s - a)).length = s - a := by rw [List.length_take, HUL.out]; omega
      have hu2 : (U.drop (s - a)).length = m - s := by rw [List.length_drop, HUL.out]; omega
      have hv1 : (V.take (mid - s)).length = mid - s := by rw [List.length_take, HVL.out]; omega
      have hv2 : (V.drop (mid - s)).length = b - (n - s) := by rw [List.length_drop, HVL.out]; omega
      obtain ⟨U1, h1⟩ : ∃ l, l = U.take (s - a) := ⟨_, rfl⟩
      obtain ⟨U2, h2⟩ : ∃ l, l = U.drop (s - a) := ⟨_, rfl⟩
      obtain ⟨V1, h3⟩ : ∃ l, l = V.take (mid - s) := ⟨_, rfl⟩
      obtain ⟨V2, h4⟩ : ∃ l, l = V.drop (mid - s) := ⟨_, rfl⟩
      rw [← h1, ← h2, ← h3, ← h4] at HK
      rw [← h1] at hu1
      rw [← h2] at hu2
      rw [← h3] at hv1
      rw [← h4] at hv2
      obtain ⟨en, hen⟩ : ∃ en, en = n - s := ⟨_, rfl⟩
      have e7 : (n : Int) - (s : Int) = (en : Int) := by omega
      rw [← hen] at hv2
      have hen1 : en + s ≤ n ∧ n ≤ en + s := by omega
      have HL1 := hide hu1
      have HL2 := hide hu2
      have HL3 := hide hv1
      have HL4 := hide hv2
      have HX2e := hide (cut_x2 HK.out A Z)
      obtain ⟨PU1, PU2, _⟩ := pw_left HU.out HK.out.u
      obtain ⟨PV1, PV2, _⟩ := pw_left HV.out HK.out.v
      have HPW := hide (And.intro PU1 (And.intro PU2 (And.intro PV1 PV2)))
      have HCR : Hid ((∀ u ∈ U1, ∀ v ∈ V1, f u = f v → u < v) ∧ ∀ u ∈ U2, ∀ v ∈ V2, f u = f v → u < v) := ⟨fun u hu v hv => HXC.out u (by rw [HK.out.u]; exact List.mem_append_left _ hu) v (by rw [HK.out.v]; exact List.mem_append_left _ hv), fun u hu v hv => HXC.out u (by rw [HK.out.u]; exact List.mem_append_right _ hu) v (by rw [HK.out.v]; exact List.mem_append_right _ hv)⟩
      obtain ⟨X2, HX2⟩ : ∃ X2, Hid (X2 = A ++ (U1 ++ (V1 ++ (U2 ++ (V2 ++ Z))))) := ⟨_, rfl⟩
      have HD2 : Hid (∀ y ∈ X2, D y) := fun y hy => HD.out y (by
        rw [HX.out, HX2e.out]
        rw [HX2.out] at hy
        simp only [List.mem_append] at hy ⊢
        rcases hy with q | q | q | q | q | q
        · exact .inl (.inl (.inl (.inl q)))
        · exact .inl (.inl (.inl (.inr q)))
        · exact .inl (.inr q)
        · exact .inl (.inl (.inr q))
        · exact .inr (.inl q)
        · exact .inr (.inr q))
      have hX2l : X2.length = L := by
        rw [HLL.out, HX.out, HX2e.out, HX2.out]
        simp
        omega
      have HX2L := hide hX2l
      have hsm : s ≤ m ∧ s ≤ mid ∧ a ≤ s ∧ m ≤ en ∧ mid ≤ en ∧ en ≤ b := by omega
      clear h1 h2 h3 h4 hu1 hu2 hv1 hv2 hen PU1 PU2 PV1 PV2 hX2l HP
      by_cases q0 : s < m ∧ m < en
      · have q0a : (s : Int) < (m : Int) := by omega
        have q0b : (m : Int) < (en : Int) := by omega
        have hC0 := rot_any (A ++ U1) U2 V1 (V2 ++ Z) X (by rw [HX.out]; exact HX2e.out) HSR.out (.func (.func 65) #[] #[p]) (by rw [← HLL.out]; exact hL2) s m en (by rw [List.length_append, HL1.out, ← HA.out]; omega) (by rw [List.length_append, HL1.out, HL2.out, ← HA.out]; omega) (by rw [List.length_append, HL1.out, HL2.out, HL3.out, ← HA.out]; omega) q0.1 q0.2 X2 (by rw [HX2.out]; simp)
        rw [← HLL.out] at hC0
        have HC0 := hide hC0
        clear hC0
        go_wp2_with fail
        refine HC0.out.mono ?_
        rintro e w3 ⟨rfl, hs3⟩
        have HS2 := hide hs3
        clear hs3
        by_cases q1 : a < s ∧ s < mid
        · have q1a : (a : Int) < (s : Int) := by omega
          have q1b : (s : Int) < (mid : Int) := by omega
          have hC1 := HIH.out w3 A U1 V1 (U2 ++ (V2 ++ Z)) X2 a s mid (by rw [HL1.out, HL3.out]; have := HN.out; have := HUL.out; have := HVL.out; omega) (by rw [HX2.out]) HS2.out HD2.out (by rw [HX2L.out]; exact hL2) HA.out (by rw [HL1.out, ← HA.out]; omega) (by rw [HL3.out]; omega) (by rw [HL1.out]; omega) (by rw [HL3.out]; omega) HPW.out.1 HPW.out.2.2.1 HCR.out.1
          rw [HX2L.out] at hC1
          have HC1 := hide hC1
          clear hC1
          go_wp2_with fail
          all_goals
            refine HC1.out.mono ?_
            rintro e w4 ⟨rfl, hm4⟩
            have HM1 := hide hm4
            clear hm4
            obtain ⟨Y1, T3, hT3, hp1, hs1, hr3⟩ := HM1.out
            have HY1 := hide (And.intro hp1 hs1)
            have HT3 : Hid (T3 = (A ++ Y1) ++ (U2 ++ (V2 ++ Z))) := by show _ = _; rw [hT3]; simp
            have HR3 := hide hr3
            have hY1l : Y1.length = mid - a := by rw [hp1.length_eq, List.length_append, HL1.out, HL3.out]; omega
            have hT3l : T3.length = L := by rw [HT3.out, ← HX2L.out, HX2.out]; simp; rw [hY1l, HL1.out, HL3.out]; omega
            have HD3 : Hid (∀ y ∈ T3, D y) := fun y hy => HD2.out y (by
              rw [HX2.out]
              rw [HT3.out] at hy
              simp only [List.mem_append] at hy ⊢
              rcases hy with (q | q) | q | q | q
              · exact .inl q
              · rcases List.mem_append.1 (hp1.subset q) with q | q
                · exact .inr (.inl q)
                · exact .inr (.inr (.inl q))
              · exact .inr (.inr (.inr (.inl q)))
              · exact .inr (.inr (.inr (.inr (.inl q))))
              · exact .inr (.inr (.inr (.inr (.inr q)))))
            have HAY : Hid ((A ++ Y1).length = mid) := by show _ = _; rw [List.length_append, hY1l, ← HA.out]; omega
            have HT3L := hide hT3l
            clear hT3 hp1 hs1 hr3 hY1l hT3l
            by_cases q2 : mid < en ∧ en < b
            · have q2a : (mid : Int) < (en : Int) := by omega
              have q2b : (en : Int) < (b : Int) := by omega
              have hC2 := HIH.out w4 (A ++ Y1) U2 V2 Z T3 mid en b (by rw [HL2.out, HL4.out]; have := HN.out; have := HUL.out; have := HVL.out; omega) (by rw [HT3.out]) HR3.out HD3.out (by rw [HT3L.out]; exact hL2) HAY.out.symm (by rw [HAY.out, HL2.out]; omega) (by rw [HL4.out]; omega) (by rw [HL2.out]; omega) (by rw [HL4.out]; omega) HPW.out.2.1 HPW.out.2.2.2 HCR.out.2
              rw [HT3L.out] at hC2
              have HC2 := hide hC2
              clear hC2
              go_wp2_with fail
              all_goals
                refine HC2.out.mono ?_
                rintro e w5 ⟨rfl, hm5⟩
                have HM2 := hide hm5
                clear hm5
                have HF : Hid (Mrg w0 w5 B c A (U ++ V) Z f) := mrg_fin HK.out HU.out HV.out HY1.out.1 HY1.out.2 HM2.out
                obtain ⟨UV, HUV⟩ : ∃ UV, Hid (UV = U ++ V) := ⟨_, rfl⟩
                rw [← HUV.out] at HF
                go_wp2
                all_goals
                  (try simp only [Exit.inBlock, Exit.then])
                  refine bodyPost_end (results_none rfl _ _ _) rfl ?_
                  refine ⟨rfl, ?_⟩
                  have := HF.out
                  rw [HUV.out] at this
                  exact this
            · have HM2 : Hid (Mrg w0 w4 B c (A ++ Y1) (U2 ++ V2) Z f) := by
                refine mrg_self ?_ (pw_one HPW.out.2.1 HPW.out.2.2.2 ?_)
                · have := HR3.out
                  rw [HT3.out] at this
                  simpa using this
                · by_cases z : U2.length = 0
                  · exact .inl (List.eq_nil_of_length_eq_zero z)
                  · refine .inr (List.eq_nil_of_length_eq_zero ?_)
                    rw [HL2.out] at z
                    rw [HL4.out]
                    omega
              have q2c : (decide ((mid : Int) < (en : Int)) && decide ((en : Int) < (b : Int))) = false := by
                rw [Bool.and_eq_false_iff, decide_eq_false_iff_not, decide_eq_false_iff_not]; omega
              by_cases q2d : mid < en
              · have q2a : (mid : Int) < (en : Int) := by omega
                have q2b : ¬ (en : Int) < (b : Int) := by omega
                clear q2c q2
                have HF : Hid (Mrg w0 w4 B c A (U ++ V) Z f) := mrg_fin HK.out HU.out HV.out HY1.out.1 HY1.out.2 HM2.out
                obtain ⟨UV, HUV⟩ : ∃ UV, Hid (UV = U ++ V) := ⟨_, rfl⟩
                rw [← HUV.out] at HF
                go_wp2
                all_goals
                  (try simp only [Exit.inBlock, Exit.then])
                  refine bodyPost_end (results_none rfl _ _ _) rfl ?_
                  refine ⟨rfl, ?_⟩
                  have := HF.out
                  rw [HUV.out] at this
                  exact this
              · have q2a : ¬ (mid : Int) < (en : Int) := by omega
                clear q2c q2
                have HF : Hid (Mrg w0 w4 B c A (U ++ V) Z f) := mrg_fin HK.out HU.out HV.out HY1.out.1 HY1.out.2 HM2.out
                obtain ⟨UV, HUV⟩ : ∃ UV, Hid (UV = U ++ V) := ⟨_, rfl⟩
                rw [← HUV.out] at HF
                go_wp2
                all_goals
                  (try simp only [Exit.inBlock, Exit.then])
                  refine bodyPost_end (results_none rfl _ _ _) rfl ?_
                  refine ⟨rfl, ?_⟩
                  have := HF.out
                  rw [HUV.out] at this
                  exact this
        · have HM1 : Hid (Mrg w0 w3 B c A (U1 ++ V1) (U2 ++ (V2 ++ Z)) f) := by
            refine mrg_self ?_ (pw_one HPW.out.1 HPW.out.2.2.1 ?_)
            · have := HS2.out
              rw [HX2.out] at this
              simpa using this
            · by_cases z : U1.length = 0
              · exact .inl (List.eq_nil_of_length_eq_zero z)
              · refine .inr (List.eq_nil_of_length_eq_zero ?_)
                rw [HL1.out] at z
                rw [HL3.out]
                omega
          by_cases q1d : a < s
          · have q1a : (a : Int) < (s : Int) := by omega
            have q1b : ¬ (s : Int) < (mid : Int) := by omega
            clear q1
            obtain ⟨Y1, T3, hT3, hp1, hs1, hr3⟩ := HM1.out
            have HY1 := hide (And.intro hp1 hs1)
            have HT3 : Hid (T3 = (A ++ Y1) ++ (U2 ++ (V2 ++ Z))) := by show _ = _; rw [hT3]; simp
            have HR3 := hide hr3
            have hY1l : Y1.length = mid - a := by rw [hp1.length_eq, List.length_append, HL1.out, HL3.out]; omega
            have hT3l : T3.length = L := by rw [HT3.out, ← HX2L.out, HX2.out]; simp; rw [hY1l, HL1.out, HL3.out]; omega
            have HD3 : Hid (∀ y ∈ T3, D y) := fun y hy => HD2.out y (by
              rw [HX2.out]
              rw [HT3.out] at hy
              simp only [List.mem_append] at hy ⊢
              rcases hy with (q | q) | q | q | q
              · exact .inl q
              · rcases List.mem_append.1 (hp1.subset q) with q | q
                · exact .inr (.inl q)
                · exact .inr (.inr (.inl q))
              · exact .inr (.inr (.inr (.inl q)))
              · exact .inr (.inr (.inr (.inr (.inl q))))
              · exact .inr (.inr (.inr (.inr (.inr q)))))
            have HAY : Hid ((A ++ Y1).length = mid) := by show _ = _; rw [List.length_append, hY1l, ← HA.out]; omega
            have HT3L := hide hT3l
            clear hT3 hp1 hs1 hr3 hY1l hT3l
            by_cases q2 : mid < en ∧ en < b
            · have q2a : (mid : Int) < (en : Int) := by omega
              have q2b : (en : Int) < (b : Int) := by omega
              have hC2 := HIH.out w3 (A ++ Y1) U2 V2 Z T3 mid en b (by rw [HL2.out, HL4.out]; have := HN.out; have := HUL.out; have := HVL.out; omega) (by rw [HT3.out]) HR3.out HD3.out (by rw [HT3L.out]; exact hL2) HAY.out.symm (by rw [HAY.out, HL2.out]; omega) (by rw [HL4.out]; omega) (by rw [HL2.out]; omega) (by rw [HL4.out]; omega) HPW.out.2.1 HPW.out.2.2.2 HCR.out.2
              rw [HT3L.out] at hC2
              have HC2 := hide hC2
              clear hC2
              go_wp2_with fail
              all_goals
                refine HC2.out.mono ?_
                rintro e w5 ⟨rfl, hm5⟩
                have HM2 := hide hm5
                clear hm5
                have HF : Hid (Mrg w0 w5 B c A (U ++ V) Z f) := mrg_fin HK.out HU.out HV.out HY1.out.1 HY1.out.2 HM2.out
                obtain ⟨UV, HUV⟩ : ∃ UV, Hid (UV = U ++ V) := ⟨_, rfl⟩
                rw [← HUV.out] at HF
                go_wp2
                all_goals
                  (try simp only [Exit.inBlock, Exit.then])
                  refine bodyPost_end (results_none rfl _ _ _) rfl ?_
                  refine ⟨rfl, ?_⟩
                  have := HF.out
                  rw [HUV.out] at this
                  exact this
            · have HM2 : Hid (Mrg w0 w3 B c (A ++ Y1) (U2 ++ V2) Z f) := by
                refine mrg_self ?_ (pw_one HPW.out.2.1 HPW.out.2.2.2 ?_)
                · have := HR3.out
                  rw [HT3.out] at this
                  simpa using this
                · by_cases z : U2.length = 0
                  · exact .inl (List.eq_nil_of_length_eq_zero z)
                  · refine .inr (List.eq_nil_of_length_eq_zero ?_)
                    rw [HL2.out] at z
                    rw [HL4.out]
                    omega
              have q2c : (decide ((mid : Int) < (en : Int)) && decide ((en : Int) < (b : Int))) = false := by
                rw [Bool.and_eq_false_iff, decide_eq_false_iff_not, decide_eq_false_iff_not]; omega
              by_cases q2d : mid < en
              · have q2a : (mid : Int) < (en : Int) := by omega
                have q2b : ¬ (en : Int) < (b : Int) := by omega
                clear q2c q2
                have HF : Hid (Mrg w0 w3 B c A (U ++ V) Z f) := mrg_fin HK.out HU.out HV.out HY1.out.1 HY1.out.2 HM2.out
                obtain ⟨UV, HUV⟩ : ∃ UV, Hid (UV = U ++ V) := ⟨_, rfl⟩
                rw [← HUV.out] at HF
                go_wp2
                all_goals
                  (try simp only [Exit.inBlock, Exit.then])
                  refine bodyPost_end (results_none rfl _ _ _) rfl ?_
                  refine ⟨rfl, ?_⟩
                  have := HF.out
                  rw [HUV.out] at this
                  exact this
              · have q2a : ¬ (mid : Int) < (en : Int) := by omega
                clear q2c q2
                have HF : Hid (Mrg w0 w3 B c A (U ++ V) Z f) := mrg_fin HK.out HU.out HV.out HY1.out.1 HY1.out.2 HM2.out
                obtain ⟨UV, HUV⟩ : ∃ UV, Hid (UV = U ++ V) := ⟨_, rfl⟩
                rw [← HUV.out] at HF
                go_wp2
                all_goals
                  (try simp only [Exit.inBlock, Exit.then])
                  refine bodyPost_end (results_none rfl _ _ _) rfl ?_
                  refine ⟨rfl, ?_⟩
                  have := HF.out
                  rw [HUV.out] at this
                  exact this
          · have q1a : ¬ (a : Int) < (s : Int) := by omega
            clear q1
            obtain ⟨Y1, T3, hT3, hp1, hs1, hr3⟩ := HM1.out
            have HY1 := hide (And.intro hp1 hs1)
            have HT3 : Hid (T3 = (A ++ Y1) ++ (U2 ++ (V2 ++ Z))) := by show _ = _; rw [hT3]; simp
            have HR3 := hide hr3
            have hY1l : Y1.length = mid - a := by rw [hp1.length_eq, List.length_append, HL1.out, HL3.out]; omega
            have hT3l : T3.length = L := by rw [HT3.out, ← HX2L.out, HX2.out]; simp; rw [hY1l, HL1.out, HL3.out]; omega
            have HD3 : Hid (∀ y ∈ T3, D y) := fun y hy => HD2.out y (by
              rw [HX2.out]
              rw [HT3.out] at hy
              simp only [List.mem_append] at hy ⊢
              rcases hy with (q | q) | q | q | q
              · exact .inl q
              · rcases List.mem_append.1 (hp1.subset q) with q | q
                · exact .inr (.inl q)
                · exact .inr (.inr (.inl q))
              · exact .inr (.inr (.inr (.inl q)))
              · exact .inr (.inr (.inr (.inr (.inl q))))
              · exact .inr (.inr (.inr (.inr (.inr q)))))
            have HAY : Hid ((A ++ Y1).length = mid) := by show _ = _; rw [List.length_append, hY1l, ← HA.out]; omega
            have HT3L := hide hT3l
            clear hT3 hp1 hs1 hr3 hY1l hT3l
            by_cases q2 : mid < en ∧ en < b
            · have q2a : (mid : Int) < (en : Int) := by omega
              have q2b : (en : Int) < (b : Int) := by omega
              have hC2 := HIH.out w3 (A ++ Y1) U2 V2 Z T3 mid en b (by rw [HL2.out, HL4.out]; have := HN.out; have := HUL.out; have := HVL.out; omega) (by rw [HT3.out]) HR3.out HD3.out (by rw [HT3L.out]; exact hL2) HAY.out.symm (by rw [HAY.out, HL2.out]; omega) (by rw [HL4.out]; omega) (by rw [HL2.out]; omega) (by rw [HL4.out]; omega) HPW.out.2.1 HPW.out.2.2.2 HCR.out.2
              rw [HT3L.out] at hC2
              have HC2 := hide hC2
              clear hC2
              go_wp2_with fail
              all_goals
                refine HC2.out.mono ?_
                rintro e w5 ⟨rfl, hm5⟩
                have HM2 := hide hm5
                clear hm5
                have HF : Hid (Mrg w0 w5 B c A (U ++ V) Z f) := mrg_fin HK.out HU.out HV.out HY1.out.1 HY1.out.2 HM2.out
                obtain ⟨UV, HUV⟩ : ∃ UV, Hid (UV = U ++ V) := ⟨_, rfl⟩
                rw [← HUV.out] at HF
                go_wp2
                all_goals
                  (try simp only [Exit.inBlock, Exit.then])
                  refine bodyPost_end (results_none rfl _ _ _) rfl ?_
                  refine ⟨rfl, ?_⟩
                  have := HF.out
                  rw [HUV.out] at this
                  exact this
            · have HM2 : Hid (Mrg w0 w3 B c (A ++ Y1) (U2 ++ V2) Z f) := by
                refine mrg_self ?_ (pw_one HPW.out.2.1 HPW.out.2.2.2 ?_)
                · have := HR3.out
                  rw [HT3.out] at this
                  simpa using this
                · by_cases z : U2.length = 0
                  · exact .inl (List.eq_nil_of_length_eq_zero z)
                  · refine .inr (List.eq_nil_of_length_eq_zero ?_)
                    rw [HL2.out] at z
                    rw [HL4.out]
                    omega
              have q2c : (decide ((mid : Int) < (en : Int)) && decide ((en : Int) < (b : Int))) = false := by
                rw [Bool.and_eq_false_iff, decide_eq_false_iff_not, decide_eq_false_iff_not]; omega
              by_cases q2d : mid < en
              · have q2a : (mid : Int) < (en : Int) := by omega
                have q2b : ¬ (en : Int) < (b : Int) := by omega
                clear q2c q2
                have HF : Hid (Mrg w0 w3 B c A (U ++ V) Z f) := mrg_fin HK.out HU.out HV.out HY1.out.1 HY1.out.2 HM2.out
                obtain ⟨UV, HUV⟩ : ∃ UV, Hid (UV = U ++ V) := ⟨_, rfl⟩
                rw [← HUV.out] at HF
                go_wp2
                all_goals
                  (try simp only [Exit.inBlock, Exit.then])
                  refine bodyPost_end (results_none rfl _ _ _) rfl ?_
                  refine ⟨rfl, ?_⟩
                  have := HF.out
                  rw [HUV.out] at this
                  exact this
              · have q2a : ¬ (mid : Int) < (en : Int) := by omega
                clear q2c q2
                have HF : Hid (Mrg w0 w3 B c A (U ++ V) Z f) := mrg_fin HK.out HU.out HV.out HY1.out.1 HY1.out.2 HM2.out
                obtain ⟨UV, HUV⟩ : ∃ UV, Hid (UV = U ++ V) := ⟨_, rfl⟩
                rw [← HUV.out] at HF
                go_wp2
                all_goals
                  (try simp only [Exit.inBlock, Exit.then])
                  refine bodyPost_end (results_none rfl _ _ _) rfl ?_
                  refine ⟨rfl, ?_⟩
                  have := HF.out
                  rw [HUV.out] at this
                  exact this
      · have HS2 : Hid (Srow w0 wr B c X2) := by
          have := HSR.out
          rw [HX.out, cut_no HK.out A Z (by
            by_cases z : U2.length = 0
            · exact .inl (List.eq_nil_of_length_eq_zero z)
            · refine .inr (List.eq_nil_of_length_eq_zero ?_)
              rw [HL2.out] at z
              rw [HL3.out]
              omega), ← HX2.out] at this
          exact this
        by_cases q0d : s < m
        · have q0a : (s : Int) < (m : Int) := by omega
          have q0b : ¬ (m : Int) < (en : Int) := by omega
          clear q0
          by_cases q1 : a < s ∧ s < mid
          · have q1a : (a : Int) < (s : Int) := by omega
            have q1b : (s : Int) < (mid : Int) := by omega
            have hC1 := HIH.out wr A U1 V1 (U2 ++ (V2 ++ Z)) X2 a s mid (by rw [HL1.out, HL3.out]; have := HN.out; have := HUL.out; have := HVL.out; omega) (by rw [HX2.out]) HS2.out HD2.out (by rw [HX2L.out]; exact hL2) HA.out (by rw [HL1.out, ← HA.out]; omega) (by rw [HL3.out]; omega) (by rw [HL1.out]; omega) (by rw [HL3.out]; omega) HPW.out.1 HPW.out.2.2.1 HCR.out.1
            rw [HX2L.out] at hC1
            have HC1 := hide hC1
            clear hC1
            go_wp2_with fail
            all_goals
              refine HC1.out.mono ?_
              rintro e w4 ⟨rfl, hm4⟩
              have HM1 := hide hm4
              clear hm4
              obtain ⟨Y1, T3, hT3, hp1, hs1, hr3⟩ := HM1.out
              have HY1 := hide (And.intro hp1 hs1)
              have HT3 : Hid (T3 = (A ++ Y1) ++ (U2 ++ (V2 ++ Z))) := by show _ = _; rw [hT3]; simp
              have HR3 := hide hr3
              have hY1l : Y1.length = mid - a := by rw [hp1.length_eq, List.length_append, HL1.out, HL3.out]; omega
              have hT3l : T3.length = L := by rw [HT3.out, ← HX2L.out, HX2.out]; simp; rw [hY1l, HL1.out, HL3.out]; omega
              have HD3 : Hid (∀ y ∈ T3, D y) := fun y hy => HD2.out y (by
                rw [HX2.out]
                rw [HT3.out] at hy
                simp only [List.mem_append] at hy ⊢
                rcases hy with (q | q) | q | q | q
                · exact .inl q
                · rcases List.mem_append.1 (hp1.subset q) with q | q
                  · exact .inr (.inl q)
                  · exact .inr (.inr (.inl q))
                · exact .inr (.inr (.inr (.inl q)))
                · exact .inr (.inr (.inr (.inr (.inl q))))
                · exact .inr (.inr (.inr (.inr (.inr q)))))
              have HAY : Hid ((A ++ Y1).length = mid) := by show _ = _; rw [List.length_append, hY1l, ← HA.out]; omega
              have HT3L := hide hT3l
              clear hT3 hp1 hs1 hr3 hY1l hT3l
              by_cases q2 : mid < en ∧ en < b
              · have q2a : (mid : Int) < (en : Int) := by omega
                have q2b : (en : Int) < (b : Int) := by omega
                have hC2 := HIH.out w4 (A ++ Y1) U2 V2 Z T3 mid en b (by rw [HL2.out, HL4.out]; have := HN.out; have := HUL.out; have := HVL.out; omega) (by rw [HT3.out]) HR3.out HD3.out (by rw [HT3L.out]; exact hL2) HAY.out.symm (by rw [HAY.out, HL2.out]; omega) (by rw [HL4.out]; omega) (by rw [HL2.out]; omega) (by rw [HL4.out]; omega) HPW.out.2.1 HPW.out.2.2.2 HCR.out.2
                rw [HT3L.out] at hC2
                have HC2 := hide hC2
                clear hC2
                go_wp2_with fail
                all_goals
                  refine HC2.out.mono ?_
                  rintro e w5 ⟨rfl, hm5⟩
                  have HM2 := hide hm5
                  clear hm5
                  have HF : Hid (Mrg w0 w5 B c A (U ++ V) Z f) := mrg_fin HK.out HU.out HV.out HY1.out.1 HY1.out.2 HM2.out
                  obtain ⟨UV, HUV⟩ : ∃ UV, Hid (UV = U ++ V) := ⟨_, rfl⟩
                  rw [← HUV.out] at HF
                  go_wp2
                  all_goals
                    (try simp only [Exit.inBlock, Exit.then])
                    refine bodyPost_end (results_none rfl _ _ _) rfl ?_
                    refine ⟨rfl, ?_⟩
                    have := HF.out
                    rw [HUV.out] at this
                    exact this
              · have HM2 : Hid (Mrg w0 w4 B c (A ++ Y1) (U2 ++ V2) Z f) := by
                  refine mrg_self ?_ (pw_one HPW.out.2.1 HPW.out.2.2.2 ?_)
                  · have := HR3.out
                    rw [HT3.out] at this
                    simpa using this
                  · by_cases z : U2.length = 0
                    · exact .inl (List.eq_nil_of_length_eq_zero z)
                    · refine .inr (List.eq_nil_of_length_eq_zero ?_)
                      rw [HL2.out] at z
                      rw [HL4.out]
                      omega
                have q2c : (decide ((mid : Int) < (en : Int)) && decide ((en : Int) < (b : Int))) = false := by
                  rw [Bool.and_eq_false_iff, decide_eq_false_iff_not, decide_eq_false_iff_not]; omega
                by_cases q2d : mid < en
                · have q2a : (mid : Int) < (en : Int) := by omega
                  have q2b : ¬ (en : Int) < (b : Int) := by omega
                  clear q2c q2
                  have HF : Hid (Mrg w0 w4 B c A (U ++ V) Z f) := mrg_fin HK.out HU.out HV.out HY1.out.1 HY1.out.2 HM2.out
                  obtain ⟨UV, HUV⟩ : ∃ UV, Hid (UV = U ++ V) := ⟨_, rfl⟩
                  rw [← HUV.out] at HF
                  go_wp2
                  all_goals
                    (try simp only [Exit.inBlock, Exit.then])
                    refine bodyPost_end (results_none rfl _ _ _) rfl ?_
                    refine ⟨rfl, ?_⟩
                    have := HF.out
                    rw [HUV.out] at this
                    exact this
                · have q2a : ¬ (mid : Int) < (en : Int) := by omega
                  clear q2c q2
                  have HF : Hid (Mrg w0 w4 B c A (U ++ V) Z f) := mrg_fin HK.out HU.out HV.out HY1.out.1 HY1.out.2 HM2.out
                  obtain ⟨UV, HUV⟩ : ∃ UV, Hid (UV = U ++ V) := ⟨_, rfl⟩
                  rw [← HUV.out] at HF
                  go_wp2
                  all_goals
                    (try simp only [Exit.inBlock, Exit.then])
                    refine bodyPost_end (results_none rfl _ _ _) rfl ?_
                    refine ⟨rfl, ?_⟩
                    have := HF.out
                    rw [HUV.out] at this
                    exact this
          · have HM1 : Hid (Mrg w0 wr B c A (U1 ++ V1) (U2 ++ (V2 ++ Z)) f) := by
              refine mrg_self ?_ (pw_one HPW.out.1 HPW.out.2.2.1 ?_)
              · have := HS2.out
                rw [HX2.out] at this
                simpa using this
              · by_cases z : U1.length = 0
                · exact .inl (List.eq_nil_of_length_eq_zero z)
                · refine .inr (List.eq_nil_of_length_eq_zero ?_)
                  rw [HL1.out] at z
                  rw [HL3.out]
                  omega
            by_cases q1d : a < s
            · have q1a : (a : Int) < (s : Int) := by omega
              have q1b : ¬ (s : Int) < (mid : Int) := by omega
              clear q1
              obtain ⟨Y1, T3, hT3, hp1, hs1, hr3⟩ := HM1.out
              have HY1 := hide (And.intro hp1 hs1)
              have HT3 : Hid (T3 = (A ++ Y1) ++ (U2 ++ (V2 ++ Z))) := by show _ = _; rw [hT3]; simp
              have HR3 := hide hr3
              have hY1l : Y1.length = mid - a := by rw [hp1.length_eq, List.length_append, HL1.out, HL3.out]; omega
              have hT3l : T3.length = L := by rw [HT3.out, ← HX2L.out, HX2.out]; simp; rw [hY1l, HL1.out, HL3.out]; omega
              have HD3 : Hid (∀ y ∈ T3, D y) := fun y hy => HD2.out y (by
                rw [HX2.out]
                rw [HT3.out] at hy
                simp only [List.mem_append] at hy ⊢
                rcases hy with (q | q) | q | q | q
                · exact .inl q
                · rcases List.mem_append.1 (hp1.subset q) with q | q
                  · exact .inr (.inl q)
                  · exact .inr (.inr (.inl q))
                · exact .inr (.inr (.inr (.inl q)))
                · exact .inr (.inr (.inr (.inr (.inl q))))
                · exact .inr (.inr (.inr (.inr (.inr q)))))
              have HAY : Hid ((A ++ Y1).length = mid) := by show _ = _; rw [List.length_append, hY1l, ← HA.out]; omega
              have HT3L := hide hT3l
              clear hT3 hp1 hs1 hr3 hY1l hT3l
              by_cases q2 : mid < en ∧ en < b
              · have q2a : (mid : Int) < (en : Int) := by omega
                have q2b : (en : Int) < (b : Int) := by omega
                have hC2 := HIH.out wr (A ++ Y1) U2 V2 Z T3 mid en b (by rw [HL2.out, HL4.out]; have := HN.out; have := HUL.out; have := HVL.out; omega) (by rw [HT3.out]) HR3.out HD3.out (by rw [HT3L.out]; exact hL2) HAY.out.symm (by rw [HAY.out, HL2.out]; omega) (by rw [HL4.out]; omega) (by rw [HL2.out]; omega) (by rw [HL4.out]; omega) HPW.out.2.1 HPW.out.2.2.2 HCR.out.2
                rw [HT3L.out] at hC2
                have HC2 := hide hC2
                clear hC2
                go_wp2_with fail
                all_goals
                  refine HC2.out.mono ?_
                  rintro e w5 ⟨rfl, hm5⟩
                  have HM2 := hide hm5
                  clear hm5
                  have HF : Hid (Mrg w0 w5 B c A (U ++ V) Z f) := mrg_fin HK.out HU.out HV.out HY1.out.1 HY1.out.2 HM2.out
                  obtain ⟨UV, HUV⟩ : ∃ UV, Hid (UV = U ++ V) := ⟨_, rfl⟩
                  rw [← HUV.out] at HF
                  go_wp2
                  all_goals
                    (try simp only [Exit.inBlock, Exit.then])
                    refine bodyPost_end (results_none rfl _ _ _) rfl ?_
                    refine ⟨rfl, ?_⟩
                    have := HF.out
                    rw [HUV.out] at this
                    exact this
              · have HM2 : Hid (Mrg w0 wr B c (A ++ Y1) (U2 ++ V2) Z f) := by
                  refine mrg_self ?_ (pw_one HPW.out.2.1 HPW.out.2.2.2 ?_)
                  · have := HR3.out
                    rw [HT3.out] at this
                    simpa using this
                  · by_cases z : U2.length = 0
                    · exact .inl (List.eq_nil_of_length_eq_zero z)
                    · refine .inr (List.eq_nil_of_length_eq_zero ?_)
                      rw [HL2.out] at z
                      rw [HL4.out]
                      omega
                have q2c : (decide ((mid : Int) < (en : Int)) && decide ((en : Int) < (b : Int))) = false := by
                  rw [Bool.and_eq_false_iff, decide_eq_false_iff_not, decide_eq_false_iff_not]; omega
                by_cases q2d : mid < en
                · have q2a : (mid : Int) < (en : Int) := by omega
                  have q2b : ¬ (en : Int) < (b : Int) := by omega
                  clear q2c q2
                  have HF : Hid (Mrg w0 wr B c A (U ++ V) Z f) := mrg_fin HK.out HU.out HV.out HY1.out.1 HY1.out.2 HM2.out
                  obtain ⟨UV, HUV⟩ : ∃ UV, Hid (UV = U ++ V) := ⟨_, rfl⟩
                  rw [← HUV.out] at HF
                  go_wp2
                  all_goals
                    (try simp only [Exit.inBlock, Exit.then])
                    refine bodyPost_end (results_none rfl _ _ _) rfl ?_
                    refine ⟨rfl, ?_⟩
                    have := HF.out
                    rw [HUV.out] at this
                    exact this
                · have q2a : ¬ (mid : Int) < (en : Int) := by omega
                  clear q2c q2
                  have HF : Hid (Mrg w0 wr B c A (U ++ V) Z f) := mrg_fin HK.out HU.out HV.out HY1.out.1 HY1.out.2 HM2.out
                  obtain ⟨UV, HUV⟩ : ∃ UV, Hid (UV = U ++ V) := ⟨_, rfl⟩
                  rw [← HUV.out] at HF
                  go_wp2
                  all_goals
                    (try simp only [Exit.inBlock, Exit.then])
                    refine bodyPost_end (results_none rfl _ _ _) rfl ?_
                    refine ⟨rfl, ?_⟩
                    have := HF.out
                    rw [HUV.out] at this
                    exact this
            · have q1a : ¬ (a : Int) < (s : Int) := by omega
              clear q1
              obtain ⟨Y1, T3, hT3, hp1, hs1, hr3⟩ := HM1.out
              have HY1 := hide (And.intro hp1 hs1)
              have HT3 : Hid (T3 = (A ++ Y1) ++ (U2 ++ (V2 ++ Z))) := by show _ = _; rw [hT3]; simp
              have HR3 := hide hr3
              have hY1l : Y1.length = mid - a := by rw [hp1.length_eq, List.length_append, HL1.out, HL3.out]; omega
              have hT3l : T3.length = L := by rw [HT3.out, ← HX2L.out, HX2.out]; simp; rw [hY1l, HL1.out, HL3.out]; omega
              have HD3 : Hid (∀ y ∈ T3, D y) := fun y hy => HD2.out y (by
                rw [HX2.out]
                rw [HT3.out] at hy
                simp only [List.mem_append] at hy ⊢
                rcases hy with (q | q) | q | q | q
                · exact .inl q
                · rcases List.mem_append.1 (hp1.subset q) with q | q
                  · exact .inr (.inl q)
                  · exact .inr (.inr (.inl q))
                · exact .inr (.inr (.inr (.inl q)))
                · exact .inr (.inr (.inr (.inr (.inl q))))
                · exact .inr (.inr (.inr (.inr (.inr q)))))
              have HAY : Hid ((A ++ Y1).length = mid) := by show _ = _; rw [List.length_append, hY1l, ← HA.out]; omega
              have HT3L := hide hT3l
              clear hT3 hp1 hs1 hr3 hY1l hT3l
              by_cases q2 : mid < en ∧ en < b
              · have q2a : (mid : Int) < (en : Int) := by omega
                have q2b : (en : Int) < (b : Int) := by omega
                have hC2 := HIH.out wr (A ++ Y1) U2 V2 Z T3 mid en b (by rw [HL2.out, HL4.out]; have := HN.out; have := HUL.out; have := HVL.out; omega) (by rw [HT3.out]) HR3.out HD3.out (by rw [HT3L.out]; exact hL2) HAY.out.symm (by rw [HAY.out, HL2.out]; omega) (by rw [HL4.out]; omega) (by rw [HL2.out]; omega) (by rw [HL4.out]; omega) HPW.out.2.1 HPW.out.2.2.2 HCR.out.2
                rw [HT3L.out] at hC2
                have HC2 := hide hC2
                clear hC2
                go_wp2_with fail
                all_goals
                  refine HC2.out.mono ?_
                  rintro e w5 ⟨rfl, hm5⟩
                  have HM2 := hide hm5
                  clear hm5
                  have HF : Hid (Mrg w0 w5 B c A (U ++ V) Z f) := mrg_fin HK.out HU.out HV.out HY1.out.1 HY1.out.2 HM2.out
                  obtain ⟨UV, HUV⟩ : ∃ UV, Hid (UV = U ++ V) := ⟨_, rfl⟩
                  rw [← HUV.out] at HF
                  go_wp2
                  all_goals
                    (try simp only [Exit.inBlock, Exit.then])
                    refine bodyPost_end (results_none rfl _ _ _) rfl ?_
                    refine ⟨rfl, ?_⟩
                    have := HF.out
                    rw [HUV.out] at this
                    exact this
              · have HM2 : Hid (Mrg w0 wr B c (A ++ Y1) (U2 ++ V2) Z f) := by
                  refine mrg_self ?_ (pw_one HPW.out.2.1 HPW.out.2.2.2 ?_)
                  · have := HR3.out
                    rw [HT3.out] at this
                    simpa using this
                  · by_cases z : U2.length = 0
                    · exact .inl (List.eq_nil_of_length_eq_zero z)
                    · refine .inr (List.eq_nil_of_length_eq_zero ?_)
                      rw [HL2.out] at z
                      rw [HL4.out]
                      omega
                have q2c : (decide ((mid : Int) < (en : Int)) && decide ((en : Int) < (b : Int))) = false := by
                  rw [Bool.and_eq_false_iff, decide_eq_false_iff_not, decide_eq_false_iff_not]; omega
                by_cases q2d : mid < en
                · have q2a : (mid : Int) < (en : Int) := by omega
                  have q2b : ¬ (en : Int) < (b : Int) := by omega
                  clear q2c q2
                  have HF : Hid (Mrg w0 wr B c A (U ++ V) Z f) := mrg_fin HK.out HU.out HV.out HY1.out.1 HY1.out.2 HM2.out
                  obtain ⟨UV, HUV⟩ : ∃ UV, Hid (UV = U ++ V) := ⟨_, rfl⟩
                  rw [← HUV.out] at HF
                  go_wp2
                  all_goals
                    (try simp only [Exit.inBlock, Exit.then])
                    refine bodyPost_end (results_none rfl _ _ _) rfl ?_
                    refine ⟨rfl, ?_⟩
                    have := HF.out
                    rw [HUV.out] at this
                    exact this
                · have q2a : ¬ (mid : Int) < (en : Int) := by omega
                  clear q2c q2
                  have HF : Hid (Mrg w0 wr B c A (U ++ V) Z f) := mrg_fin HK.out HU.out HV.out HY1.out.1 HY1.out.2 HM2.out
                  obtain ⟨UV, HUV⟩ : ∃ UV, Hid (UV = U ++ V) := ⟨_, rfl⟩
                  rw [← HUV.out] at HF
                  go_wp2
                  all_goals
                    (try simp only [Exit.inBlock, Exit.then])
                    refine bodyPost_end (results_none rfl _ _ _) rfl ?_
                    refine ⟨rfl, ?_⟩
                    have := HF.out
                    rw [HUV.out] at this
                    exact this
        · have q0a : ¬ (s : Int) < (m : Int) := by omega
          clear q0
          by_cases q1 : a < s ∧ s < mid
          · have q1a : (a : Int) < (s : Int) := by omega
            have q1b : (s : Int) < (mid : Int) := by omega
            have hC1 := HIH.out wr A U1 V1 (U2 ++ (V2 ++ Z)) X2 a s mid (by rw [HL1.out, HL3.out]; have := HN.out; have := HUL.out; have := HVL.out; omega) (by rw [HX2.out]) HS2.out HD2.out (by rw [HX2L.out]; exact hL2) HA.out (by rw [HL1.out, ← HA.out]; omega) (by rw [HL3.out]; omega) (by rw [HL1.out]; omega) (by rw [HL3.out]; omega) HPW.out.1 HPW.out.2.2.1 HCR.out.1
            rw [HX2L.out] at hC1
            have HC1 := hide hC1
            clear hC1
            go_wp2_with fail
            all_goals
              refine HC1.out.mono ?_
              rintro e w4 ⟨rfl, hm4⟩
              have HM1 := hide hm4
              clear hm4
              obtain ⟨Y1, T3, hT3, hp1, hs1, hr3⟩ := HM1.out
              have HY1 := hide (And.intro hp1 hs1)
              have HT3 : Hid (T3 = (A ++ Y1) ++ (U2 ++ (V2 ++ Z))) := by show _ = _; rw [hT3]; simp
              have HR3 := hide hr3
              have hY1l : Y1.length = mid - a := by rw [hp1.length_eq, List.length_append, HL1.out, HL3.out]; omega
              have hT3l : T3.length = L := by rw [HT3.out, ← HX2L.out, HX2.out]; simp; rw [hY1l, HL1.out, HL3.out]; omega
              have HD3 : Hid (∀ y ∈ T3, D y) := fun y hy => HD2.out y (by
                rw [HX2.out]
                rw [HT3.out] at hy
                simp only [List.mem_append] at hy ⊢
                rcases hy with (q | q) | q | q | q
                · exact .inl q
                · rcases List.mem_append.1 (hp1.subset q) with q | q
                  · exact .inr (.inl q)
                  · exact .inr (.inr (.inl q))
                · exact .inr (.inr (.inr (.inl q)))
                · exact .inr (.inr (.inr (.inr (.inl q))))
                · exact .inr (.inr (.inr (.inr (.inr q)))))
              have HAY : Hid ((A ++ Y1).length = mid) := by show _ = _; rw [List.length_append, hY1l, ← HA.out]; omega
              have HT3L := hide hT3l
              clear hT3 hp1 hs1 hr3 hY1l hT3l
              by_cases q2 : mid < en ∧ en < b
              · have q2a : (mid : Int) < (en : Int) := by omega
                have q2b : (en : Int) < (b : Int) := by omega
                have hC2 := HIH.out w4 (A ++ Y1) U2 V2 Z T3 mid en b (by rw [HL2.out, HL4.out]; have := HN.out; have := HUL.out; have := HVL.out; omega) (by rw [HT3.out]) HR3.out HD3.out (by rw [HT3L.out]; exact hL2) HAY.out.symm (by rw [HAY.out, HL2.out]; omega) (by rw [HL4.out]; omega) (by rw [HL2.out]; omega) (by rw [HL4.out]; omega) HPW.out.2.1 HPW.out.2.2.2 HCR.out.2
                rw [HT3L.out] at hC2
                have HC2 := hide hC2
                clear hC2
                go_wp2_with fail
                all_goals
                  refine HC2.out.mono ?_
                  rintro e w5 ⟨rfl, hm5⟩
                  have HM2 := hide hm5
                  clear hm5
                  have HF : Hid (Mrg w0 w5 B c A (U ++ V) Z f) := mrg_fin HK.out HU.out HV.out HY1.out.1 HY1.out.2 HM2.out
                  obtain ⟨UV, HUV⟩ : ∃ UV, Hid (UV = U ++ V) := ⟨_, rfl⟩
                  rw [← HUV.out] at HF
                  go_wp2
                  all_goals
                    (try simp only [Exit.inBlock, Exit.then])
                    refine bodyPost_end (results_none rfl _ _ _) rfl ?_
                    refine ⟨rfl, ?_⟩
                    have := HF.out
                    rw [HUV.out] at this
                    exact this
              · have HM2 : Hid (Mrg w0 w4 B c (A ++ Y1) (U2 ++ V2) Z f) := by
                  refine mrg_self ?_ (pw_one HPW.out.2.1 HPW.out.2.2.2 ?_)
                  · have := HR3.out
                    rw [HT3.out] at this
                    simpa using this
                  · by_cases z : U2.length = 0
                    · exact .inl (List.eq_nil_of_length_eq_zero z)
                    · refine .inr (List.eq_nil_of_length_eq_zero ?_)
                      rw [HL2.out] at z
                      rw [HL4.out]
                      omega
                have q2c : (decide ((mid : Int) < (en : Int)) && decide ((en : Int) < (b : Int))) = false := by
                  rw [Bool.and_eq_false_iff, decide_eq_false_iff_not, decide_eq_false_iff_not]; omega
                by_cases q2d : mid < en
                · have q2a : (mid : Int) < (en : Int) := by omega
                  have q2b : ¬ (en : Int) < (b : Int) := by omega
                  clear q2c q2
                  have HF : Hid (Mrg w0 w4 B c A (U ++ V) Z f) := mrg_fin HK.out HU.out HV.out HY1.out.1 HY1.out.2 HM2.out
                  obtain ⟨UV, HUV⟩ : ∃ UV, Hid (UV = U ++ V) := ⟨_, rfl⟩
                  rw [← HUV.out] at HF
                  go_wp2
                  all_goals
                    (try simp only [Exit.inBlock, Exit.then])
                    refine bodyPost_end (results_none rfl _ _ _) rfl ?_
                    refine ⟨rfl, ?_⟩
                    have := HF.out
                    rw [HUV.out] at this
                    exact this
                · have q2a : ¬ (mid : Int) < (en : Int) := by omega
                  clear q2c q2
                  have HF : Hid (Mrg w0 w4 B c A (U ++ V) Z f) := mrg_fin HK.out HU.out HV.out HY1.out.1 HY1.out.2 HM2.out
                  obtain ⟨UV, HUV⟩ : ∃ UV, Hid (UV = U ++ V) := ⟨_, rfl⟩
                  rw [← HUV.out] at HF
                  go_wp2
                  all_goals
                    (try simp only [Exit.inBlock, Exit.then])
                    refine bodyPost_end (results_none rfl _ _ _) rfl ?_
                    refine ⟨rfl, ?_⟩
                    have := HF.out
                    rw [HUV.out] at this
                    exact this
          · have HM1 : Hid (Mrg w0 wr B c A (U1 ++ V1) (U2 ++ (V2 ++ Z)) f) := by
              refine mrg_self ?_ (pw_one HPW.out.1 HPW.out.2.2.1 ?_)
              · have := HS2.out
                rw [HX2.out] at this
                simpa using this
              · by_cases z : U1.length = 0
                · exact .inl (List.eq_nil_of_length_eq_zero z)
                · refine .inr (List.eq_nil_of_length_eq_zero ?_)
                  rw [HL1.out] at z
                  rw [HL3.out]
                  omega
            by_cases q1d : a < s
            · have q1a : (a : Int) < (s : Int) := by omega
              have q1b : ¬ (s : Int) < (mid : Int) := by omega
              clear q1
              obtain ⟨Y1, T3, hT3, hp1, hs1, hr3⟩ := HM1.out
              have HY1 := hide (And.intro hp1 hs1)
              have HT3 : Hid (T3 = (A ++ Y1) ++ (U2 ++ (V2 ++ Z))) := by show _ = _; rw [hT3]; simp
              have HR3 := hide hr3
              have hY1l : Y1.length = mid - a := by rw [hp1.length_eq, List.length_append, HL1.out, HL3.out]; omega
              have hT3l : T3.length = L := by rw [HT3.out, ← HX2L.out, HX2.out]; simp; rw [hY1l, HL1.out, HL3.out]; omega
              have HD3 : Hid (∀ y ∈ T3, D y) := fun y hy => HD2.out y (by
                rw [HX2.out]
                rw [HT3.out] at hy
                simp only [List.mem_append] at hy ⊢
                rcases hy with (q | q) | q | q | q
                · exact .inl q
                · rcases List.mem_append.1 (hp1.subset q) with q | q
                  · exact .inr (.inl q)
                  · exact .inr (.inr (.inl q))
                · exact .inr (.inr (.inr (.inl q)))
                · exact .inr (.inr (.inr (.inr (.inl q))))
                · exact .inr (.inr (.inr (.inr (.inr q)))))
              have HAY : Hid ((A ++ Y1).length = mid) := by show _ = _; rw [List.length_append, hY1l, ← HA.out]; omega
              have HT3L := hide hT3l
              clear hT3 hp1 hs1 hr3 hY1l hT3l
              by_cases q2 : mid < en ∧ en < b
              · have q2a : (mid : Int) < (en : Int) := by omega
                have q2b : (en : Int) < (b : Int) := by omega
                have hC2 := HIH.out wr (A ++ Y1) U2 V2 Z T3 mid en b (by rw [HL2.out, HL4.out]; have := HN.out; have := HUL.out; have := HVL.out; omega) (by rw [HT3.out]) HR3.out HD3.out (by rw [HT3L.out]; exact hL2) HAY.out.symm (by rw [HAY.out, HL2.out]; omega) (by rw [HL4.out]; omega) (by rw [HL2.out]; omega) (by rw [HL4.out]; omega) HPW.out.2.1 HPW.out.2.2.2 HCR.out.2
                rw [HT3L.out] at hC2
                have HC2 := hide hC2
                clear hC2
                go_wp2_with fail
                all_goals
                  refine HC2.out.mono ?_
                  rintro e w5 ⟨rfl, hm5⟩
                  have HM2 := hide hm5
                  clear hm5
                  have HF : Hid (Mrg w0 w5 B c A (U ++ V) Z f) := mrg_fin HK.out HU.out HV.out HY1.out.1 HY1.out.2 HM2.out
                  obtain ⟨UV, HUV⟩ : ∃ UV, Hid (UV = U ++ V) := ⟨_, rfl⟩
                  rw [← HUV.out] at HF
                  go_wp2
                  all_goals
                    (try simp only [Exit.inBlock, Exit.then])
                    refine bodyPost_end (results_none rfl _ _ _) rfl ?_
                    refine ⟨rfl, ?_⟩
                    have := HF.out
                    rw [HUV.out] at this
                    exact this
              · have HM2 : Hid (Mrg w0 wr B c (A ++ Y1) (U2 ++ V2) Z f) := by
                  refine mrg_self ?_ (pw_one HPW.out.2.1 HPW.out.2.2.2 ?_)
                  · have := HR3.out
                    rw [HT3.out] at this
                    simpa using this
                  · by_cases z : U2.length = 0
                    · exact .inl (List.eq_nil_of_length_eq_zero z)
                    · refine .inr (List.eq_nil_of_length_eq_zero ?_)
                      rw [HL2.out] at z
                      rw [HL4.out]
                      omega
                have q2c : (decide ((mid : Int) < (en : Int)) && decide ((en : Int) < (b : Int))) = false := by
                  rw [Bool.and_eq_false_iff, decide_eq_false_iff_not, decide_eq_false_iff_not]; omega
                by_cases q2d : mid < en
                · have q2a : (mid : Int) < (en : Int) := by omega
                  have q2b : ¬ (en : Int) < (b : Int) := by omega
                  clear q2c q2
                  have HF : Hid (Mrg w0 wr B c A (U ++ V) Z f) := mrg_fin HK.out HU.out HV.out HY1.out.1 HY1.out.2 HM2.out
                  obtain ⟨UV, HUV⟩ : ∃ UV, Hid (UV = U ++ V) := ⟨_, rfl⟩
                  rw [← HUV.out] at HF
                  go_wp2
                  all_goals
                    (try simp only [Exit.inBlock, Exit.then])
                    refine bodyPost_end (results_none rfl _ _ _) rfl ?_
                    refine ⟨rfl, ?_⟩
                    have := HF.out
                    rw [HUV.out] at this
                    exact this
                · have q2a : ¬ (mid : Int) < (en : Int) := by omega
                  clear q2c q2
                  have HF : Hid (Mrg w0 wr B c A (U ++ V) Z f) := mrg_fin HK.out HU.out HV.out HY1.out.1 HY1.out.2 HM2.out
                  obtain ⟨UV, HUV⟩ : ∃ UV, Hid (UV = U ++ V) := ⟨_, rfl⟩
                  rw [← HUV.out] at HF
                  go_wp2
                  all_goals
                    (try simp only [Exit.inBlock, Exit.then])
                    refine bodyPost_end (results_none rfl _ _ _) rfl ?_
                    refine ⟨rfl, ?_⟩
                    have := HF.out
                    rw [HUV.out] at this
                    exact this
            · have q1a : ¬ (a : Int) < (s : Int) := by omega
              clear q1
              obtain ⟨Y1, T3, hT3, hp1, hs1, hr3⟩ := HM1.out
              have HY1 := hide (And.intro hp1 hs1)
              have HT3 : Hid (T3 = (A ++ Y1) ++ (U2 ++ (V2 ++ Z))) := by show _ = _; rw [hT3]; simp
              have HR3 := hide hr3
              have hY1l : Y1.length = mid - a := by rw [hp1.length_eq, List.length_append, HL1.out, HL3.out]; omega
              have hT3l : T3.length = L := by rw [HT3.out, ← HX2L.out, HX2.out]; simp; rw [hY1l, HL1.out, HL3.out]; omega
              have HD3 : Hid (∀ y ∈ T3, D y) := fun y hy => HD2.out y (by
                rw [HX2.out]
                rw [HT3.out] at hy
                simp only [List.mem_append] at hy ⊢
                rcases hy with (q | q) | q | q | q
                · exact .inl q
                · rcases List.mem_append.1 (hp1.subset q) with q | q
                  · exact .inr (.inl q)
                  · exact .inr (.inr (.inl q))
                · exact .inr (.inr (.inr (.inl q)))
                · exact .inr (.inr (.inr (.inr (.inl q))))
                · exact .inr (.inr (.inr (.inr (.inr q)))))
              have HAY : Hid ((A ++ Y1).length = mid) := by show _ = _; rw [List.length_append, hY1l, ← HA.out]; omega
              have HT3L := hide hT3l
              clear hT3 hp1 hs1 hr3 hY1l hT3l
              by_cases q2 : mid < en ∧ en < b
              · have q2a : (mid : Int) < (en : Int) := by omega
                have q2b : (en : Int) < (b : Int) := by omega
                have hC2 := HIH.out wr (A ++ Y1) U2 V2 Z T3 mid en b (by rw [HL2.out, HL4.out]; have := HN.out; have := HUL.out; have := HVL.out; omega) (by rw [HT3.out]) HR3.out HD3.out (by rw [HT3L.out]; exact hL2) HAY.out.symm (by rw [HAY.out, HL2.out]; omega) (by rw [HL4.out]; omega) (by rw [HL2.out]; omega) (by rw [HL4.out]; omega) HPW.out.2.1 HPW.out.2.2.2 HCR.out.2
                rw [HT3L.out] at hC2
                have HC2 := hide hC2
                clear hC2
                go_wp2_with fail
                all_goals
                  refine HC2.out.mono ?_
                  rintro e w5 ⟨rfl, hm5⟩
                  have HM2 := hide hm5
                  clear hm5
                  have HF : Hid (Mrg w0 w5 B c A (U ++ V) Z f) := mrg_fin HK.out HU.out HV.out HY1.out.1 HY1.out.2 HM2.out
                  obtain ⟨UV, HUV⟩ : ∃ UV, Hid (UV = U ++ V) := ⟨_, rfl⟩
                  rw [← HUV.out] at HF
                  go_wp2
                  all_goals
                    (try simp only [Exit.inBlock, Exit.then])
                    refine bodyPost_end (results_none rfl _ _ _) rfl ?_
                    refine ⟨rfl, ?_⟩
                    have := HF.out
                    rw [HUV.out] at this
                    exact this
              · have HM2 : Hid (Mrg w0 wr B c (A ++ Y1) (U2 ++ V2) Z f) := by
                  refine mrg_self ?_ (pw_one HPW.out.2.1 HPW.out.2.2.2 ?_)
                  · have := HR3.out
                    rw [HT3.out] at this
                    simpa using this
                  · by_cases z : U2.length = 0
                    · exact .inl (List.eq_nil_of_length_eq_zero z)
                    · refine .inr (List.eq_nil_of_length_eq_zero ?_)
                      rw [HL2.out] at z
                      rw [HL4.out]
                      omega
                have q2c : (decide ((mid : Int) < (en : Int)) && decide ((en : Int) < (b : Int))) = false := by
                  rw [Bool.and_eq_false_iff, decide_eq_false_iff_not, decide_eq_false_iff_not]; omega
                by_cases q2d : mid < en
                · have q2a : (mid : Int) < (en : Int) := by omega
                  have q2b : ¬ (en : Int) < (b : Int) := by omega
                  clear q2c q2
                  have HF : Hid (Mrg w0 wr B c A (U ++ V) Z f) := mrg_fin HK.out HU.out HV.out HY1.out.1 HY1.out.2 HM2.out
                  obtain ⟨UV, HUV⟩ : ∃ UV, Hid (UV = U ++ V) := ⟨_, rfl⟩
                  rw [← HUV.out] at HF
                  go_wp2
                  all_goals
                    (try simp only [Exit.inBlock, Exit.then])
                    refine bodyPost_end (results_none rfl _ _ _) rfl ?_
                    refine ⟨rfl, ?_⟩
                    have := HF.out
                    rw [HUV.out] at this
                    exact this
                · have q2a : ¬ (mid : Int) < (en : Int) := by omega
                  clear q2c q2
                  have HF : Hid (Mrg w0 wr B c A (U ++ V) Z f) := mrg_fin HK.out HU.out HV.out HY1.out.1 HY1.out.2 HM2.out
                  obtain ⟨UV, HUV⟩ : ∃ UV, Hid (UV = U ++ V) := ⟨_, rfl⟩
                  rw [← HUV.out] at HF
                  go_wp2
                  all_goals
                    (try simp only [Exit.inBlock, Exit.then])
                    refine bodyPost_end (results_none rfl _ _ _) rfl ?_
                    refine ⟨rfl, ?_⟩
                    have := HF.out
                    rw [HUV.out] at this
                    exact this
end Go.Proofs.YtkmefeihkmbngaaDoor

