import Derived.Test.YthjgabncifghaabItem
import Derived.BigQuiet
namespace Go.Proofs.Ythjgabncifghaab
open Go.RowKit Go.Maps
set_option maxRecDepth 20000
variable {X : Nat → Prop}

theorem itemAt {w : World} {b : Nat} {x : It} (h : w.heap[b]? = some (.cells #[.int .i64 x.w, .int .i64 x.n, .string x.s] 24 (0, 0))) :
    w.cell? ⟨b, 0, none⟩ = some (.int .i64 x.w) ∧ w.cell? ⟨b, 1, none⟩ = some (.int .i64 x.n) ∧ w.cell? ⟨b, 2, none⟩ = some (.string x.s) := by
  simp [World.cell?, h]

theorem put_any {w : World} {K : Nat → Nat} {g : Nat} {st : BSt} (h : Bu true w K g st) (x : It) (h0 : -9223372036854775808 ≤ x.n) (h1 : x.n ≤ 9223372036854775807) (hs : x.s.size ≤ 1048576) (hl : st.l.length ≤ 100000000000000) :
    Calls Try.prog 10 #[.pointer (some ⟨g, 0, none⟩), .agg #[.int .i64 x.w, .int .i64 x.n, .string x.s]] w fun e w' => e = .returned (.tuple #[]) ∧ ∃ K', Bu true w' K' g (putSt st x) ∧ Fr K K' w w' := by
  obtain ⟨V, HV⟩ : ∃ V, Hid (V = w.alloc (.cells #[.int .i64 x.w, .int .i64 x.n, .string x.s] 24)) := ⟨_, rfl⟩
  have hbv : Below w.heap.size w V := by rw [HV.out]; exact (Below.refl _ _).alloc (Nat.le_refl _) _
  have HX : Hid (V.heap[w.heap.size]? = some (.cells #[.int .i64 x.w, .int .i64 x.n, .string x.s] 24 (0, 0))) := by show _ = _; rw [HV.out]; exact heap_alloc_new _ _
  have HZ : Hid (V.heap.size = w.heap.size + 1) := by show _ = _; rw [HV.out]; exact size_alloc' _ _
  have HB := hide (h.below hbv)
  have HBV := hide hbv
  have hA := absN_in h0 h1
  have hf0 : -9223372036854775808 ≤ fitN x := by unfold fitN; split; omega; split <;> omega
  have hf1 : fitN x ≤ 9223372036854775807 := by unfold fitN; split; omega; split <;> omega
  clear h hbv hA
  go_enter Try.func10, Try.ntmps10
  go_wp2_with fail
  rw [← HV.out]
  refine (lfits_any x h0 h1 V).mono ?_
  rintro e w1 ⟨rfl, hb1⟩
  obtain ⟨y0, y1, y2⟩ := itemAt ((hb1.block w.heap.size (by rw [HZ.out]; omega)).trans HX.out)
  obtain ⟨u, HU⟩ : ∃ u, Hid (BuV true w1 K g u st) := HB.out.below hb1
  have HF1 : Hid (Fr K K w w1) := (Fr.of_below HBV.out).trans (Fr.of_below hb1)
  clear hb1 HB HX
  by_cases k1 : x.w = 1
  · have HS : Hid (putSt st x = numSt st (fitN x) 1) := by show _ = _; unfold putSt; rw [if_pos k1]
    rw [k1] at y0 ⊢
    go_wp2_with fail
    refine (bu8_any HU.out (fitN x) hf0 hf1 (by omega)).mono ?_
    rintro e w2 ⟨rfl, K2, hb2, hf2⟩
    have HF2 := hide (And.intro hb2 (HF1.out.trans hf2))
    clear hb2 hf2
    go_wp2
    (try simp only [Exit.inBlock, Exit.then]); refine bodyPost_end (results_none rfl _ _ _) rfl ?_
    rw [HS.out]
    exact ⟨rfl, K2, HF2.out.1, HF2.out.2⟩
  · by_cases k2 : x.w = 2
    · have HS : Hid (putSt st x = numSt st (fitN x) 2) := by show _ = _; unfold putSt; rw [if_neg k1, if_pos k2]
      clear k1
      rw [k2] at y0 ⊢
      go_wp2_with fail
      refine (bu16_any HU.out (fitN x) hf0 hf1 (by omega)).mono ?_
      rintro e w2 ⟨rfl, K2, hb2, hf2⟩
      have HF2 := hide (And.intro hb2 (HF1.out.trans hf2))
      clear hb2 hf2
      go_wp2
      (try simp only [Exit.inBlock, Exit.then]); refine bodyPost_end (results_none rfl _ _ _) rfl ?_
      rw [HS.out]
      exact ⟨rfl, K2, HF2.out.1, HF2.out.2⟩
    · by_cases k4 : x.w = 4
      · have HS : Hid (putSt st x = numSt st (fitN x) 4) := by show _ = _; unfold putSt; rw [if_neg k1, if_neg k2, if_pos k4]
        clear k1 k2
        rw [k4] at y0 ⊢
        go_wp2_with fail
        refine (bu32_any HU.out (fitN x) hf0 hf1 (by omega)).mono ?_
        rintro e w2 ⟨rfl, K2, hb2, hf2⟩
        have HF2 := hide (And.intro hb2 (HF1.out.trans hf2))
        clear hb2 hf2
        go_wp2
        (try simp only [Exit.inBlock, Exit.then]); refine bodyPost_end (results_none rfl _ _ _) rfl ?_
        rw [HS.out]
        exact ⟨rfl, K2, HF2.out.1, HF2.out.2⟩
      · have HS : Hid (putSt st x = textSt st x.s) := by show _ = _; unfold putSt; rw [if_neg k1, if_neg k2, if_neg k4]
        go_wp2_with fail
        refine (btext_any HU.out x.s (by omega)).mono ?_
        rintro e w2 ⟨rfl, K2, hb2, hf2⟩
        have HF2 := hide (And.intro hb2 (HF1.out.trans hf2))
        clear hb2 hf2
        go_wp2
        (try simp only [Exit.inBlock, Exit.then]); refine bodyPost_end (results_none rfl _ _ _) rfl ?_
        rw [HS.out]
        exact ⟨rfl, K2, HF2.out.1, HF2.out.2⟩

theorem fitN_le (x : It) (h0 : -9223372036854775808 ≤ x.n) (h1 : x.n ≤ 9223372036854775807) : (x.w = 1 → le (bytesLE (fitN x) 1) = fitN x) ∧ (x.w = 2 → le (bytesLE (fitN x) 2) = fitN x) ∧ (x.w = 4 → le (bytesLE (fitN x) 4) = fitN x) := by
  have hA := absN_in h0 h1
  refine ⟨fun k => le_bytesLE _ _ ?_ ?_, fun k => le_bytesLE _ _ ?_ ?_, fun k => le_bytesLE _ _ ?_ ?_⟩
  all_goals (unfold fitN; simp only [k])
  all_goals simp
  all_goals omega

theorem Cu.below {T : Nat} {w w' : World} {g : Nat} {st : CSt} (h : Cu X T w g st) (hb : Below w.heap.size w w') : Cu X T w' g st := by
  obtain ⟨v, h1, h2, h3, h4, h5, h6⟩ := h
  refine ⟨v, (hb.block g h1.lt).trans h1, ?_, h3, h4, h5, h6⟩
  by_cases hd : st.d = []
  · rcases h2 with h2 | ⟨b, cap, rfl, x1, x2, x3⟩
    · exact .inl h2
    · exact .inr ⟨b, cap, rfl, x1, x2, fun i hi => by rw [hd] at hi; exact absurd hi (Nat.not_lt_zero _)⟩
  · exact h2.move fun k hk => hb.block k (h2.lt hd k hk)

set_option maxHeartbeats 1000000 in
theorem got_any {w : World} {g B : Nat} {st : CSt} (h : Cu X 68 w g st) (x : It) (h0 : -9223372036854775808 ≤ x.n) (h1 : x.n ≤ 9223372036854775807) (hN : nextL st ((encI x).length : Nat) = encI x) (hB : B ≤ g) (hBw : B ≤ w.heap.size) :
    Calls Try.prog 15 #[.pointer (some ⟨g, 0, none⟩), .agg #[.int .i64 x.w, .int .i64 x.n, .string x.s]] w fun e w' => e = .returned (.bool true) ∧ Cu X 68 w' g (nextSt st ((encI x).length : Nat)) ∧ Below B w w' := by
  obtain ⟨V, HV⟩ : ∃ V, Hid (V = w.alloc (.cells #[.int .i64 x.w, .int .i64 x.n, .string x.s] 24)) := ⟨_, rfl⟩
  have hbv : Below w.heap.size w V := by rw [HV.out]; exact (Below.refl _ _).alloc (Nat.le_refl _) _
  have HX : Hid (V.heap[w.heap.size]? = some (.cells #[.int .i64 x.w, .int .i64 x.n, .string x.s] 24 (0, 0))) := by show _ = _; rw [HV.out]; exact heap_alloc_new _ _
  have HZ : Hid (V.heap.size = w.heap.size + 1) := by show _ = _; rw [HV.out]; exact size_alloc' _ _
  have HC : Hid (Cu X 68 V g st) := by rw [HV.out]; exact h.alloc _
  have HBV := hide (hbv.mono hBw)
  have HG := hide h.lt
  have HLe := hide (fitN_le x h0 h1)
  have HNx := hide hN
  clear h hbv hN
  go_enter Try.func15, Try.ntmps15
  go_wp2_with fail
  rw [← HV.out]
  refine (lfits_any x h0 h1 V).mono ?_
  rintro e w1 ⟨rfl, hb1⟩
  have HX1 : Hid (w1.heap[w.heap.size]? = some (.cells #[.int .i64 x.w, .int .i64 x.n, .string x.s] 24 (0, 0))) := (hb1.block w.heap.size (by rw [HZ.out]; omega)).trans HX.out
  obtain ⟨y0, y1, y2⟩ := itemAt HX1.out
  have HC1 : Hid (Cu X 68 w1 g st) := HC.out.below hb1
  have HF1 : Hid (Below B w w1) := HBV.out.trans (hb1.mono (by have := HZ.out; omega))
  clear hb1 HX
  by_cases k1 : x.w = 1
  · have HEn : Hid (encI x = bytesLE (fitN x) 1) := by show _ = _; unfold encI; rw [if_pos k1]
    have HLn : Hid ((encI x).length = 1) := by show _ = _; rw [HEn.out, length_bytesLE]
    have HNn : Hid (nextL st (1 : Nat) = bytesLE (fitN x) 1) := by have h := HNx.out; rw [HLn.out, HEn.out] at h; exact h
    have HVal : Hid (le (bytesLE (fitN x) 1) = fitN x) := HLe.out.1 k1
    rw [k1] at y0 ⊢
    go_wp2_with fail
    refine (u8_any HC1.out hB).mono ?_
    rintro e w2 ⟨rfl, hc2, ht2⟩
    have HF2 := hide (And.intro hc2 (HF1.out.trans ht2.1))
    rw [HNn.out, HVal.out]
    clear hc2 ht2
    go_wp2
    go_ret
    rw [HLn.out]
    exact ⟨by simp, HF2.out.1, HF2.out.2⟩
  by_cases k2 : x.w = 2
  · have HEn : Hid (encI x = bytesLE (fitN x) 2) := by show _ = _; unfold encI; rw [if_neg k1, if_pos k2]
    have HLn : Hid ((encI x).length = 2) := by show _ = _; rw [HEn.out, length_bytesLE]
    have HNn : Hid (nextL st (2 : Nat) = bytesLE (fitN x) 2) := by have h := HNx.out; rw [HLn.out, HEn.out] at h; exact h
    have HVal : Hid (le (bytesLE (fitN x) 2) = fitN x) := HLe.out.2.1 k2
    rw [k2] at y0 ⊢
    go_wp2_with fail
    refine (u16_any HC1.out hB).mono ?_
    rintro e w2 ⟨rfl, hc2, ht2⟩
    have HF2 := hide (And.intro hc2 (HF1.out.trans ht2.1))
    rw [HNn.out, HVal.out]
    clear hc2 ht2
    go_wp2
    go_ret
    rw [HLn.out]
    exact ⟨by simp, HF2.out.1, HF2.out.2⟩
  by_cases k4 : x.w = 4
  · have HEn : Hid (encI x = bytesLE (fitN x) 4) := by show _ = _; unfold encI; rw [if_neg k1, if_neg k2, if_pos k4]
    have HLn : Hid ((encI x).length = 4) := by show _ = _; rw [HEn.out, length_bytesLE]
    have HNn : Hid (nextL st (4 : Nat) = bytesLE (fitN x) 4) := by have h := HNx.out; rw [HLn.out, HEn.out] at h; exact h
    have HVal : Hid (le (bytesLE (fitN x) 4) = fitN x) := HLe.out.2.2 k4
    rw [k4] at y0 ⊢
    go_wp2_with fail
    refine (u32_any HC1.out hB).mono ?_
    rintro e w2 ⟨rfl, hc2, ht2⟩
    have HF2 := hide (And.intro hc2 (HF1.out.trans ht2.1))
    rw [HNn.out, HVal.out]
    clear hc2 ht2
    go_wp2
    go_ret
    rw [HLn.out]
    exact ⟨by simp, HF2.out.1, HF2.out.2⟩
  have HEn : Hid (encI x = strL x.s) := by show _ = _; unfold encI; rw [if_neg k1, if_neg k2, if_neg k4]
  have HLn : Hid ((encI x).length = x.s.size) := by show _ = _; rw [HEn.out, length_strL]
  have HNn : Hid (strOfNums (nextL st (x.s.size : Nat)) = x.s) := by show _ = _; have h := HNx.out; rw [HLn.out, HEn.out] at h; rw [h, str_back]
  have HK : Hid (∀ w2 : World, w2.heap[w.heap.size]? = w1.heap[w.heap.size]? → w2.cell? ⟨w.heap.size, 2, none⟩ = some (.string x.s)) := fun w2 e => by
    rw [HX1.out] at e
    exact (itemAt e).2.2
  have HSz : Hid (w.heap.size < w1.heap.size ∧ w.heap.size ≠ g) := by
    refine ⟨(Array.getElem?_eq_some_iff.1 HX1.out).1, ?_⟩
    have := HG.out
    omega
  have HCd : Hid (Cu X 68 w1.drew g st) := HC1.out.below (Below.refl _ _).drew
  have y2d : w1.drew.cell? ⟨w.heap.size, 2, none⟩ = some (.string x.s) := y2
  go_wp2
  go_region_held3 (fun w' => w'.cell? ⟨w.heap.size, 2, none⟩ = some (.string x.s)) (go_keep)
    (first
      | (go_at_call 28; refine (text_any HCd.out (x.s.size : Int) hB).mono ?_; rintro e w2 ⟨rfl, hc2, ht2⟩; have n2 := HK.out w2 ((ht2.2 w.heap.size HSz.out.1 HSz.out.2).trans rfl)))
  all_goals
    have HF2 := hide (And.intro hc2 (HF1.out.trans ((Below.refl B w1).drew.trans ht2.1)))
    clear hc2 ht2
    go_wp2
    go_ret
    rw [HLn.out]
    refine ⟨?_, HF2.out.1, HF2.out.2⟩
    show Ending.returned (Value.bool ((strOfNums (nextL st (x.s.size : Nat))).toList == x.s.toList)) = _
    rw [HNn.out]
    simp
end Go.Proofs.Ythjgabncifghaab
