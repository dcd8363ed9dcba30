import Derived.Test.YtklffkbcigehfaaMst
namespace Go.Proofs.Ytklffkbcigehfaa
open Go.RowKit Go.Maps
set_option maxRecDepth 20000

theorem Herd.only1 {W w : World} {xs : List ((Nat → Nat) × Thing)} (h : Herd W w xs) (i : Nat) {d : (Nat → Nat) × Thing} (hi : xs[i]? = some d) : Herd W w [d] := by
  have e : ∀ (j : Nat) (d' : (Nat → Nat) × Thing), [d][j]? = some d' → j = 0 ∧ d' = d := fun j d' h => by
    cases j with
    | zero => simp at h; exact ⟨rfl, h.symm⟩
    | succ j => simp at h
  refine ⟨h.bel, fun j d' hd => ?_, fun j d' hd => ?_, fun j j' d' e' hd he hne => ?_⟩
  · obtain ⟨_, rfl⟩ := e j d' hd; exact h.rep i _ hi
  · obtain ⟨_, rfl⟩ := e j d' hd; exact h.up i _ hi
  · have := (e j d' hd).1; have := (e j' e' he).1; omega

set_option maxHeartbeats 4000000 in
theorem most_walk (n b : Int) (hb0 : 0 ≤ b) (hb1 : b < 256) (w : World) :
    Calls Try.prog 6 #[.int .i64 n, .int .u8 b] w fun e w' => e = .returned (.bool true) ∧ Below w.heap.size w w' := by
  by_cases hn : n < 0
  · go_enter Try.func6, Try.ntmps6
    go_wp2
    go_ret
    exact ⟨rfl, Below.refl _ _⟩
  by_cases hn2 : 67108864 < n
  · go_enter Try.func6, Try.ntmps6
    go_wp2
    go_ret
    exact ⟨rfl, Below.refl _ _⟩
  obtain ⟨m, rfl⟩ : ∃ m : Nat, n = m := ⟨n.toNat, by omega⟩
  have hm : m ≤ 67108864 := by omega
  have H0 := hide (Herd.nil w)
  go_enter Try.func6, Try.ntmps6
  go_wp2_with (at_make; refine wpList_mk rfl _ _ rfl _ _ _ _ m m rfl rfl rfl rfl (Nat.le_refl _) (by omega) ?_)
  intro w1 hmk hb1'
  have Hmk : Hid (w1.heap[w.heap.size]? = some (.cells (List.replicate m (Value.int .u8 0)).toArray 5 (0, 0))) := by show _ = _; simpa using hmk
  have HB1 := hide hb1'
  clear hmk hb1'
  obtain ⟨B, HE⟩ : ∃ B, Hid (B = w.heap.size) := ⟨_, rfl⟩
  rw [← HE.out] at Hmk ⊢
  go_wp2
  go_loopw [6] (fun i wr => ∃ k : Nat, i = .int .i64 k ∧ k ≤ m ∧ Hid (wr.heap[B]? = some (.cells (List.replicate k (Value.int .u8 b) ++ (List.replicate m (Value.int .u8 0)).drop k).toArray 5 (0, 0))) ∧ Hid (Below w.heap.size w wr)) (fun i _ => m - (intOf i).toNat)
  case atStart => exact ⟨0, rfl, Nat.zero_le _, by show _ = _; simpa using Hmk.out, HB1.out⟩
  case round =>
    clear Hmk HB1
    obtain ⟨k, rfl, hk, HH, HB⟩ := hrel
    by_cases hlt : k < m
    · have hlt' : (k : Int) < (m : Int) := by omega
      have hc : wr.cell? ⟨B, k, none⟩ = some (.int .u8 0) := by
        have e : (List.replicate k (Value.int .u8 b) ++ (List.replicate m (Value.int .u8 0)).drop k)[k]? = some (.int .u8 0) := by
          rw [List.getElem?_append_right (by simp), List.length_replicate, Nat.sub_self, List.getElem?_drop]
          simp [hlt]
        unfold World.cell?
        simp only [HH.out]
        rw [List.getElem?_toArray]
        exact e
      have hf : wr.frozen? ⟨B, k, none⟩ = false := by simp [World.frozen?, HH.out]
      go_wp2
      go_roundw
      case rel =>
        refine ⟨k + 1, by go_num, by omega, ?_, HB.out.trans ((Below.refl _ _).setCell (by rw [HE.out]; exact Nat.le_refl _) _)⟩
        show _ = _
        rw [heap_setCell_at _ HH.out, set_front _ _ _ (by simp; omega)]
      case measure => simp [intOf]; omega
    · obtain rfl : k = m := by omega
      have hlt' : ¬ (k : Int) < (k : Int) := by omega
      have HO : Hid (OB wr w.heap.size (.slice (some ⟨B, 0, none⟩) k k) (List.replicate k b)) := by
        have := OB.of_full (w := wr) (base := w.heap.size) (g := B) (l := List.replicate k b) (by simpa using HH.out) (by rw [HE.out]; exact Nat.le_refl _) (by simp; unfold maxLen; omega)
        show OB _ _ _ _
        simpa using this
      obtain ⟨K1, hH⟩ := (Herd.nil w).list HB.out HO.out
      obtain ⟨D, HD⟩ : ∃ D, Hid (D = List.replicate k b) := ⟨_, rfl⟩
      have HDl : Hid (D.length = k) := by show _ = _; rw [HD.out, List.length_replicate]
      have HDB : Hid (Byt D) := by rw [HD.out]; exact byt_rep hb0 hb1 k
      rw [← HD.out] at hH
      have H1 : Hid (Herd w wr [(K1, tl (.slice (some ⟨B, 0, none⟩) k k) D)]) := hH
      clear hH HO HH
      have HSB := hide (H1.out.sb 0 rfl)
      by_cases hbig : 33554432 < k
      · have hbig' : (33554432 : Int) < k := by omega
        have R1 : Hid (rawE [] D = 1 ∧ rawRow [] D = []) := raw_full (by rw [HDl.out]; simp; omega)
        go_wp2_with fail
        refine (newReader_no _ D wr HSB.out (by rw [HDl.out]; omega)).mono ?_
        rintro e wx ⟨rfl, hwx⟩
        subst hwx
        go_wp2_with fail
        refine (hnewW H1.out).mono ?_
        rintro e w2 ⟨g, K2, rfl, hH⟩
        have H2 : Hid (Herd w w2 [(K1, tl (.slice (some ⟨B, 0, none⟩) k k) D), (K2, tw g [])]) := hH
        clear hH
        go_wp2_with fail
        refine (hraw H2.out 1 rfl _ D HDB.out (H2.out.sb 0 rfl) (fun x hx _ => H2.out.sep 0 1 _ _ rfl rfl (by decide) x ((H2.out.rep 0 _ rfl).2.1 x hx))).mono ?_
        rintro e w3 ⟨rfl, K3, hH⟩
        rw [R1.out.1]
        rw [R1.out.2] at hH
        have H3 := hide hH
        clear hH
        go_wp2_with fail
        refine (hlen H3.out 1 rfl).mono ?_
        rintro e w4 ⟨rfl, hH⟩
        have H4 := hide hH.bel
        clear hH
        go_wp2
        go_ret
        exact ⟨rfl, H4.out⟩
      · have hbig' : ¬ (33554432 : Int) < k := by omega
        have hks : k ≤ 33554432 := by omega
        obtain ⟨R, HR⟩ : ∃ R, Hid (R = unpack D) := ⟨_, rfl⟩
        have HRl : Hid (R.length = 8 * k) := by show _ = _; rw [HR.out, length_unpack, HDl.out]
        have R1 : Hid (rawE [] D = 0 ∧ rawRow [] D = R) := by
          have q1 : ¬ (268435456 < ([] : List Int).length + 8 * D.length) := by rw [HDl.out]; simp; omega
          have q2 : ¬ (([] : List Int).length % 8 ≠ 0) := by simp
          unfold rawE rawRow
          rw [if_neg q1, if_neg q1, if_neg q2, if_neg q2, HR.out]
          exact ⟨rfl, rfl⟩
        have HRi : Hid ((R.length : Int) = 8 * (k : Int)) := by show _ = _; rw [HRl.out]; omega
        have HRi0 : Hid ((R.length : Int) - ((0 : Nat) : Int) = 8 * (k : Int)) := by show _ = _; rw [HRl.out]; omega
        go_wp2_with fail
        refine (hnewR H1.out _ D HSB.out HDB.out (by rw [HDl.out]; exact hks)).mono ?_
        rintro e w2 ⟨g2, K2, rfl, hH⟩
        rw [← HR.out] at hH
        have H2 : Hid (Herd w w2 [(K1, tl (.slice (some ⟨B, 0, none⟩) k k) D), (K2, tr g2 R 0)]) := hH
        clear hH
        go_wp2_with fail
        refine (hnewW H2.out).mono ?_
        rintro e w3 ⟨g, K3, rfl, hH⟩
        have H3 : Hid (Herd w w3 [(K1, tl (.slice (some ⟨B, 0, none⟩) k k) D), (K2, tr g2 R 0), (K3, tw g [])]) := hH
        clear hH
        go_wp2_with fail
        refine (hraw H3.out 2 rfl _ D HDB.out (H3.out.sb 0 rfl) (fun x hx _ => H3.out.sep 0 2 _ _ rfl rfl (by decide) x ((H3.out.rep 0 _ rfl).2.1 x hx))).mono ?_
        rintro e w4 ⟨rfl, K4, hH⟩
        rw [R1.out.1]
        rw [R1.out.2] at hH
        have H4 := hide hH
        clear hH
        go_wp2_with fail
        refine (hlen H4.out 2 rfl).mono ?_
        rintro e w5 ⟨rfl, hH⟩
        rw [HRi.out]
        have H5 := hide hH
        clear hH
        go_wp2_with fail
        refine (hleft H5.out 1 rfl).mono ?_
        rintro e w6 ⟨rfl, hH⟩
        rw [HRi0.out]
        have H6 := hide hH
        clear hH
        go_wp2_with fail
        refine (hat H6.out 1 rfl).mono ?_
        rintro e w7 ⟨rfl, hH⟩
        have H7 := hide hH
        clear hH
        obtain ⟨L, hL⟩ : ∃ L : Nat, 8 * (33554432 - (k : Int)) = L := ⟨8 * (33554432 - k), by omega⟩
        have hRL : R.length + L = 268435456 := by rw [HRl.out]; omega
        have HRL := hide hRL
        clear hRL
        by_cases hL08 : L = 0 ∨ L = 8
        · have HX : Hid (Herd w w7 [(K4, tw g R)]) := H7.out.only1 2 rfl
          rcases hL08 with rfl | rfl
          · go_wp2_with fail
            refine (brim_any 0 (.inl rfl) HRL.out _ HX.out).mono ?_
            rintro e w8 ⟨rfl, hB⟩
            have HF := hide hB
            clear hB
            go_wp2
            go_ret
            exact ⟨rfl, HF.out⟩
          · go_wp2_with fail
            refine (brim_any 8 (.inr rfl) HRL.out _ HX.out).mono ?_
            rintro e w8 ⟨rfl, hB⟩
            have HF := hide hB
            clear hB
            go_wp2
            go_ret
            exact ⟨rfl, HF.out⟩
        · have e0 : ((L : Int) == 0) = false := by simp; omega
          have e8 : ((L : Int) == 8) = false := by simp; omega
          have HF := hide H7.out.bel
          go_wp2
          go_ret
          exact ⟨rfl, HF.out⟩
end Go.Proofs.Ytklffkbcigehfaa
