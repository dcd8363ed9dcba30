import Derived.Test.YthjgabncifghaabHb
namespace Go.Proofs.Ythjgabncifghaab
open Go.RowKit Go.Maps
set_option maxRecDepth 20000

theorem numSt_id (v : Int) (n : Nat) : ∀ s : BSt, s.e ≠ 0 → numSt s v n = s := fun s h => by unfold numSt; rw [if_pos h]
theorem textSt_id (x : ByteArray) : ∀ s : BSt, s.e ≠ 0 → textSt s x = s := fun s h => by unfold textSt; rw [if_pos h]
theorem patchSt_id (A v : Int) : ∀ s : BSt, s.e ≠ 0 → patchSt s A v = s := fun s h => by unfold patchSt; rw [if_pos h]

theorem numSt_len (s : BSt) (v : Int) (n : Nat) : (numSt s v n).l.length ≤ s.l.length + n := by
  unfold numSt
  split
  · omega
  · split
    · simp
    · split
      · simp
      · simp [length_bytesLE]

theorem textSt_len (s : BSt) (x : ByteArray) : (textSt s x).l.length ≤ s.l.length + x.size := by
  unfold textSt
  split
  · omega
  · split
    · simp
    · simp [length_strL]

theorem patchSt_len (s : BSt) (A v : Int) : (patchSt s A v).l.length ≤ s.l.length := by
  unfold patchSt
  split
  · omega
  · split
    · simp
    · split
      · simp
      · simp [length_patchL]

set_option maxHeartbeats 4000000 in
theorem bufStep_any {W w : World} {xs : List ((Nat → Nat) × Nat × Thing)} (i j : Nat) {K KR : Nat → Nat} {g r : Nat} {st sr : BSt} (h : Herd W w xs) (hi : xs[i]? = some (K, g, .b st)) (hj : xs[j]? = some (KR, r, .r sr)) (hij : i ≠ j) (hE : Eqv st sr) (kind n at' : Int) (s : ByteArray)
    (hn0 : -9223372036854775808 ≤ n) (hn1 : n ≤ 9223372036854775807) (hs : s.size ≤ 1048576) (hl : st.l.length ≤ 100000000000000) :
    Calls Try.prog 32 #[.pointer (some ⟨g, 0, none⟩), .pointer (some ⟨r, 0, none⟩), .agg #[.int .i64 kind, .int .i64 n, .int .i64 at', .string s]] w fun e w' => e = .returned (.bool true) ∧ ∃ K' KR' st' sr', Herd W w' ((xs.set i (K', g, .b st')).set j (KR', r, .r sr')) ∧ Eqv st' sr' ∧ st'.l.length ≤ st.l.length + 1048580 := by
  obtain ⟨V, HV⟩ : ∃ V, Hid (V = w.alloc (.cells #[.int .i64 kind, .int .i64 n, .int .i64 at', .string s] 48)) := ⟨_, rfl⟩
  have hbv : Below w.heap.size w V := by rw [HV.out]; exact (Below.refl _ _).alloc (Nat.le_refl _) _
  have HZ : Hid (V.heap.size = w.heap.size + 1) := by show _ = _; rw [HV.out]; exact size_alloc' _ _
  have HX : Hid (V.heap[w.heap.size]? = some (.cells #[.int .i64 kind, .int .i64 n, .int .i64 at', .string s] 48 (0, 0))) := by show _ = _; rw [HV.out]; exact heap_alloc_new _ _
  have HBX : Hid (∀ w' : World, w'.heap[w.heap.size]? = V.heap[w.heap.size]? → w'.cell? ⟨w.heap.size, 0, none⟩ = some (.int .i64 kind) ∧ w'.cell? ⟨w.heap.size, 1, none⟩ = some (.int .i64 n) ∧ w'.cell? ⟨w.heap.size, 2, none⟩ = some (.int .i64 at') ∧ w'.cell? ⟨w.heap.size, 3, none⟩ = some (.string s)) := fun w' e => by
    rw [HX.out] at e
    simp [World.cell?, e]
  have HH := hide (h.below hbv)
  have HKB : Hid (K w.heap.size = 0 ∧ KR w.heap.size = 0) := ⟨(h.rep i _ hi).zero (Nat.le_refl _), (h.rep j _ hj).zero (Nat.le_refl _)⟩
  have HI := hide hi
  have HJ := hide hj
  have HIJ := hide hij
  have HE := hide hE
  have hlr : sr.l.length ≤ 100000000000000 := by rw [← hE.l]; exact hl
  obtain ⟨u, HU⟩ : ∃ u, Hid (BuV true V K g u st) := HH.out.rep i _ HI.out
  clear h hi hj hij hE hbv
  by_cases k1 : kind = 1
  · subst k1
    go_enter Try.func32, Try.ntmps32
    go_wp2_with fail
    rw [← HV.out]
    refine (bu8_any HU.out n hn0 hn1 (by omega)).mono ?_
    rintro e w2 ⟨rfl, K2, hb2, hf2⟩
    have HH2 := hide (HH.out.op i HI.out (x' := .b ((fun x => numSt x n 1) st)) hb2 hf2)
    have HX2 : Hid (w2.heap[w.heap.size]? = V.heap[w.heap.size]?) := hf2.block w.heap.size (by rw [HZ.out]; omega) HKB.out.1
    have HJ2 := hide (set_other (x := (K2, g, Thing.b ((fun x => numSt x n 1) st))) HJ.out HIJ.out)
    obtain ⟨u2, HU2⟩ : ∃ u2, Hid (BuV false w2 KR r u2 sr) := HH2.out.rep j _ HJ2.out
    obtain ⟨x0, x1, x2, x3⟩ := HBX.out w2 HX2.out
    clear hb2 hf2
    go_wp2_with fail
    refine (rbu8_any HU2.out n hn1 (by omega)).mono ?_
    rintro e w3 ⟨rfl, K3, hb3, hf3⟩
    have HH3 := hide (HH2.out.op j HJ2.out (x' := .r ((fun x => numSt x n 1) sr)) hb3 hf3)
    clear hb3 hf3
    go_wp2
    go_ret
    exact ⟨rfl, K2, K3, _, _, HH3.out, HE.out.op _ (numSt_id n 1), by have := numSt_len st n 1; omega⟩
  by_cases k2 : kind = 2
  · subst k2
    go_enter Try.func32, Try.ntmps32
    go_wp2_with fail
    rw [← HV.out]
    refine (bu16_any HU.out n hn0 hn1 (by omega)).mono ?_
    rintro e w2 ⟨rfl, K2, hb2, hf2⟩
    have HH2 := hide (HH.out.op i HI.out (x' := .b ((fun x => numSt x n 2) st)) hb2 hf2)
    have HX2 : Hid (w2.heap[w.heap.size]? = V.heap[w.heap.size]?) := hf2.block w.heap.size (by rw [HZ.out]; omega) HKB.out.1
    have HJ2 := hide (set_other (x := (K2, g, Thing.b ((fun x => numSt x n 2) st))) HJ.out HIJ.out)
    obtain ⟨u2, HU2⟩ : ∃ u2, Hid (BuV false w2 KR r u2 sr) := HH2.out.rep j _ HJ2.out
    obtain ⟨x0, x1, x2, x3⟩ := HBX.out w2 HX2.out
    clear hb2 hf2
    go_wp2_with fail
    refine (rbu16_any HU2.out n hn1 (by omega)).mono ?_
    rintro e w3 ⟨rfl, K3, hb3, hf3⟩
    have HH3 := hide (HH2.out.op j HJ2.out (x' := .r ((fun x => numSt x n 2) sr)) hb3 hf3)
    clear hb3 hf3
    go_wp2
    go_ret
    exact ⟨rfl, K2, K3, _, _, HH3.out, HE.out.op _ (numSt_id n 2), by have := numSt_len st n 2; omega⟩
  by_cases k3 : kind = 3
  · subst k3
    go_enter Try.func32, Try.ntmps32
    go_wp2_with fail
    rw [← HV.out]
    refine (bu32_any HU.out n hn0 hn1 (by omega)).mono ?_
    rintro e w2 ⟨rfl, K2, hb2, hf2⟩
    have HH2 := hide (HH.out.op i HI.out (x' := .b ((fun x => numSt x n 4) st)) hb2 hf2)
    have HX2 : Hid (w2.heap[w.heap.size]? = V.heap[w.heap.size]?) := hf2.block w.heap.size (by rw [HZ.out]; omega) HKB.out.1
    have HJ2 := hide (set_other (x := (K2, g, Thing.b ((fun x => numSt x n 4) st))) HJ.out HIJ.out)
    obtain ⟨u2, HU2⟩ : ∃ u2, Hid (BuV false w2 KR r u2 sr) := HH2.out.rep j _ HJ2.out
    obtain ⟨x0, x1, x2, x3⟩ := HBX.out w2 HX2.out
    clear hb2 hf2
    go_wp2_with fail
    refine (rbu32_any HU2.out n hn1 (by omega)).mono ?_
    rintro e w3 ⟨rfl, K3, hb3, hf3⟩
    have HH3 := hide (HH2.out.op j HJ2.out (x' := .r ((fun x => numSt x n 4) sr)) hb3 hf3)
    clear hb3 hf3
    go_wp2
    go_ret
    exact ⟨rfl, K2, K3, _, _, HH3.out, HE.out.op _ (numSt_id n 4), by have := numSt_len st n 4; omega⟩
  by_cases k4 : kind = 4
  · subst k4
    go_enter Try.func32, Try.ntmps32
    go_wp2_with fail
    rw [← HV.out]
    refine (btext_any HU.out s (by omega)).mono ?_
    rintro e w2 ⟨rfl, K2, hb2, hf2⟩
    have HH2 := hide (HH.out.op i HI.out (x' := .b ((fun x => textSt x s) st)) hb2 hf2)
    have HX2 : Hid (w2.heap[w.heap.size]? = V.heap[w.heap.size]?) := hf2.block w.heap.size (by rw [HZ.out]; omega) HKB.out.1
    have HJ2 := hide (set_other (x := (K2, g, Thing.b ((fun x => textSt x s) st))) HJ.out HIJ.out)
    obtain ⟨u2, HU2⟩ : ∃ u2, Hid (BuV false w2 KR r u2 sr) := HH2.out.rep j _ HJ2.out
    obtain ⟨x0, x1, x2, x3⟩ := HBX.out w2 HX2.out
    clear hb2 hf2
    go_wp2_with fail
    refine (rbtext_any HU2.out s (by omega)).mono ?_
    rintro e w3 ⟨rfl, K3, hb3, hf3⟩
    have HH3 := hide (HH2.out.op j HJ2.out (x' := .r ((fun x => textSt x s) sr)) hb3 hf3)
    clear hb3 hf3
    go_wp2
    go_ret
    exact ⟨rfl, K2, K3, _, _, HH3.out, HE.out.op _ (textSt_id s), by have := textSt_len st s; omega⟩
  by_cases k5 : kind = 5
  · subst k5
    go_enter Try.func32, Try.ntmps32
    go_wp2_with fail
    rw [← HV.out]
    refine (bpatch_any HU.out at' n hn0 hn1).mono ?_
    rintro e w2 ⟨rfl, K2, hb2, hf2⟩
    have HH2 := hide (HH.out.op i HI.out (x' := .b ((fun x => patchSt x at' n) st)) hb2 hf2)
    have HX2 : Hid (w2.heap[w.heap.size]? = V.heap[w.heap.size]?) := hf2.block w.heap.size (by rw [HZ.out]; omega) HKB.out.1
    have HJ2 := hide (set_other (x := (K2, g, Thing.b ((fun x => patchSt x at' n) st))) HJ.out HIJ.out)
    obtain ⟨u2, HU2⟩ : ∃ u2, Hid (BuV false w2 KR r u2 sr) := HH2.out.rep j _ HJ2.out
    obtain ⟨x0, x1, x2, x3⟩ := HBX.out w2 HX2.out
    clear hb2 hf2
    go_wp2_with fail
    refine (rbpatch_any HU2.out at' n hn1).mono ?_
    rintro e w3 ⟨rfl, K3, hb3, hf3⟩
    have HH3 := hide (HH2.out.op j HJ2.out (x' := .r ((fun x => patchSt x at' n) sr)) hb3 hf3)
    clear hb3 hf3
    go_wp2
    go_ret
    exact ⟨rfl, K2, K3, _, _, HH3.out, HE.out.op _ (patchSt_id at' n), by have := patchSt_len st at' n; omega⟩
  obtain ⟨u2, HU2⟩ : ∃ u2, Hid (BuV false V KR r u2 sr) := HH.out.rep j _ HJ.out
  have HFIN : Hid (∃ K' KR' st' sr', Herd W V ((xs.set i (K', g, .b st')).set j (KR', r, .r sr')) ∧ Eqv st' sr' ∧ st'.l.length ≤ st.l.length + 1048580) := by
    refine ⟨K, KR, st, sr, ?_, HE.out, by omega⟩
    have e : (xs.set i (K, g, Thing.b st)).set j (KR, r, Thing.r sr) = xs := by rw [set_same HI.out, set_same HJ.out]
    rw [e]
    exact HH.out
  by_cases k6 : kind = 6
  · subst k6
    have el : sr.l.length = st.l.length := by rw [HE.out.l]
    go_enter Try.func32, Try.ntmps32
    go_wp2_with fail
    rw [← HV.out]
    refine (blen_any HU.out).mono ?_
    rintro e w2 ⟨rfl, hw2⟩
    subst hw2
    go_wp2_with fail
    refine (rblen_any HU2.out).mono ?_
    rintro e w2 ⟨rfl, hw2⟩
    subst hw2
    go_wp2
    go_ret
    exact ⟨rfl, HFIN.out⟩
  by_cases k7 : kind = 7
  · subst k7
    have ee : sr.e = st.e := HE.out.e.symm
    go_enter Try.func32, Try.ntmps32
    go_wp2_with fail
    rw [← HV.out]
    refine (berr_any HU.out).mono ?_
    rintro e w2 ⟨rfl, hw2⟩
    subst hw2
    go_wp2_with fail
    refine (num_any _ _).mono ?_
    rintro e w2 ⟨rfl, hw2⟩
    subst hw2
    go_wp2_with fail
    refine (rberr_any HU2.out).mono ?_
    rintro e w2 ⟨rfl, hw2⟩
    subst hw2
    go_wp2
    go_ret
    exact ⟨rfl, HFIN.out⟩
  go_enter Try.func32, Try.ntmps32
  go_wp2
  go_ret
  rw [← HV.out]
  exact ⟨rfl, HFIN.out⟩
end Go.Proofs.Ythjgabncifghaab
