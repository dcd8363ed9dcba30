import Derived.Test.YtdfggdafflkkcaaGOwi
import Derived.Test.YtdfggdafflkkcaaGFwl
namespace Go.Proofs.Ytdfggdafflkkcaa
open Go.RowKit Go.Maps
set_option maxRecDepth 20000
set_option linter.unusedVariables false
set_option linter.unusedSimpArgs false

theorem lit3 (W : World) (a b c : Int) : OI (W.alloc (.cells #[.int .i64 a, .int .i64 b, .int .i64 c] 3)) W.heap.size (.slice (some ⟨W.heap.size, 0, none⟩) 3 3) [a, b, c] :=
  OI.of_full (l := [a, b, c]) (heap_alloc_new W _) (Nat.le_refl _) (by unfold maxLen; simp)

theorem few_d : dpt [1, 1, 2] = [2, 2, 1] := by decide +kernel

theorem few_sound : Sound [1, 1, 2] := ⟨by decide, fun i hi => by
  have : i = 0 ∨ i = 1 ∨ i = 2 := by simp at hi; omega
  rcases this with rfl | rfl | rfl <;> decide⟩

set_option maxHeartbeats 16000000 in
theorem asked6_walk (f : List Int) (L : Nat) (hs : Sound f) (hL : 1 ≤ L ∧ L ≤ 15) (hu : (us f).length ≤ 2 ^ L) (v : Value) (w : World) (h : SI w v f) :
    Calls Try.prog 11 #[v, .int .i64 (L : Int)] w fun e w' => e = .returned (.bool true) ∧ Below w.heap.size w w' := by
  obtain ⟨ao, cap, rfl, hlc, hcm⟩ := h.open
  have HS := hide h
  have h288 : f.length ≤ 288 := hs.len
  obtain ⟨D, hD⟩ : ∃ D, D = dpt f := ⟨_, rfl⟩
  obtain ⟨M, hM⟩ : ∃ M, M = lmt f L := ⟨_, rfl⟩
  have HDl : Hid (D.length = f.length) := by show _ = _; rw [hD]; simp [dpt]
  have HMl : Hid (M.length = f.length) := by show _ = _; rw [hM]; simp [lmt]
  have HDE : Hid (∀ W v, SI W v f → Calls Try.prog 7 #[v] W fun e w' => ∃ a c, e = .returned (.tuple #[.slice a f.length c, .int .i64 0]) ∧ OI w' W.heap.size (.slice a f.length c) D ∧ Below W.heap.size W w') := fun W v h => by rw [hD]; exact depths_ok hs v W h
  have HLI : Hid (∀ W v, SI W v f → (∀ k, v.ownBlock = some k → k < W.heap.size) → Calls Try.prog 8 #[v, .int .i64 (L : Int)] W fun e w' => ∃ a c, e = .returned (.tuple #[.slice a f.length c, .int .i64 0]) ∧ OI w' W.heap.size (.slice a f.length c) M ∧ Below W.heap.size W w') := fun W v h hk => by rw [hM]; exact limited_ok hs hL hu v W h hk
  have HD3 : Hid (∀ W v, SI W v [1, 1, 2] → Calls Try.prog 7 #[v] W fun e w' => ∃ a c, e = .returned (.tuple #[.slice a 3 c, .int .i64 0]) ∧ OI w' W.heap.size (.slice a 3 c) [2, 2, 1] ∧ Below W.heap.size W w') := fun W v h => by have := depths_ok few_sound v W h; rw [few_d] at this; exact this
  have HL3 : Hid (∀ W v, SI W v [1, 1, 2] → (∀ k, v.ownBlock = some k → k < W.heap.size) → Calls Try.prog 8 #[v, .int .i64 15] W fun e w' => ∃ a c, e = .returned (.tuple #[.slice a 3 c, .int .i64 0]) ∧ OI w' W.heap.size (.slice a 3 c) [2, 2, 1] ∧ Below W.heap.size W w') := fun W v h hk => by have := limited_ok (L := 15) few_sound (by omega) (by decide +kernel) v W h hk; rw [few_l] at this; exact this
  have HO0 : Hid (OwI w w []) := OwI.start w
  clear hD hM h hs hu
  go_enter Try.func11, Try.ntmps11
  go_wp2_with fail
  refine (copied_any _ f _ (HS.out.below HO0.out.bel) (by omega)).mono ?_
  rintro e w1 ⟨qa, qc, rfl, ho, hb⟩
  have HO1 : Hid (OwI w w1 []) := HO0.out.low hb
  have HC := hide ho
  clear ho hb HO0
  go_wp2_with fail
  refine (HDE.out _ _ HC.out.sb).mono ?_
  rintro e w2 ⟨aa, ca, rfl, ho, hb⟩
  have HO2 : Hid (OwI w w2 [(.slice aa f.length ca, D)]) := HO1.out.add hb ho
  clear ho hb HO1 HC
  go_wp2_with fail
  refine (copied_any _ f _ (HS.out.below HO2.out.bel) (by omega)).mono ?_
  rintro e w3 ⟨qa, qc, rfl, ho, hb⟩
  have HO3 : Hid (OwI w w3 [(.slice aa f.length ca, D)]) := HO2.out.low hb
  have HC := hide ho
  clear ho hb HO2
  go_wp2_with fail
  refine (HDE.out _ _ HC.out.sb).mono ?_
  rintro e w4 ⟨ab, cb, rfl, ho, hb⟩
  have HO4 : Hid (OwI w w4 [(.slice aa f.length ca, D), (.slice ab f.length cb, D)]) := HO3.out.add hb ho
  clear ho hb HO3 HC
  go_wp2_with fail
  refine (HD3.out _ _ (lit3 w4 1 1 2).sb).mono ?_
  rintro e w5 ⟨ac, cc, rfl, ho, hb⟩
  have HO5 : Hid (OwI w w5 [(.slice aa f.length ca, D), (.slice ab f.length cb, D), (.slice ac 3 cc, [2, 2, 1])]) := HO4.out.add (((Below.refl _ _).alloc (Nat.le_refl _) _).trans (hb.mono (by rw [size_alloc']; omega))) (ho.base (by rw [size_alloc']; omega))
  clear ho hb HO4
  go_wp2_with fail
  refine (copied_any _ f _ (HS.out.below HO5.out.bel) (by omega)).mono ?_
  rintro e w6 ⟨qa, qc, rfl, ho, hb⟩
  have HO6 : Hid (OwI w w6 [(.slice aa f.length ca, D), (.slice ab f.length cb, D), (.slice ac 3 cc, [2, 2, 1])]) := HO5.out.low hb
  have HC := hide ho
  clear ho hb HO5
  go_wp2_with fail
  refine (HLI.out _ _ HC.out.sb (fun k hk => (HC.out.lt k hk).2)).mono ?_
  rintro e w7 ⟨ax, cx, rfl, ho, hb⟩
  have HO7 : Hid (OwI w w7 [(.slice aa f.length ca, D), (.slice ab f.length cb, D), (.slice ac 3 cc, [2, 2, 1]), (.slice ax f.length cx, M)]) := HO6.out.add hb ho
  clear ho hb HO6 HC
  go_wp2_with fail
  refine (copied_any _ f _ (HS.out.below HO7.out.bel) (by omega)).mono ?_
  rintro e w8 ⟨qa, qc, rfl, ho, hb⟩
  have HO8 : Hid (OwI w w8 [(.slice aa f.length ca, D), (.slice ab f.length cb, D), (.slice ac 3 cc, [2, 2, 1]), (.slice ax f.length cx, M)]) := HO7.out.low hb
  have HC := hide ho
  clear ho hb HO7
  go_wp2_with fail
  refine (HLI.out _ _ HC.out.sb (fun k hk => (HC.out.lt k hk).2)).mono ?_
  rintro e w9 ⟨ay, cy, rfl, ho, hb⟩
  have HO9 : Hid (OwI w w9 [(.slice aa f.length ca, D), (.slice ab f.length cb, D), (.slice ac 3 cc, [2, 2, 1]), (.slice ax f.length cx, M), (.slice ay f.length cy, M)]) := HO8.out.add hb ho
  clear ho hb HO8 HC
  go_wp2_with fail
  refine (HL3.out _ _ (lit3 w9 1 1 2).sb (fun k hk => ((lit3 w9 1 1 2).lt k hk).2)).mono ?_
  rintro e w10 ⟨az, cz, rfl, ho, hb⟩
  have HO10 : Hid (OwI w w10 [(.slice aa f.length ca, D), (.slice ab f.length cb, D), (.slice ac 3 cc, [2, 2, 1]), (.slice ax f.length cx, M), (.slice ay f.length cy, M), (.slice az 3 cz, [2, 2, 1])]) := HO9.out.add (((Below.refl _ _).alloc (Nat.le_refl _) _).trans (hb.mono (by rw [size_alloc']; omega))) (ho.base (by rw [size_alloc']; omega))
  clear ho hb HO9
  have HSM : Hid (Calls Try.prog 9 #[.slice aa f.length ca, .slice ab f.length cb] w10 fun e w' => e = .returned (.bool true) ∧ ∃ n, w' = World.drewN w10 n) := by
    have h := isame_any _ _ D D w10 (HO10.out.sl 0 _ _ rfl).sb (HO10.out.sl 1 _ _ rfl).sb
    rw [show eqI D D = true by simp [eqI]] at h
    exact h
  go_wp2_with fail
  refine HSM.out.mono ?_
  rintro e w11 ⟨rfl, nq, hd⟩
  have HO11 : Hid (OwI w w11 [(.slice aa f.length ca, D), (.slice ab f.length cb, D), (.slice ac 3 cc, [2, 2, 1]), (.slice ax f.length cx, M), (.slice ay f.length cy, M), (.slice az 3 cz, [2, 2, 1])]) := by rw [hd]; exact HO10.out.low ⟨rfl, rfl, rfl, Nat.le_refl _, fun _ _ => rfl⟩
  clear hd HSM HO10
  have HSM : Hid (Calls Try.prog 9 #[.slice ax f.length cx, .slice ay f.length cy] w11 fun e w' => e = .returned (.bool true) ∧ ∃ n, w' = World.drewN w11 n) := by
    have h := isame_any _ _ M M w11 (HO11.out.sl 3 _ _ rfl).sb (HO11.out.sl 4 _ _ rfl).sb
    rw [show eqI M M = true by simp [eqI]] at h
    exact h
  go_wp2_with fail
  refine HSM.out.mono ?_
  rintro e w12 ⟨rfl, nq, hd⟩
  have HO12 : Hid (OwI w w12 [(.slice aa f.length ca, D), (.slice ab f.length cb, D), (.slice ac 3 cc, [2, 2, 1]), (.slice ax f.length cx, M), (.slice ay f.length cy, M), (.slice az 3 cz, [2, 2, 1])]) := by rw [hd]; exact HO11.out.low ⟨rfl, rfl, rfl, Nat.le_refl _, fun _ _ => rfl⟩
  clear hd HSM HO11
  have HSM : Hid (Calls Try.prog 9 #[.slice ac 3 cc, .slice (some ⟨w12.heap.size, 0, none⟩) 3 3] (w12.alloc (.cells #[.int .i64 2, .int .i64 2, .int .i64 1] 3)) fun e w' => e = .returned (.bool true) ∧ ∃ n, w' = World.drewN (w12.alloc (.cells #[.int .i64 2, .int .i64 2, .int .i64 1] 3)) n) := by
    have h := isame_any _ _ [2, 2, 1] [2, 2, 1] _ ((HO12.out.low ((Below.refl _ _).alloc (Nat.le_refl _) (.cells #[.int .i64 2, .int .i64 2, .int .i64 1] 3))).sl 2 _ _ rfl).sb (lit3 w12 2 2 1).sb
    exact h
  go_wp2_with fail
  refine HSM.out.mono ?_
  rintro e w13 ⟨rfl, nq, hd⟩
  have HO13 : Hid (OwI w w13 [(.slice aa f.length ca, D), (.slice ab f.length cb, D), (.slice ac 3 cc, [2, 2, 1]), (.slice ax f.length cx, M), (.slice ay f.length cy, M), (.slice az 3 cz, [2, 2, 1])]) := by rw [hd]; exact (HO12.out.low ((Below.refl _ _).alloc (Nat.le_refl _) _)).low ⟨rfl, rfl, rfl, Nat.le_refl _, fun _ _ => rfl⟩
  clear hd HSM HO12
  have HSM : Hid (Calls Try.prog 9 #[.slice az 3 cz, .slice ac 3 cc] w13 fun e w' => e = .returned (.bool true) ∧ ∃ n, w' = World.drewN w13 n) := by
    have h := isame_any _ _ [2, 2, 1] [2, 2, 1] w13 (HO13.out.sl 5 _ _ rfl).sb (HO13.out.sl 2 _ _ rfl).sb
    rw [show eqI [2, 2, 1] [2, 2, 1] = true by simp [eqI]] at h
    exact h
  go_wp2_with fail
  refine HSM.out.mono ?_
  rintro e w14 ⟨rfl, nq, hd⟩
  have HO14 : Hid (OwI w w14 [(.slice aa f.length ca, D), (.slice ab f.length cb, D), (.slice ac 3 cc, [2, 2, 1]), (.slice ax f.length cx, M), (.slice ay f.length cy, M), (.slice az 3 cz, [2, 2, 1])]) := by rw [hd]; exact HO13.out.low ⟨rfl, rfl, rfl, Nat.le_refl _, fun _ _ => rfl⟩
  clear hd HSM HO13
  have HAP : Hid (Calls Try.prog 21 #[.slice (some ⟨w14.heap.size, 0, none⟩) 6 6] (w14.alloc (.cells #[.slice aa f.length ca, .slice ab f.length cb, .slice ac 3 cc, .slice ax f.length cx, .slice ay f.length cy, .slice az 3 cz] 22)) fun e w' => e = .returned (.bool true) ∧ Keep [(.slice aa f.length ca, D), (.slice ab f.length cb, D), (.slice ac 3 cc, [2, 2, 1]), (.slice ax f.length cx, M), (.slice ay f.length cy, M), (.slice az 3 cz, [2, 2, 1])] (w14.alloc (.cells #[.slice aa f.length ca, .slice ab f.length cb, .slice ac 3 cc, .slice ax f.length cx, .slice ay f.length cy, .slice az 3 cz] 22)) w') :=
    apart6_walk _ w.heap.size w14.heap.size 6 (some ⟨w14.heap.size, 0, none⟩) [(.slice aa f.length ca, D), (.slice ab f.length cb, D), (.slice ac 3 cc, [2, 2, 1]), (.slice ax f.length cx, M), (.slice ay f.length cy, M), (.slice az 3 cz, [2, 2, 1])] (HO14.out.lists (by simp) (by
      intro p hp
      have e1 := HDl.out
      have e2 := HMl.out
      simp only [List.mem_cons, List.not_mem_nil, or_false] at hp
      rcases hp with rfl | rfl | rfl | rfl | rfl | rfl
      · show D.length ≤ _; omega
      · show D.length ≤ _; omega
      · show 3 ≤ _; omega
      · show M.length ≤ _; omega
      · show M.length ≤ _; omega
      · show 3 ≤ _; omega)) (fun _ => rfl)
  go_wp2_with fail
  refine HAP.out.mono ?_
  rintro e wE ⟨rfl, hkp⟩
  have HBE := hide ((HO14.out.low ((Below.refl _ _).alloc (Nat.le_refl _) _)).kept hkp)
  clear hkp
  go_wp2
  go_ret
  exact ⟨rfl, HBE.out⟩
end Go.Proofs.Ytdfggdafflkkcaa

