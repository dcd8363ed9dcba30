import Derived.Test.YtjmjjjpanioifaaGDcn
import Derived.Test.YtjmjjjpanioifaaGDir
import Derived.Test.YtjmjjjpanioifaaGZdr
import Derived.Test.YtjmjjjpanioifaaGCleq
import Derived.Deep.RegionHeld3
namespace Go.Proofs.Ytjmjjjpanioifaa
open Go.RowKit Go.Maps
set_option maxRecDepth 20000
set_option linter.unusedVariables false
set_option linter.unusedSimpArgs false

theorem eqC13 (l : Cen) (W : World) : (Op.equalIn 10000 28 (.agg l.cs) (.agg l.cs)).run Try.prog W = .ok true W := cen_eq _ _ _ _ _ _ _ _ _ _ _ _ _ _ _ _ W

theorem cs_sizes (cs : List Cen) : ∀ A ∈ cs.map Cen.cs, A.size = 16 := fun A hA => by
  obtain ⟨c, -, rfl⟩ := List.mem_map.1 hA
  exact rsC c

theorem cs_ones (cs : List Cen) : ∀ A ∈ cs.map Cen.cs, A.all (·.oneCell') = true := fun A hA => by
  obtain ⟨c, -, rfl⟩ := List.mem_map.1 hA
  exact roC c

def mk77 : Array Value := #[.int .i64 0, .int .i64 0, .int .i64 0, .int .i64 0, .int .i64 0, .int .u32 0, .int .i64 0, .int .i64 0, .string ⟨#[]⟩, .string ⟨#[]⟩, .int .i64 0, .int .i64 0, .int .i64 0, .int .i64 0, .int .i64 (-77), .string ⟨#[]⟩]

theorem mk77_one : mk77.all (·.oneCell') = true := by simp [mk77, Value.oneCell']

theorem mk77_eq (W : World) : (Op.equalIn 10000 28 (.agg mk77) (.agg mk77)).run Try.prog W = .ok true W := eqC13 ⟨⟨0, 0, 0, 0, 0, 0, 0, 0, ⟨#[]⟩, ⟨#[]⟩⟩, 0, 0, 0, 0, -77, ⟨#[]⟩⟩ W

theorem range_last {w : World} {g n : Nat} {R : List (Array Value)} {B : Array Value} {X : List Value} {t : TypeId} (hz : ∀ A ∈ R, A.size = n) (hg : w.heap[g]? = some (.cells (flat R ++ (B.toList ++ X)).toArray t (0, 0))) : w.rangeAt g (R.length * n) B.toList := by
  intro j u hu
  have hl := flat_len R hz
  have hj := (List.getElem?_eq_some_iff.1 hu).1
  simp only [World.cell?, hg]
  simp only [List.getElem?_toArray]
  rw [List.getElem?_append_right (by omega), hl, Nat.add_sub_cancel_left, List.getElem?_append_left hj]
  exact hu

set_option maxHeartbeats 8000000 in
theorem directories_walk (v : Value) (cs : List Cen) (at' : Int) (cm : ByteArray) (w : World) (h : SR 16 w v (cs.map Cen.cs)) (ok : ∀ c ∈ cs, c.Ok) (hn : cs.length ≤ 1048576) (h64 : Ok64 at') (hcm : cm.size ≤ 140737488351232) :
    Calls Try.prog 8 #[v, .int .i64 at', .string cm] w fun e w' => e = .returned (.bool true) ∧ Below w.heap.size w w' := by
  have HL := hide h
  have HOk := hide ok
  have H64 := hide h64
  have HCm := hide hcm
  obtain ⟨ca, ccap, rfl, c1, c2⟩ := h.open
  have elc : (cs.map Cen.cs).length = cs.length := List.length_map ..
  obtain ⟨R, hR⟩ : ∃ R, R = cs.map Cen.cs := ⟨_, rfl⟩
  have HRE := hide hR
  have HZS : Hid (∀ A ∈ R, A.size = 16) := by rw [hR]; exact cs_sizes cs
  have HON : Hid (∀ A ∈ R, A.all (·.oneCell') = true) := by rw [hR]; exact cs_ones cs
  have HRL : Hid (R.length = cs.length) := by rw [hR]; exact elc
  rw [← hR] at HL c1 ⊢
  obtain ⟨n, hn'⟩ : ∃ n, n = R.length := ⟨_, rfl⟩
  have hn2 : n ≤ 1048576 := by have := HRL.out; omega
  have HCA := hide (centrals_any (.slice ca R.length ccap) R w HL.out HZS.out HON.out (by omega))
  rw [← hn'] at HL HCA c1 ⊢
  have HNR := hide hn'
  clear h ok elc hcm hR hn' h64
  go_enter Try.func8, Try.ntmps8
  go_wp2_with fail
  refine HCA.out.mono ?_
  rintro e w1 ⟨rfl, hg1, hb1⟩
  have HG1 := hide hg1
  have HB1 := hide hb1
  have HW1 : Hid (w.heap.size < w1.heap.size) := (Array.getElem?_eq_some_iff.1 hg1).1
  clear hg1 hb1 HCA
  obtain ⟨w2, hw2⟩ : ∃ y, w1.alloc (.cells #[.int .i64 0, .int .i64 0, .int .i64 0, .int .i64 0, .int .i64 0, .int .u32 0, .int .i64 0, .int .i64 0, .string ⟨#[]⟩, .string ⟨#[]⟩, .int .i64 0, .int .i64 0, .int .i64 0, .int .i64 0, .int .i64 (-77), .string ⟨#[]⟩] 28) = y := ⟨_, rfl⟩
  have HB2 : Hid (Below w1.heap.size w1 w2) := by rw [← hw2]; exact (Below.refl _ _).alloc (Nat.le_refl _) _
  have HG2 : Hid (w2.heap[w.heap.size]? = some (.cells (flat R).toArray 28 (0, 0))) := by rw [← hw2]; exact (Below.heap_alloc _ _ _ HW1.out).trans HG1.out
  have HN2 : Hid (w2.heap[w1.heap.size]? = some (.cells mk77 28 (0, 0))) := by rw [← hw2]; exact heap_alloc_new _ _
  go_wp2_with (at_builtin; refine wpList_apC rfl _ _ rfl w.heap.size w1.heap.size R mk77 (by rw [← HNR.out]; rfl) rfl HZS.out HG2.out HN2.out rfl mk77_one (by have := HNR.out; omega) ?_)
  intro w3 cap X hc1 hc2 hg3 hb3
  rw [← HNR.out] at hc1 ⊢
  have HS2 : Hid (w1.heap.size < w2.heap.size) := (Array.getElem?_eq_some_iff.1 HN2.out).1
  have HB3 : Hid (Below w.heap.size w w3) := HB1.out.trans ((HB2.out.trans (hb3.mono HB2.out.size)).mono HB1.out.size)
  have HGV : Hid (SR 16 w3 (.slice (some ⟨w2.heap.size, 0, none⟩) n cap) R) := by
    have := sr_full (cap := cap) HZS.out hg3 (by have := HNR.out; omega) hc2
    rwa [← HNR.out] at this
  have HLA : Hid (w3.rangeAt w2.heap.size (n * 16) mk77.toList) := by
    have := range_last HZS.out hg3
    rwa [← HNR.out] at this
  obtain ⟨G, hG⟩ : ∃ g, g = w2.heap.size := ⟨_, rfl⟩
  rw [← hG] at HGV HLA ⊢
  clear hg3 hb3 hw2 hG HG1 HG2 HN2 HB2
  have HD1 : Hid (Calls Try.prog 27 #[.slice (some ⟨G, 0, none⟩) n cap, .int .i64 at', .string cm] w3 fun e w' => ∃ a c, e = .returned (.tuple #[.slice a (drL cs at' cm).length c, .int .i64 (drE cs at' cm)]) ∧ SB w' (.slice a (drL cs at' cm).length c) (drL cs at' cm) ∧ Below w3.heap.size w3 w') :=
    directory_any _ cs at' cm w3 (by have := HGV.out; rwa [HRE.out] at this) HOk.out hn H64.out HCm.out
  obtain ⟨DL, hDL⟩ : ∃ D, D = drL cs at' cm := ⟨_, rfl⟩
  obtain ⟨DE, hDE⟩ : ∃ D, D = drE cs at' cm := ⟨_, rfl⟩
  rw [← hDL, ← hDE] at HD1
  have hc1' : n ≤ cap := by omega
  go_wp2_with fail
  refine HD1.out.mono ?_
  rintro e w4 ⟨xa, ya, rfl, hs, hb⟩
  have HB4 := hide (HB3.out.trans (hb.mono HB3.out.size))
  have HS4 := hide hs
  have HGV4 := hide (HGV.out.low hb)
  have HLA4 : Hid (w4.rangeAt G (n * 16) mk77.toList) := fun j u hu => by
    have hc0 := HLA.out j u hu
    rw [hb.cell (World.block_lt_of_cell? _ _ hc0)]
    exact hc0
  have HD2 : Hid (Calls Try.prog 28 #[.slice ca n ccap, .int .i64 at', .string cm] w4 fun e w' => ∃ a c, e = .returned (.tuple #[.slice a (drL cs at' cm).length c, .int .i64 (drE cs at' cm)]) ∧ SB w' (.slice a (drL cs at' cm).length c) (drL cs at' cm) ∧ Below w4.heap.size w4 w') :=
    zdirectory_any _ cs at' cm w4 (by have := HL.out.low HB4.out; rwa [HRE.out] at this) HOk.out hn H64.out HCm.out
  rw [← hDL, ← hDE] at HD2
  clear hs hb HD1 HGV HLA HB3 hDL hDE
  go_wp2_with fail
  refine HD2.out.mono ?_
  rintro e w5 ⟨xb, yb, rfl, hs, hb⟩
  have HB5 := hide (HB4.out.trans (hb.mono HB4.out.size))
  have HGV5 := hide (HGV4.out.low hb)
  have HLA5 : Hid (w5.rangeAt G (n * 16) mk77.toList) := fun j u hu => by
    have hc0 := HLA4.out j u hu
    rw [hb.cell (World.block_lt_of_cell? _ _ hc0)]
    exact hc0
  have HSM : Hid (Calls Try.prog 20 #[.slice xa DL.length ya, .slice xb DL.length yb] w5 fun e w' => e = .returned (.bool true) ∧ ∃ n, w' = w5.drewN n) := by
    have := same_any _ _ DL DL w5 (HS4.out.below hb) hs
    rw [show eqB DL DL = true by simp [eqB]] at this
    exact this
  have HLL5 := hide (HL.out.low HB5.out)
  clear hs hb HD2 HGV4 HLA4 HB4 HS4
  go_wp2_with fail
  refine (num_any DE _).mono ?_
  rintro e w6 ⟨rfl, hw6⟩
  subst hw6
  go_wp2_with fail
  refine HSM.out.mono ?_
  rintro e w7 ⟨rfl, n7, hw7⟩
  have HGV7 : Hid (SR 16 w7 (.slice (some ⟨G, 0, none⟩) n cap) R) := by rw [hw7]; exact HGV5.out.low (below_drewN (Below.refl _ _) n7)
  have HLL7 : Hid (SR 16 w7 (.slice ca n ccap) R) := by rw [hw7]; exact HLL5.out.low (below_drewN (Below.refl _ _) n7)
  have HLA7 : Hid (w7.rangeAt G (n * 16) mk77.toList) := by rw [hw7]; exact HLA5.out
  have HB7 : Hid (Below w.heap.size w w7) := by rw [hw7]; exact below_drewN HB5.out n7
  clear hw7 HSM HGV5 HLL5 HLA5 HB5
  go_wp2
  go_loopw [13] (fun i wr => ∃ (j : Nat), i = .int .i64 (j : Int) ∧ j ≤ n ∧ Hid (Below w7.heap.size w7 wr)) (fun i _ => n - (intOf i).toNat)
  case atStart => exact ⟨0, rfl, Nat.zero_le _, Below.refl _ _⟩
  case round =>
    obtain ⟨j, rfl, hj, HBr⟩ := hrel
    by_cases hlt : j < n
    · have hlt' : (j : Int) < (n : Int) := by omega
      have hjc : j < cs.length := by have h1 := HNR.out; have h2 := HRL.out; omega
      obtain ⟨A, hA⟩ : ∃ A, A = (cs.getD j z0C).cs := ⟨_, rfl⟩
      have HSA : Hid (A.size = 16) := by rw [hA]; exact rsC _
      have HEQ : Hid (∀ W, (Op.equalIn 10000 28 (.agg A) (.agg A)).run Try.prog W = .ok true W) := by rw [hA]; exact eqC13 _
      obtain ⟨b0, o0, hla, hr1⟩ := SR.row (HLL7.out.low HBr.out) (i := j) (by have := HNR.out; omega)
      obtain ⟨b1, o1, hlb, hr2⟩ := SR.row (HGV7.out.low HBr.out) (i := j) (by have := HNR.out; omega)
      simp only [Option.some.injEq, Addr.mk.injEq] at hlb
      obtain ⟨rfl, rfl, -⟩ := hlb
      rw [Nat.zero_add] at hr2
      rw [HRE.out, csC_get hjc, ← hA] at hr1 hr2
      have HSS : Hid (wr.rangeAt G (j * 16) A.toList ∧ wr.rangeAt b0 (o0 + j * 16) A.toList) := ⟨hr2, hr1⟩
      have HLA2 := hide hla
      clear hA hr1 hr2 hla
      go_wp2
      have heq := HEQ.out
      have hla2 := HLA2.out
      subst hla2
      refine wp_region_held_drew (S := fun W => W.rangeAt G (j * 16) A.toList ∧ W.rangeAt b0 (o0 + j * 16) A.toList) (by kernel_rfl) ⟨HSS.out.1, HSS.out.2⟩ (fun hHeld => ?_)
      refine wpAnyH_take (i := 0) (v := .slice (some ⟨G, 0, none⟩) n cap) rfl (by kernel_rfl) (by kernel_rfl) (by kernel_rfl) (fun _ _ _ h => h) (Or.inl ⟨by kernel_rfl, ?_⟩) hHeld ?_
      · intro W hSw
        go_simp
      show wpAnyH _ _ _ _ _ _ _ (Act.put _ (some 53) _) _
      simp only [Act.put, List.setIfInBounds_toArray, List.set_cons_zero, List.set_cons_succ]
      refine wpAnyH_take (i := 1) (v := .int .i64 (j : Int)) rfl (by kernel_rfl) (by kernel_rfl) (by kernel_rfl) (fun _ _ _ h => h) (Or.inl ⟨by kernel_rfl, ?_⟩) hHeld ?_
      · intro W hSw
        go_simp
      show wpAnyH _ _ _ _ _ _ _ (Act.put _ (some 54) _) _
      simp only [Act.put, List.setIfInBounds_toArray, List.set_cons_zero, List.set_cons_succ]
      refine wpAnyH_take (i := 2) (v := .pointer (some ⟨G, j * 16, none⟩)) rfl (by kernel_rfl) (by kernel_rfl) (by kernel_rfl) (fun _ _ _ h => h) (Or.inl ⟨by kernel_rfl, ?_⟩) hHeld ?_
      · intro W hSw
        go_simp
      show wpAnyH _ _ _ _ _ _ _ (Act.put _ (some 55) _) _
      simp only [Act.put, List.setIfInBounds_toArray, List.set_cons_zero, List.set_cons_succ]
      refine wpAnyH_take (i := 3) (v := .agg A.toList.toArray) rfl (by kernel_rfl) (by kernel_rfl) (by kernel_rfl) (fun _ _ _ h => h) (yieldsIf_load_mid (by kernel_rfl) 28 _ rfl G (j * 16) rfl A.toList _ (fun W hW => hW.1) Try.underlying28 rfl (by rw [Array.length_toList, HSA.out]; exact rzC)) hHeld ?_
      show wpAnyH _ _ _ _ _ _ _ (Act.put _ (some 56) _) _
      simp only [Act.put, List.setIfInBounds_toArray, List.set_cons_zero, List.set_cons_succ]
      refine wpAnyH_take (i := 4) (v := .slice (some ⟨b0, o0, none⟩) n ccap) rfl (by kernel_rfl) (by kernel_rfl) (by kernel_rfl) (fun _ _ _ h => h) (Or.inl ⟨by kernel_rfl, ?_⟩) hHeld ?_
      · intro W hSw
        go_simp
      show wpAnyH _ _ _ _ _ _ _ (Act.put _ (some 57) _) _
      simp only [Act.put, List.setIfInBounds_toArray, List.set_cons_zero, List.set_cons_succ]
      refine wpAnyH_take (i := 5) (v := .int .i64 (j : Int)) rfl (by kernel_rfl) (by kernel_rfl) (by kernel_rfl) (fun _ _ _ h => h) (Or.inl ⟨by kernel_rfl, ?_⟩) hHeld ?_
      · intro W hSw
        go_simp
      show wpAnyH _ _ _ _ _ _ _ (Act.put _ (some 58) _) _
      simp only [Act.put, List.setIfInBounds_toArray, List.set_cons_zero, List.set_cons_succ]
      refine wpAnyH_take (i := 6) (v := .pointer (some ⟨b0, o0 + j * 16, none⟩)) rfl (by kernel_rfl) (by kernel_rfl) (by kernel_rfl) (fun _ _ _ h => h) (Or.inl ⟨by kernel_rfl, ?_⟩) hHeld ?_
      · intro W hSw
        go_simp
      show wpAnyH _ _ _ _ _ _ _ (Act.put _ (some 59) _) _
      simp only [Act.put, List.setIfInBounds_toArray, List.set_cons_zero, List.set_cons_succ]
      refine wpAnyH_take (i := 7) (v := .agg A.toList.toArray) rfl (by kernel_rfl) (by kernel_rfl) (by kernel_rfl) (fun _ _ _ h => h) (yieldsIf_load_mid (by kernel_rfl) 28 _ rfl b0 (o0 + j * 16) rfl A.toList _ (fun W hW => hW.2) Try.underlying28 rfl (by rw [Array.length_toList, HSA.out]; exact rzC)) hHeld ?_
      show wpAnyH _ _ _ _ _ _ _ (Act.put _ (some 60) _) _
      simp only [Act.put, List.setIfInBounds_toArray, List.set_cons_zero, List.set_cons_succ]
      refine wpAnyH_take (i := 8) (v := .bool false) rfl (by kernel_rfl) (by kernel_rfl) (by kernel_rfl) (fun _ _ _ h => h) (Or.inl ⟨by kernel_rfl, ?_⟩) hHeld ?_
      · intro W hSw
        go_simp
      show wpAnyH _ _ _ _ _ _ _ (Act.put _ (some 61) _) _
      simp only [Act.put, List.setIfInBounds_toArray, List.set_cons_zero, List.set_cons_succ]
      refine wpAnyH_done (by kernel_rfl) ?_ _
      clear heq
      go_wp2
      go_roundw
      case rel => exact ⟨j + 1, by go_num, by omega, HBr.out.drew⟩
      case measure => simp [intOf]; omega
    · have hje : j = n := by omega
      subst hje
      have HLAr : Hid (wr.rangeAt G (j * 16) mk77.toList) := fun i u hu => by
        have hc0 := HLA7.out i u hu
        rw [HBr.out.cell (World.block_lt_of_cell? _ _ hc0)]
        exact hc0
      have HBz := hide (HB7.out.trans (HBr.out.mono HB7.out.size))
      have hjc : (j : Int) < ((j + 1 : Nat) : Int) := by omega
      have heq : ∀ W : World, (Op.equalIn 10000 28 (.agg mk77) (.agg #[.int .i64 0, .int .i64 0, .int .i64 0, .int .i64 0, .int .i64 0, .int .u32 0, .int .i64 0, .int .i64 0, .string ⟨#[]⟩, .string ⟨#[]⟩, .int .i64 0, .int .i64 0, .int .i64 0, .int .i64 0, .int .i64 (-77), .string ⟨#[]⟩])).run Try.prog W = .ok true W := mk77_eq
      go_wp2_with ((with_reducible refine wpList_lmC G (j * 16) mk77 rfl ?hx HLAr.out ?_); (case hx => rfl))
      go_ret
      exact ⟨by first | rfl | simp, HBz.out⟩
end Go.Proofs.Ytjmjjjpanioifaa

