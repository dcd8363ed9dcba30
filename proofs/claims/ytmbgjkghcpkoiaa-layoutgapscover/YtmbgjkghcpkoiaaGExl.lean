import Derived.Test.YtmbgjkghcpkoiaaGEtn
import Derived.Test.YtmbgjkghcpkoiaaGZex
import Derived.Test.YtmbgjkghcpkoiaaGEnq
namespace Go.Proofs.Ytmbgjkghcpkoiaa
open Go.RowKit Go.Maps
set_option maxRecDepth 20000
set_option linter.unusedVariables false
set_option linter.unusedSimpArgs false

theorem rzA : (Try.prog.info? 24).map (·.size) = some 4 := by kernel_rfl

set_option maxHeartbeats 4000000 in
theorem alike_same (v1 v2 : Value) (R : List Ent) (d s : Int) (cm : ByteArray) (w : World) (h1 : SR 20 w v1 (R.map Ent.cs)) (h2 : SR 20 w v2 (R.map Ent.cs)) :
    Calls Try.prog 10 #[.agg #[v1, .int .i64 d, .int .i64 s, .string cm], .agg #[v2, .int .i64 d, .int .i64 s, .string cm]] w fun e w' => e = .returned (.bool true) ∧ Below w.heap.size w w' := by
  obtain ⟨a1, p1, rfl, c1, c2⟩ := h1.open
  obtain ⟨a2, p2, rfl, d1, d2⟩ := h2.open
  have H1 := hide h1
  have H2 := hide h2
  clear h1 h2
  obtain ⟨V1, hV1⟩ : ∃ V, V = Value.slice a1 (R.map Ent.cs).length p1 := ⟨_, rfl⟩
  obtain ⟨V2, hV2⟩ : ∃ V, V = Value.slice a2 (R.map Ent.cs).length p2 := ⟨_, rfl⟩
  rw [← hV1] at H1
  rw [← hV2] at H2
  rw [← hV1, ← hV2]
  have t1 : V1.oneCell' = true := by rw [hV1]; rfl
  have t2 : V2.oneCell' = true := by rw [hV2]; rfl
  have hx := heap_two w (.cells #[V1, .int .i64 d, .int .i64 s, .string cm] 24) (.cells #[V2, .int .i64 d, .int .i64 s, .string cm] 24)
  have hb : Below w.heap.size w ((w.alloc (.cells #[V1, .int .i64 d, .int .i64 s, .string cm] 24)).alloc (.cells #[V2, .int .i64 d, .int .i64 s, .string cm] 24)) := ((Below.refl _ _).alloc (Nat.le_refl _) _).alloc (by rw [size_alloc']; omega) _
  rw [hV1, hV2] at hx hb ⊢
  rw [hV1] at H1
  rw [hV2] at H2
  clear t1 t2 hV1 hV2
  obtain ⟨N, hN⟩ : ∃ N, N = (R.map Ent.cs).length := ⟨_, rfl⟩
  rw [← hN] at hx hb H1 H2 c1 d1 ⊢
  obtain ⟨w1, hw1⟩ : ∃ y, (w.alloc (.cells #[.slice a1 N p1, .int .i64 d, .int .i64 s, .string cm] 24)).alloc (.cells #[.slice a2 N p2, .int .i64 d, .int .i64 s, .string cm] 24) = y := ⟨_, rfl⟩
  rw [hw1] at hx hb
  have y0 : w1.cell? ⟨w.heap.size, 0, none⟩ = some (.slice a1 N p1) := by simp [World.cell?, hx.2]
  have y1 : w1.cell? ⟨w.heap.size, 1, none⟩ = some (.int .i64 d) := by simp [World.cell?, hx.2]
  have y2 : w1.cell? ⟨w.heap.size, 2, none⟩ = some (.int .i64 s) := by simp [World.cell?, hx.2]
  have y3 : w1.cell? ⟨w.heap.size, 3, none⟩ = some (.string cm) := by simp [World.cell?, hx.2]
  have x0 : w1.cell? ⟨w.heap.size + 1, 0, none⟩ = some (.slice a2 N p2) := by simp [World.cell?, hx.1]
  have x1 : w1.cell? ⟨w.heap.size + 1, 1, none⟩ = some (.int .i64 d) := by simp [World.cell?, hx.1]
  have x2 : w1.cell? ⟨w.heap.size + 1, 2, none⟩ = some (.int .i64 s) := by simp [World.cell?, hx.1]
  have x3 : w1.cell? ⟨w.heap.size + 1, 3, none⟩ = some (.string cm) := by simp [World.cell?, hx.1]
  have HB := hide hb
  have HES := hide (entries_same (.slice a1 N p1) (.slice a2 N p2) R w1 (H1.out.low hb) (H2.out.low hb))
  clear hx hb hN
  go_enter Try.func10, Try.ntmps10
  go_wp2_with fail
  refine HES.out.mono ?_
  rintro e w2 ⟨rfl, hb2⟩
  have HB2 := hide (HB.out.trans (hb2.mono HB.out.size))
  clear hb2
  go_wp2
  go_ret
  exact ⟨by first | rfl | simp, HB2.out⟩

set_option maxHeartbeats 16000000 in
theorem extents_gen (v : Value) (es : List Ent) (d s : Int) (cm : ByteArray) (X : List (Int × Int)) (w : World) (h : SR 20 w v (es.map Ent.cs)) (hn : es.length ≤ 733007751829)
    (hl : ∀ v' W, SR 20 W v' (es.map Ent.cs) → Calls Try.prog 7 #[.agg #[v', .int .i64 d, .int .i64 s, .string cm]] W fun e w' => ∃ a c, e = .returned (.slice a X.length c) ∧ OR 39 2 w' W.heap.size (.slice a X.length c) (X.map spC) ∧ Below W.heap.size W w')
    (hz : ∀ v' W, SR 20 W v' (es.map Ent.cs) → Calls Try.prog 9 #[.agg #[v', .int .i64 d, .int .i64 s, .string cm]] W fun e w' => ∃ a c, e = .returned (.slice a X.length c) ∧ OR 39 2 w' W.heap.size (.slice a X.length c) (X.map spC) ∧ Below W.heap.size W w') :
    Calls Try.prog 3 #[.agg #[v, .int .i64 d, .int .i64 s, .string cm]] w fun e w' => e = .returned (.bool true) ∧ Below w.heap.size w w' := by
  have HL := hide h
  have HLX := hide hl
  have HZX := hide hz
  obtain ⟨ca, ccap, rfl, c1, c2⟩ := h.open
  have elc : (es.map Ent.cs).length = es.length := List.length_map ..
  obtain ⟨R, hR⟩ : ∃ R, R = es.map Ent.cs := ⟨_, rfl⟩
  have HRE := hide hR
  have HZS : Hid (∀ A ∈ R, A.size = 20) := by rw [hR]; exact csN_sizes es
  have HON : Hid (∀ A ∈ R, A.all (·.oneCell') = true) := by rw [hR]; exact csN_ones es
  have HRL : Hid (R.length = es.length) := by rw [hR]; exact elc
  rw [← hR] at HL c1 HLX HZX ⊢
  obtain ⟨n, hn'⟩ : ∃ n, n = R.length := ⟨_, rfl⟩
  have hn2 : n ≤ 733007751829 := by have := HRL.out; omega
  rw [← hn'] at HL c1 ⊢
  have HNR := hide hn'
  clear h elc hR hn' hl hz hn
  have hb0 : Below w.heap.size w (w.alloc (.cells #[.slice ca n ccap, .int .i64 d, .int .i64 s, .string cm] 24)) := (Below.refl _ _).alloc (Nat.le_refl _) _
  have hx0 : (w.alloc (.cells #[.slice ca n ccap, .int .i64 d, .int .i64 s, .string cm] 24)).heap[w.heap.size]? = some (.cells #[.slice ca n ccap, .int .i64 d, .int .i64 s, .string cm] 24) := heap_alloc_new _ _
  obtain ⟨w0, hw0⟩ : ∃ y, w.alloc (.cells #[.slice ca n ccap, .int .i64 d, .int .i64 s, .string cm] 24) = y := ⟨_, rfl⟩
  rw [hw0] at hb0 hx0
  have HX0 := hide hx0
  have HB0 := hide hb0
  have q0 : w0.cell? ⟨w.heap.size, 0, none⟩ = some (.slice ca n ccap) := by simp [World.cell?, hx0]
  have HSZ0 : Hid (w.heap.size < w0.heap.size) := (Array.getElem?_eq_some_iff.1 hx0).1
  have HBX : Hid (∀ W, Below w0.heap.size w0 W → W.cell? ⟨w.heap.size, 0, none⟩ = some (.slice ca n ccap) ∧ W.cell? ⟨w.heap.size, 1, none⟩ = some (.int .i64 d) ∧ W.cell? ⟨w.heap.size, 2, none⟩ = some (.int .i64 s) ∧ W.cell? ⟨w.heap.size, 3, none⟩ = some (.string cm)) := fun W hW => by
    have e := (hW.block _ HSZ0.out).trans HX0.out
    exact ⟨by simp [World.cell?, e], by simp [World.cell?, e], by simp [World.cell?, e], by simp [World.cell?, e]⟩
  have HCA := hide (copiedN_any (.slice ca n ccap) R w0 (HL.out.low hb0) HZS.out HON.out (by have := HNR.out; omega))
  clear hx0 hb0
  go_enter Try.func3, Try.ntmps3
  go_wp2_with fail
  refine HCA.out.mono ?_
  rintro e w1 ⟨rfl, hg1, hb1⟩
  have HG1 := hide hg1
  have HB1 := hide hb1
  have HW1 : Hid (w0.heap.size < w1.heap.size) := (Array.getElem?_eq_some_iff.1 hg1).1
  clear hg1 hb1 HCA q0
  rw [← HNR.out]
  obtain ⟨w2, hw2⟩ : ∃ y, w1.alloc (.cells #[.int .i64 0, .int .i64 0, .int .i64 0, .int .i64 0, .int .i64 0, .int .u32 0, .int .i64 0, .int .i64 0, .string ⟨#[]⟩, .string ⟨#[]⟩, .int .i64 0, .int .i64 0, .int .i64 0, .int .i64 0, .int .i64 0, .string ⟨#[]⟩, .string ⟨#[]⟩, .int .i64 (-77), .int .i64 0, .int .i64 0] 32) = y := ⟨_, rfl⟩
  have HB2 : Hid (Below w1.heap.size w1 w2) := by rw [← hw2]; exact (Below.refl _ _).alloc (Nat.le_refl _) _
  have HG2 : Hid (w2.heap[w0.heap.size]? = some (.cells (flat R).toArray 32 (0, 0))) := by rw [← hw2]; exact (Below.heap_alloc _ _ _ HW1.out).trans HG1.out
  have HN2 : Hid (w2.heap[w1.heap.size]? = some (.cells mk77N 32 (0, 0))) := by rw [← hw2]; exact heap_alloc_new _ _
  go_wp2_with (at_builtin; refine wpList_apN rfl _ _ rfl w0.heap.size w1.heap.size R mk77N (by rw [← HNR.out]; rfl) rfl HZS.out HG2.out HN2.out rfl mk77N_one (by have := HNR.out; omega) ?_)
  intro w3 cap Y hc1 hc2 hg3 hb3
  rw [← HNR.out] at hc1 ⊢
  have HB03 : Hid (Below w0.heap.size w0 w3) := HB1.out.trans ((HB2.out.trans (hb3.mono HB2.out.size)).mono HB1.out.size)
  have HGV : Hid (SR 20 w3 (.slice (some ⟨w2.heap.size, 0, none⟩) n cap) R) := by
    have := sr_full (cap := cap) HZS.out hg3 (by have := HNR.out; omega) hc2
    rwa [← HNR.out] at this
  have HLA : Hid (w3.rangeAt w2.heap.size (n * 20) mk77N.toList) := by
    have := range_lastN HZS.out hg3
    rwa [← HNR.out] at this
  obtain ⟨G, hG⟩ : ∃ g, g = w2.heap.size := ⟨_, rfl⟩
  rw [← hG] at HGV HLA ⊢
  clear hg3 hb3 hw2 hG HG1 HG2 HN2 HB2
  have hc1' : n ≤ cap := by omega
  have hi1 : (0 : Int) ≤ (n : Int) := by omega
  have hi2 : (n : Int) ≤ (cap : Int) := by omega
  have HSS := hide (HBX.out w3 HB03.out)
  have HKP : Hid (∀ W, Below w3.heap.size w3 W → W.cell? ⟨w.heap.size, 0, none⟩ = some (.slice ca n ccap) ∧ W.cell? ⟨w.heap.size, 1, none⟩ = some (.int .i64 d) ∧ W.cell? ⟨w.heap.size, 2, none⟩ = some (.int .i64 s) ∧ W.cell? ⟨w.heap.size, 3, none⟩ = some (.string cm)) := fun W hW => HBX.out W (HB03.out.trans (hW.mono HB03.out.size))
  go_wp2
  refine wp_region_held_drew (S := fun W => W.cell? ⟨w.heap.size, 0, none⟩ = some (.slice ca n ccap) ∧ W.cell? ⟨w.heap.size, 1, none⟩ = some (.int .i64 d) ∧ W.cell? ⟨w.heap.size, 2, none⟩ = some (.int .i64 s) ∧ W.cell? ⟨w.heap.size, 3, none⟩ = some (.string cm)) (by kernel_rfl) HSS.out (fun hHeld => ?_)
  refine wpAnyH_take (i := 0) (v := .slice (some ⟨G, 0, none⟩) (n + 1) cap) rfl (by kernel_rfl) (by kernel_rfl) (by kernel_rfl) (fun _ _ _ h => h) (Or.inl ⟨by kernel_rfl, ?_⟩) hHeld ?_
  · intro W hSw
    have s1 := hSw.1
    have s2 := hSw.2.1
    have s3 := hSw.2.2.1
    have s4 := hSw.2.2.2
    go_simp
  show wpAnyH _ _ _ _ _ _ _ (Act.put _ (some 12) _) _
  simp only [Act.put, List.setIfInBounds_toArray, List.set_cons_zero, List.set_cons_succ]
  refine wpAnyH_take (i := 1) (v := .pointer (some ⟨w.heap.size, 0, none⟩)) rfl (by kernel_rfl) (by kernel_rfl) (by kernel_rfl) (fun _ _ _ h => h) (Or.inl ⟨by kernel_rfl, ?_⟩) hHeld ?_
  · intro W hSw
    have s1 := hSw.1
    have s2 := hSw.2.1
    have s3 := hSw.2.2.1
    have s4 := hSw.2.2.2
    go_simp
  show wpAnyH _ _ _ _ _ _ _ (Act.put _ (some 13) _) _
  simp only [Act.put, List.setIfInBounds_toArray, List.set_cons_zero, List.set_cons_succ]
  refine wpAnyH_take (i := 2) (v := .slice ca n ccap) rfl (by kernel_rfl) (by kernel_rfl) (by kernel_rfl) (fun _ _ _ h => h) (Or.inl ⟨by kernel_rfl, ?_⟩) hHeld ?_
  · intro W hSw
    have s1 := hSw.1
    have s2 := hSw.2.1
    have s3 := hSw.2.2.1
    have s4 := hSw.2.2.2
    go_simp
  show wpAnyH _ _ _ _ _ _ _ (Act.put _ (some 14) _) _
  simp only [Act.put, List.setIfInBounds_toArray, List.set_cons_zero, List.set_cons_succ]
  refine wpAnyH_take (i := 3) (v := .int .i64 (n : Int)) rfl (by kernel_rfl) (by kernel_rfl) (by kernel_rfl) (fun _ _ _ h => h) (Or.inl ⟨by kernel_rfl, ?_⟩) hHeld ?_
  · intro W hSw
    have s1 := hSw.1
    have s2 := hSw.2.1
    have s3 := hSw.2.2.1
    have s4 := hSw.2.2.2
    go_simp
  show wpAnyH _ _ _ _ _ _ _ (Act.put _ (some 15) _) _
  simp only [Act.put, List.setIfInBounds_toArray, List.set_cons_zero, List.set_cons_succ]
  refine wpAnyH_take (i := 4) (v := .slice (some ⟨G, 0, none⟩) n cap) rfl (by kernel_rfl) (by kernel_rfl) (by kernel_rfl) (fun _ _ _ h => h) (Or.inl ⟨by kernel_rfl, ?_⟩) hHeld ?_
  · intro W hSw
    have s1 := hSw.1
    have s2 := hSw.2.1
    have s3 := hSw.2.2.1
    have s4 := hSw.2.2.2
    go_simp
  show wpAnyH _ _ _ _ _ _ _ (Act.put _ (some 16) _) _
  simp only [Act.put, List.setIfInBounds_toArray, List.set_cons_zero, List.set_cons_succ]
  refine wpAnyH_take (i := 5) (v := .pointer (some ⟨w.heap.size, 1, none⟩)) rfl (by kernel_rfl) (by kernel_rfl) (by kernel_rfl) (fun _ _ _ h => h) (Or.inl ⟨by kernel_rfl, ?_⟩) hHeld ?_
  · intro W hSw
    have s1 := hSw.1
    have s2 := hSw.2.1
    have s3 := hSw.2.2.1
    have s4 := hSw.2.2.2
    go_simp
  show wpAnyH _ _ _ _ _ _ _ (Act.put _ (some 17) _) _
  simp only [Act.put, List.setIfInBounds_toArray, List.set_cons_zero, List.set_cons_succ]
  refine wpAnyH_take (i := 6) (v := .int .i64 d) rfl (by kernel_rfl) (by kernel_rfl) (by kernel_rfl) (fun _ _ _ h => h) (Or.inl ⟨by kernel_rfl, ?_⟩) hHeld ?_
  · intro W hSw
    have s1 := hSw.1
    have s2 := hSw.2.1
    have s3 := hSw.2.2.1
    have s4 := hSw.2.2.2
    go_simp
  show wpAnyH _ _ _ _ _ _ _ (Act.put _ (some 18) _) _
  simp only [Act.put, List.setIfInBounds_toArray, List.set_cons_zero, List.set_cons_succ]
  refine wpAnyH_take (i := 7) (v := .pointer (some ⟨w.heap.size, 2, none⟩)) rfl (by kernel_rfl) (by kernel_rfl) (by kernel_rfl) (fun _ _ _ h => h) (Or.inl ⟨by kernel_rfl, ?_⟩) hHeld ?_
  · intro W hSw
    have s1 := hSw.1
    have s2 := hSw.2.1
    have s3 := hSw.2.2.1
    have s4 := hSw.2.2.2
    go_simp
  show wpAnyH _ _ _ _ _ _ _ (Act.put _ (some 19) _) _
  simp only [Act.put, List.setIfInBounds_toArray, List.set_cons_zero, List.set_cons_succ]
  refine wpAnyH_take (i := 8) (v := .int .i64 s) rfl (by kernel_rfl) (by kernel_rfl) (by kernel_rfl) (fun _ _ _ h => h) (Or.inl ⟨by kernel_rfl, ?_⟩) hHeld ?_
  · intro W hSw
    have s1 := hSw.1
    have s2 := hSw.2.1
    have s3 := hSw.2.2.1
    have s4 := hSw.2.2.2
    go_simp
  show wpAnyH _ _ _ _ _ _ _ (Act.put _ (some 20) _) _
  simp only [Act.put, List.setIfInBounds_toArray, List.set_cons_zero, List.set_cons_succ]
  refine wpAnyH_take (i := 9) (v := .pointer (some ⟨w.heap.size, 3, none⟩)) rfl (by kernel_rfl) (by kernel_rfl) (by kernel_rfl) (fun _ _ _ h => h) (Or.inl ⟨by kernel_rfl, ?_⟩) hHeld ?_
  · intro W hSw
    have s1 := hSw.1
    have s2 := hSw.2.1
    have s3 := hSw.2.2.1
    have s4 := hSw.2.2.2
    go_simp
  show wpAnyH _ _ _ _ _ _ _ (Act.put _ (some 21) _) _
  simp only [Act.put, List.setIfInBounds_toArray, List.set_cons_zero, List.set_cons_succ]
  refine wpAnyH_take (i := 10) (v := .string cm) rfl (by kernel_rfl) (by kernel_rfl) (by kernel_rfl) (fun _ _ _ h => h) (Or.inl ⟨by kernel_rfl, ?_⟩) hHeld ?_
  · intro W hSw
    have s1 := hSw.1
    have s2 := hSw.2.1
    have s3 := hSw.2.2.1
    have s4 := hSw.2.2.2
    go_simp
  show wpAnyH _ _ _ _ _ _ _ (Act.put _ (some 22) _) _
  simp only [Act.put, List.setIfInBounds_toArray, List.set_cons_zero, List.set_cons_succ]
  refine wpAnyH_take (i := 11) (v := .agg #[.slice (some ⟨G, 0, none⟩) n cap, .int .i64 d, .int .i64 s, .string cm]) rfl (by kernel_rfl) (by kernel_rfl) (by kernel_rfl) (fun _ _ _ h => h) (Or.inl ⟨by kernel_rfl, ?_⟩) hHeld ?_
  · intro W hSw
    have s1 := hSw.1
    have s2 := hSw.2.1
    have s3 := hSw.2.2.1
    have s4 := hSw.2.2.2
    go_simp
  show wpAnyH _ _ _ _ _ _ _ (Act.put _ (some 23) _) _
  simp only [Act.put, List.setIfInBounds_toArray, List.set_cons_zero, List.set_cons_succ]
  refine wpAnyH_ready (rs := [12]) (by kernel_rfl) (by simp) ?_
  refine AllReadyH.cons rfl (fun K hK => ?_) AllReadyH.nil
  go_simp
  refine hK.out _ _ (HKP.out _ ((Below.refl _ _).drew.alloc (Nat.le_refl _) _)) (fun hHeld2 => ?_)
  clear hK K hHeld
  have hHeld := hHeld2
  clear hHeld2
  try simp only [Act.put, List.setIfInBounds_toArray, List.set_cons_zero, List.set_cons_succ]
  refine wpAnyH_ready (rs := [13]) (by kernel_rfl) (by simp) ?_
  refine AllReadyH.cons rfl (fun K hK => ?_) AllReadyH.nil
  rw [if_pos (by rfl)]
  refine wp_store_row 24 _ _ rfl w3.heap.size #[.slice (some ⟨G, 0, none⟩) n cap, .int .i64 d, .int .i64 s, .string cm] (by rfl) (by rfl) 24 #[.slice none 0 0, .int .i64 0, .int .i64 0, .string ⟨#[]⟩] (heap_alloc_new w3.drew _) rzA rfl (by simp [Value.oneCell']) ?_
  show K (Act.put _ none undef) ((w3.drew.alloc (.cells #[.slice none 0 0, .int .i64 0, .int .i64 0, .string ⟨#[]⟩] 24)).setRow w3.heap.size #[.slice (some ⟨G, 0, none⟩) n cap, .int .i64 d, .int .i64 s, .string cm])
  rw [show (w3.drew.alloc (.cells #[.slice none 0 0, .int .i64 0, .int .i64 0, .string ⟨#[]⟩] 24)).setRow w3.heap.size #[.slice (some ⟨G, 0, none⟩) n cap, .int .i64 d, .int .i64 s, .string cm] = w3.drew.alloc (.cells #[.slice (some ⟨G, 0, none⟩) n cap, .int .i64 d, .int .i64 s, .string cm] 24) from World.setRow_alloc_new w3.drew _ _ 24]
  refine hK.out _ _ (HKP.out _ ((Below.refl _ _).drew.alloc (Nat.le_refl _) _)) (fun hHeld2 => ?_)
  clear hK K hHeld
  try simp only [Act.put, List.setIfInBounds_toArray, List.set_cons_zero, List.set_cons_succ]
  refine wpAnyH_done (by kernel_rfl) ?_ _
  clear hHeld2
  have HB34 : Hid (Below w3.heap.size w3 (w3.drew.alloc (.cells #[.slice (some ⟨G, 0, none⟩) n cap, .int .i64 d, .int .i64 s, .string cm] 24))) := (Below.refl _ _).drew.alloc (Nat.le_refl _) _
  have hx4 : (w3.drew.alloc (.cells #[.slice (some ⟨G, 0, none⟩) n cap, .int .i64 d, .int .i64 s, .string cm] 24)).heap[w3.heap.size]? = some (.cells #[.slice (some ⟨G, 0, none⟩) n cap, .int .i64 d, .int .i64 s, .string cm] 24) := heap_alloc_new w3.drew _
  obtain ⟨w4, hw4⟩ : ∃ y, w3.drew.alloc (.cells #[.slice (some ⟨G, 0, none⟩) n cap, .int .i64 d, .int .i64 s, .string cm] 24) = y := ⟨_, rfl⟩
  rw [hw4] at HB34 hx4 ⊢
  have HX4 := hide hx4
  have HSZ4 : Hid (w3.heap.size < w4.heap.size) := (Array.getElem?_eq_some_iff.1 hx4).1
  have HGX : Hid (∀ W, Below w4.heap.size w4 W → W.cell? ⟨w3.heap.size, 0, none⟩ = some (.slice (some ⟨G, 0, none⟩) n cap) ∧ W.cell? ⟨w3.heap.size, 1, none⟩ = some (.int .i64 d) ∧ W.cell? ⟨w3.heap.size, 2, none⟩ = some (.int .i64 s) ∧ W.cell? ⟨w3.heap.size, 3, none⟩ = some (.string cm)) := fun W hW => by
    have e := (hW.block _ HSZ4.out).trans HX4.out
    exact ⟨by simp [World.cell?, e], by simp [World.cell?, e], by simp [World.cell?, e], by simp [World.cell?, e]⟩
  have HB04 := hide (HB03.out.trans (HB34.out.mono HB03.out.size))
  obtain ⟨p0, p1, p2, p3⟩ := HGX.out w4 (Below.refl _ _)
  have HGV4 := hide (HGV.out.low HB34.out)
  have HLA4 := hide (range_low HLA.out HB34.out)
  clear hw4 hx4 HSS HKP HGV HLA
  go_wp2_with fail
  refine (HLX.out _ w4 HGV4.out).mono ?_
  rintro e w5 ⟨a5, c5, rfl, ho5, hb5⟩
  have HO5 := hide ho5.sr
  have HB45 := hide hb5
  have HB05 := hide (HB04.out.trans (hb5.mono HB04.out.size))
  clear ho5 hb5 p0 p1 p2 p3
  obtain ⟨r0, r1, r2, r3⟩ := HBX.out w5 HB05.out
  have HLw5 := hide (HL.out.low (HB0.out.trans (HB05.out.mono HB0.out.size)))
  go_wp2_with fail
  refine (HZX.out _ w5 HLw5.out).mono ?_
  rintro e w6 ⟨a6, c6, rfl, ho6, hb6⟩
  have HO6 := hide ho6.sr
  have HO56 := hide (HO5.out.low hb6)
  have HB46 := hide (HB45.out.trans (hb6.mono HB45.out.size))
  have HB06 := hide (HB05.out.trans (hb6.mono HB05.out.size))
  clear ho6 hb6 r0 r1 r2 r3 HO5
  go_wp2_with fail
  refine (spans_same _ _ X w6 HO56.out HO6.out).mono ?_
  rintro e w7 ⟨rfl, hb7⟩
  have HB47 := hide (HB46.out.trans (hb7.mono HB46.out.size))
  have HB07 := hide (HB06.out.trans (hb7.mono HB06.out.size))
  clear hb7 HO56 HO6
  obtain ⟨r0, r1, r2, r3⟩ := HBX.out w7 HB07.out
  obtain ⟨p0, p1, p2, p3⟩ := HGX.out w7 HB47.out
  have HAL := hide (alike_same (.slice (some ⟨G, 0, none⟩) n cap) (.slice ca n ccap) es d s cm w7 (by have := HGV4.out.low HB47.out; rwa [HRE.out] at this) (by have := HL.out.low (HB0.out.trans (HB07.out.mono HB0.out.size)); rwa [HRE.out] at this))
  go_wp2_with fail
  refine HAL.out.mono ?_
  rintro e w8 ⟨rfl, hb8⟩
  have HB48 := hide (HB47.out.trans (hb8.mono HB47.out.size))
  have HB08 := hide (HB07.out.trans (hb8.mono HB07.out.size))
  have HB8 := hide (HB0.out.trans (HB08.out.mono HB0.out.size))
  have HLA8 := hide (range_low HLA4.out HB48.out)
  clear hb8 HAL r0 r1 r2 r3 p0 p1 p2 p3
  obtain ⟨r0, r1, r2, r3⟩ := HBX.out w8 HB08.out
  have hjc : (n : Int) < ((n + 1 : Nat) : Int) := by omega
  have heq : ∀ W : World, (Op.equalIn 10000 32 (.agg mk77N) (.agg #[.int .i64 0, .int .i64 0, .int .i64 0, .int .i64 0, .int .i64 0, .int .u32 0, .int .i64 0, .int .i64 0, .string ⟨#[]⟩, .string ⟨#[]⟩, .int .i64 0, .int .i64 0, .int .i64 0, .int .i64 0, .int .i64 0, .string ⟨#[]⟩, .string ⟨#[]⟩, .int .i64 (-77), .int .i64 0, .int .i64 0])).run Try.prog W = .ok true W := mk77N_eq
  go_wp2_with ((with_reducible refine wpList_lgN G (n * 20) mk77N rfl ?hw ?hx HLA8.out ?_); (case hw => rfl); (case hx => rfl))
  go_ret
  exact ⟨by first | rfl | simp, HB8.out⟩

theorem extents_walk (v : Value) (es : List Ent) (d s : Int) (cm : ByteArray) (w : World) (h : SR 20 w v (es.map Ent.cs)) (hn : es.length ≤ 733007751829) :
    Calls Try.prog 3 #[.agg #[v, .int .i64 d, .int .i64 s, .string cm]] w fun e w' => e = .returned (.bool true) ∧ Below w.heap.size w w' := by
  have hX : (srtS (es.map Ent.frm) (es.map eS)).length = es.length := by rw [srtS_len, List.length_map]
  refine extents_gen v es d s cm (srtS (es.map Ent.frm) (es.map eS)) w h hn (fun v' W hW => ?_) (fun v' W hW => ?_)
  · rw [hX]; exact extents_any v' es d s cm W hW hn
  · rw [hX]; exact zextents_any v' es d s cm W hW hn
end Go.Proofs.Ytmbgjkghcpkoiaa

