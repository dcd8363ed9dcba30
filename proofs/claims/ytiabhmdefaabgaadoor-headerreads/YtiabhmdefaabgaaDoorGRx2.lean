import Derived.Test.YtiabhmdefaabgaaDoorGRx1
namespace Go.Proofs.YtiabhmdefaabgaaDoor
open Go.RowKit Go.Maps
set_option maxRecDepth 20000
set_option linter.unusedVariables false

theorem run1_doc {l : List Int} {k m : Nat} {V P : Int} (hk : k < l.length) (hV : V = l.getD k 0) (hm : m = eqn V (l.drop k)) (hP : 0 < k → P = l.getD (k - 1) 0) :
    (V = 0 → 11 ≤ m → run1 l k = (18, ((min m 138 : Nat) : Int))) ∧ (V = 0 → m < 11 → 3 ≤ m → run1 l k = (17, (m : Int))) ∧ (V = 0 → m < 3 → run1 l k = (V, 1)) ∧
    (V ≠ 0 → 0 < k → P = V → 3 ≤ m → run1 l k = (16, ((min m 6 : Nat) : Int))) ∧ (V ≠ 0 → ¬ (0 < k ∧ P = V ∧ 3 ≤ m) → run1 l k = (V, 1)) := by
  unfold run1
  rw [← hV, ← hm]
  refine ⟨fun h1 h2 => ?_, fun h1 h2 h3 => ?_, fun h1 h2 => ?_, fun h1 h2 h3 h4 => ?_, fun h1 h2 => ?_⟩
  · subst h1
    rw [← hm, if_pos ⟨rfl, h2⟩]
  · subst h1
    rw [← hm, if_neg (by omega), if_pos ⟨rfl, h3⟩]
  · subst h1
    rw [← hm, if_neg (by omega), if_neg (by omega), if_neg (by omega)]
  · rw [if_neg (fun q => h1 q.1), if_neg (fun q => h1 q.1), if_pos ⟨h1, h2, by rw [← hP h2]; exact h3, h4⟩]
  · rw [if_neg (fun q => h1 q.1), if_neg (fun q => h1 q.1), if_neg (fun q => h2 ⟨q.2.1, by rw [hP q.2.1]; exact q.2.2.1, q.2.2.2⟩)]

set_option maxHeartbeats 2000000 in
theorem xrun_any (k : Nat) (v : Value) (l : List Int) (w : World) (h : SI w v l) (hk : k < l.length) (hn : l.length ≤ 1048576) :
    Calls Tryd.prog 40 #[v, .int .i64 k] w fun e w' => e = .returned (.agg #[.int .i64 (run1 l k).1, .int .i64 (run1 l k).2]) ∧ Below w.heap.size w w' := by
  have HS := hide h
  obtain ⟨ao, cap, rfl, hlc, hcm⟩ := h.open
  clear h
  obtain ⟨b, o, rfl, c0⟩ := HS.out.get (Below.refl _ _) hk
  obtain ⟨wb, hwb⟩ : ∃ wb, w.alloc (.cells #[.int .i64 0, .int .i64 0] 25) = wb := ⟨_, rfl⟩
  have hb0 : Below w.heap.size w wb := by rw [← hwb]; exact (Below.refl _ _).alloc (Nat.le_refl _) _
  have c1 : 0 < k → wb.cell? ⟨b, o + (k - 1), none⟩ = some (.int .i64 (l.getD (k - 1) 0)) := fun hz => by
    obtain ⟨b', o', e, c⟩ := HS.out.get hb0 (k := k - 1) (by omega)
    simp only [Option.some.injEq, Addr.mk.injEq, and_true] at e
    obtain ⟨rfl, rfl⟩ := e
    exact c
  have HEQ := hide (equals_any k _ l wb (HS.out.below hb0) hk hn)
  have c00 : wb.cell? ⟨b, o + k, none⟩ = some (.int .i64 (l.getD k 0)) := by
    obtain ⟨b', o', e, c⟩ := HS.out.get hb0 hk
    simp only [Option.some.injEq, Addr.mk.injEq, and_true] at e
    obtain ⟨rfl, rfl⟩ := e
    exact c
  have hg0 : wb.heap[w.heap.size]? = some (.cells #[.int .i64 0, .int .i64 0] 25 (0, 0)) := by rw [← hwb]; exact heap_alloc_new w _
  have d0 : wb.cell? ⟨w.heap.size, 0, none⟩ = some (.int .i64 0) := by unfold World.cell?; rw [hg0]; rfl
  have d1 : wb.cell? ⟨w.heap.size, 1, none⟩ = some (.int .i64 0) := by unfold World.cell?; rw [hg0]; rfl
  have e0 : wb.frozen? ⟨w.heap.size, 0, none⟩ = false := by unfold World.frozen?; rw [hg0]; rfl
  have e1 : wb.frozen? ⟨w.heap.size, 1, none⟩ = false := by unfold World.frozen?; rw [hg0]; rfl
  have HFIN : Hid (∀ q p1 p2, Below w.heap.size w (((wb.drewN q).setCell ⟨w.heap.size, 0, none⟩ (.int .i64 p1)).setCell ⟨w.heap.size, 1, none⟩ (.int .i64 p2)) ∧ (((wb.drewN q).setCell ⟨w.heap.size, 0, none⟩ (.int .i64 p1)).setCell ⟨w.heap.size, 1, none⟩ (.int .i64 p2)).heap[w.heap.size]? = some (.cells #[.int .i64 p1, .int .i64 p2] 25 (0, 0))) := fun q p1 p2 =>
    ⟨((below_drewN hb0 q).setCell (p := ⟨w.heap.size, 0, none⟩) (Nat.le_refl _) _).setCell (p := ⟨w.heap.size, 1, none⟩) (Nat.le_refl _) _, by
      have e1 : ((wb.drewN q).setCell ⟨w.heap.size, 0, none⟩ (.int .i64 p1)).heap[w.heap.size]? = _ := heap_setCell_at _ (show (wb.drewN q).heap[w.heap.size]? = _ from hg0)
      rw [heap_setCell_at _ e1]
      rfl⟩
  have HWB := hide hwb
  obtain ⟨P, hP⟩ : ∃ P, 0 < k → P = l.getD (k - 1) 0 := ⟨_, fun _ => rfl⟩
  obtain ⟨V, hV⟩ : ∃ V, V = l.getD k 0 := ⟨_, rfl⟩
  obtain ⟨m, hm⟩ : ∃ m, m = eqn V (l.drop k) := ⟨_, rfl⟩
  obtain ⟨r1, r2, r3, r4, r5⟩ := run1_doc hk hV hm hP
  have hmm : m ≤ 1048576 := by have := eqn_le V (l.drop k); rw [List.length_drop] at this; omega
  have c1' : 0 < k → wb.cell? ⟨b, o + (k - 1), none⟩ = some (.int .i64 P) := fun z => by rw [hP z]; exact c1 z
  rw [← hV] at HEQ c0 c00
  rw [← hm] at HEQ
  have HC1 := hide c1'
  have c000 : (w.alloc (.cells #[.int .i64 0, .int .i64 0] 25)).cell? ⟨b, o + k, none⟩ = some (.int .i64 V) := by rw [hwb]; exact c00
  clear hwb hb0 c1 c1' hg0 hP hV hm
  have hk' : (k : Int) < (l.length : Int) := by omega
  by_cases v0 : V = 0
  · subst v0
    by_cases m11 : 11 ≤ m
    · have HR := hide (r1 rfl m11)
      clear r1 r2 r3 r4 r5
      go_enter Tryd.func40, Tryd.ntmps40
      go_wp2_with fail
      rw [HWB.out]
      refine HEQ.out.mono ?_
      rintro e w2 ⟨rfl, q, hw2⟩
      subst hw2
      go_wp2_with fail
      refine (lesser_any m 138 _).mono ?_
      rintro e w3 ⟨rfl, hw3⟩
      subst hw3
      go_wp2
      obtain ⟨hfb, hfc⟩ := HFIN.out q (18) ((min m 138 : Nat))
      obtain ⟨wf, hwf⟩ : ∃ wf, (((wb.drewN q).setCell ⟨w.heap.size, 0, none⟩ (.int .i64 (18))).setCell ⟨w.heap.size, 1, none⟩ (.int .i64 ((min m 138 : Nat)))) = wf := ⟨_, rfl⟩
      rw [hwf] at hfb hfc ⊢
      have z0 : wf.cell? ⟨w.heap.size, 0, none⟩ = some (.int .i64 (18)) := by unfold World.cell?; rw [hfc]; rfl
      have z1 : wf.cell? ⟨w.heap.size, 1, none⟩ = some (.int .i64 ((min m 138 : Nat))) := by unfold World.cell?; rw [hfc]; rfl
      refine bodyPost_ret (v := .agg #[.int .i64 (18), .int .i64 ((min m 138 : Nat))]) (by simp [results, Tryd.results40, go_sem, z0, z1]) rfl ?_
      rw [HR.out]
      exact ⟨rfl, hfb⟩
    · by_cases m3 : 3 ≤ m
      · have HR := hide (r2 rfl (by omega) m3)
        have hm11 : ¬ (11 : Int) ≤ (m : Int) := by omega
        clear r1 r2 r3 r4 r5
        go_enter Tryd.func40, Tryd.ntmps40
        go_wp2_with fail
        rw [HWB.out]
        refine HEQ.out.mono ?_
        rintro e w2 ⟨rfl, q, hw2⟩
        subst hw2
        go_wp2
        obtain ⟨hfb, hfc⟩ := HFIN.out q (17) (m)
        obtain ⟨wf, hwf⟩ : ∃ wf, (((wb.drewN q).setCell ⟨w.heap.size, 0, none⟩ (.int .i64 (17))).setCell ⟨w.heap.size, 1, none⟩ (.int .i64 (m))) = wf := ⟨_, rfl⟩
        rw [hwf] at hfb hfc ⊢
        have z0 : wf.cell? ⟨w.heap.size, 0, none⟩ = some (.int .i64 (17)) := by unfold World.cell?; rw [hfc]; rfl
        have z1 : wf.cell? ⟨w.heap.size, 1, none⟩ = some (.int .i64 (m)) := by unfold World.cell?; rw [hfc]; rfl
        refine bodyPost_ret (v := .agg #[.int .i64 (17), .int .i64 (m)]) (by simp [results, Tryd.results40, go_sem, z0, z1]) rfl ?_
        rw [HR.out]
        exact ⟨rfl, hfb⟩
      · have HR := hide (r3 rfl (by omega))
        have hm11 : ¬ (11 : Int) ≤ (m : Int) := by omega
        have hm3 : ¬ (3 : Int) ≤ (m : Int) := by omega
        clear r1 r2 r3 r4 r5
        go_enter Tryd.func40, Tryd.ntmps40
        go_wp2_with fail
        rw [HWB.out]
        refine HEQ.out.mono ?_
        rintro e w2 ⟨rfl, q, hw2⟩
        subst hw2
        go_wp2
        obtain ⟨hfb, hfc⟩ := HFIN.out q (0) (1)
        obtain ⟨wf, hwf⟩ : ∃ wf, (((wb.drewN q).setCell ⟨w.heap.size, 0, none⟩ (.int .i64 (0))).setCell ⟨w.heap.size, 1, none⟩ (.int .i64 (1))) = wf := ⟨_, rfl⟩
        rw [hwf] at hfb hfc ⊢
        have z0 : wf.cell? ⟨w.heap.size, 0, none⟩ = some (.int .i64 (0)) := by unfold World.cell?; rw [hfc]; rfl
        have z1 : wf.cell? ⟨w.heap.size, 1, none⟩ = some (.int .i64 (1)) := by unfold World.cell?; rw [hfc]; rfl
        refine bodyPost_ret (v := .agg #[.int .i64 (0), .int .i64 (1)]) (by simp [results, Tryd.results40, go_sem, z0, z1]) rfl ?_
        rw [HR.out]
        exact ⟨rfl, hfb⟩
  · have v0' : (V == 0) = false := by simpa using v0
    have v0'' : (V != 0) = true := by simpa using v0
    by_cases k0 : 0 < k
    · have k0' : (0 : Int) < (k : Int) := by omega
      have cp := HC1.out k0
      obtain ⟨j, hj⟩ : ∃ j, k = j + 1 := ⟨k - 1, by omega⟩
      have cp2 : wb.cell? ⟨b, o + j, none⟩ = some (.int .i64 P) := by rw [hj, Nat.add_sub_cancel] at cp; exact cp
      have ej : ((k : Int) - 1).toNat = j := by omega
      have hj1 : (k : Int) - 1 = (j : Int) := by omega
      have HJ := hide hj
      by_cases pv : P = V
      · by_cases m3 : 3 ≤ m
        · have HR := hide (r4 v0 k0 pv m3)
          have m3' : (3 : Int) ≤ (m : Int) := by omega
          subst pv
          clear r1 r2 r3 r4 r5 hj
          go_enter Tryd.func40, Tryd.ntmps40
          go_wp2_with fail
          rw [HWB.out]
          refine HEQ.out.mono ?_
          rintro e w2 ⟨rfl, q, hw2⟩
          subst hw2
          go_wp2_with fail
          refine (lesser_any m 6 _).mono ?_
          rintro e w3 ⟨rfl, hw3⟩
          subst hw3
          go_wp2
          obtain ⟨hfb, hfc⟩ := HFIN.out q (16) ((min m 6 : Nat))
          obtain ⟨wf, hwf⟩ : ∃ wf, (((wb.drewN q).setCell ⟨w.heap.size, 0, none⟩ (.int .i64 (16))).setCell ⟨w.heap.size, 1, none⟩ (.int .i64 ((min m 6 : Nat)))) = wf := ⟨_, rfl⟩
          rw [hwf] at hfb hfc ⊢
          have z0 : wf.cell? ⟨w.heap.size, 0, none⟩ = some (.int .i64 (16)) := by unfold World.cell?; rw [hfc]; rfl
          have z1 : wf.cell? ⟨w.heap.size, 1, none⟩ = some (.int .i64 ((min m 6 : Nat))) := by unfold World.cell?; rw [hfc]; rfl
          refine bodyPost_ret (v := .agg #[.int .i64 (16), .int .i64 ((min m 6 : Nat))]) (by simp [results, Tryd.results40, go_sem, z0, z1]) rfl ?_
          rw [HR.out]
          exact ⟨rfl, hfb⟩
        · have HR := hide (r5 v0 (fun q => m3 q.2.2))
          have m3' : ¬ (3 : Int) ≤ (m : Int) := by omega
          subst pv
          clear r1 r2 r3 r4 r5 hj
          go_enter Tryd.func40, Tryd.ntmps40
          go_wp2_with fail
          rw [HWB.out]
          refine HEQ.out.mono ?_
          rintro e w2 ⟨rfl, q, hw2⟩
          subst hw2
          go_wp2
          obtain ⟨hfb, hfc⟩ := HFIN.out q (P) (1)
          obtain ⟨wf, hwf⟩ : ∃ wf, (((wb.drewN q).setCell ⟨w.heap.size, 0, none⟩ (.int .i64 (P))).setCell ⟨w.heap.size, 1, none⟩ (.int .i64 (1))) = wf := ⟨_, rfl⟩
          rw [hwf] at hfb hfc ⊢
          have z0 : wf.cell? ⟨w.heap.size, 0, none⟩ = some (.int .i64 (P)) := by unfold World.cell?; rw [hfc]; rfl
          have z1 : wf.cell? ⟨w.heap.size, 1, none⟩ = some (.int .i64 (1)) := by unfold World.cell?; rw [hfc]; rfl
          refine bodyPost_ret (v := .agg #[.int .i64 (P), .int .i64 (1)]) (by simp [results, Tryd.results40, go_sem, z0, z1]) rfl ?_
          rw [HR.out]
          exact ⟨rfl, hfb⟩
      · have HR := hide (r5 v0 (fun q => pv q.2.1))
        have pv' : (P == V) = false := by simpa using pv
        clear r1 r2 r3 r4 r5 hj
        go_enter Tryd.func40, Tryd.ntmps40
        go_wp2_with fail
        rw [HWB.out]
        refine HEQ.out.mono ?_
        rintro e w2 ⟨rfl, q, hw2⟩
        subst hw2
        go_wp2
        obtain ⟨hfb, hfc⟩ := HFIN.out q (V) (1)
        obtain ⟨wf, hwf⟩ : ∃ wf, (((wb.drewN q).setCell ⟨w.heap.size, 0, none⟩ (.int .i64 (V))).setCell ⟨w.heap.size, 1, none⟩ (.int .i64 (1))) = wf := ⟨_, rfl⟩
        rw [hwf] at hfb hfc ⊢
        have z0 : wf.cell? ⟨w.heap.size, 0, none⟩ = some (.int .i64 (V)) := by unfold World.cell?; rw [hfc]; rfl
        have z1 : wf.cell? ⟨w.heap.size, 1, none⟩ = some (.int .i64 (1)) := by unfold World.cell?; rw [hfc]; rfl
        refine bodyPost_ret (v := .agg #[.int .i64 (V), .int .i64 (1)]) (by simp [results, Tryd.results40, go_sem, z0, z1]) rfl ?_
        rw [HR.out]
        exact ⟨rfl, hfb⟩
    · have HR := hide (r5 v0 (fun q => k0 q.1))
      have k0' : ¬ (0 : Int) < (k : Int) := by omega
      clear r1 r2 r3 r4 r5
      go_enter Tryd.func40, Tryd.ntmps40
      go_wp2_with fail
      rw [HWB.out]
      refine HEQ.out.mono ?_
      rintro e w2 ⟨rfl, q, hw2⟩
      subst hw2
      go_wp2
      obtain ⟨hfb, hfc⟩ := HFIN.out q (V) (1)
      obtain ⟨wf, hwf⟩ : ∃ wf, (((wb.drewN q).setCell ⟨w.heap.size, 0, none⟩ (.int .i64 (V))).setCell ⟨w.heap.size, 1, none⟩ (.int .i64 (1))) = wf := ⟨_, rfl⟩
      rw [hwf] at hfb hfc ⊢
      have z0 : wf.cell? ⟨w.heap.size, 0, none⟩ = some (.int .i64 (V)) := by unfold World.cell?; rw [hfc]; rfl
      have z1 : wf.cell? ⟨w.heap.size, 1, none⟩ = some (.int .i64 (1)) := by unfold World.cell?; rw [hfc]; rfl
      refine bodyPost_ret (v := .agg #[.int .i64 (V), .int .i64 (1)]) (by simp [results, Tryd.results40, go_sem, z0, z1]) rfl ?_
      rw [HR.out]
      exact ⟨rfl, hfb⟩
end Go.Proofs.YtiabhmdefaabgaaDoor

