import Derived.Test.YtiabhmdefaabgacGreatDoorGRw
namespace Go.Proofs.YtiabhmdefaabgacGreatDoor
open Go.RowKit Go.Maps
set_option maxRecDepth 20000
set_option linter.unusedVariables false

theorem xlengths_any (v : Value) (l : List Int) (w : World) (h : SI w v l) :
    Calls Tryz.prog 42 #[v] w fun e w' => e = .returned (.bool (wthb l)) ∧ w' = w := by
  have HS := hide h
  obtain ⟨ao, cap, rfl, hlc, hcm⟩ := h.open
  clear h
  go_enter Tryz.func42, Tryz.ntmps42
  go_wp2
  go_loopw [3] (fun i wr => ∃ k : Nat, k ≤ l.length ∧ i = .int .i64 k ∧ wr = w ∧ Hid (∀ x ∈ l.take k, 0 ≤ x ∧ x ≤ 15)) (fun i _ => l.length - (intOf i).toNat)
  case atStart => exact ⟨0, Nat.zero_le _, rfl, rfl, fun x hx => by simp at hx⟩
  case round =>
    obtain ⟨k, hk, rfl, hw, HA⟩ := hrel
    subst hw
    by_cases hlt : k < l.length
    · have hlt' : (k : Int) < (l.length : Int) := by omega
      obtain ⟨b, o, rfl, hc⟩ := HS.out.get (Below.refl _ _) hlt
      have HN := hide (fun q => all_snoc hlt HA.out q)
      have HB := hide (fun q => wth_bad hlt q)
      obtain ⟨y, HY⟩ : ∃ y, Hid (y = l.getD k 0) := ⟨_, rfl⟩
      rw [← HY.out] at hc HN HB
      by_cases h0 : y < 0
      · have HF : Hid (wthb l = false) := HB.out (by omega)
        go_wp2
        go_ret
        rw [HF.out]
        exact ⟨rfl, rfl⟩
      · by_cases h15 : 15 < y
        · have HF : Hid (wthb l = false) := HB.out (by omega)
          go_wp2
          go_ret
          rw [HF.out]
          exact ⟨rfl, rfl⟩
        · have HN2 := hide (HN.out ⟨by omega, by omega⟩)
          go_wp2
          go_roundw
          case rel => exact ⟨k + 1, by omega, by go_num, trivial, HN2⟩
          case measure => simp [intOf]; omega
    · obtain rfl : k = l.length := by omega
      have hlt' : ¬ (l.length : Int) < (l.length : Int) := by omega
      have HF : Hid (wthb l = true) := wth_iff.2 (by have := HA.out; rwa [List.take_of_length_le (Nat.le_refl _)] at this)
      go_wp2
      go_ret
      rw [HF.out]
      exact ⟨rfl, rfl⟩

theorem lesser_any (a b : Nat) (w : World) : Calls Tryz.prog 90 #[.int .i64 a, .int .i64 b] w fun e w' => e = .returned (.int .i64 (min a b : Nat)) ∧ w' = w := by
  by_cases h : a < b
  · have h' : (a : Int) < (b : Int) := by omega
    have HM : Hid (min a b = a) := by show _ = _; omega
    go_enter Tryz.func90, Tryz.ntmps90
    go_wp2
    go_ret
    rw [HM.out]
    exact ⟨rfl, rfl⟩
  · have h' : ¬ (a : Int) < (b : Int) := by omega
    have HM : Hid (min a b = b) := by show _ = _; omega
    go_enter Tryz.func90, Tryz.ntmps90
    go_wp2
    go_ret
    rw [HM.out]
    exact ⟨rfl, rfl⟩

set_option maxHeartbeats 1000000 in
theorem equals_any (k : Nat) (v : Value) (l : List Int) (w : World) (h : SI w v l) (hk : k < l.length) (hn : l.length ≤ 1048576) :
    Calls Tryz.prog 89 #[v, .int .i64 k] w fun e w' => e = .returned (.int .i64 (eqn (l.getD k 0) (l.drop k) : Nat)) ∧ ∃ q, w' = w.drewN q := by
  have HS := hide h
  obtain ⟨ao, cap, rfl, hlc, hcm⟩ := h.open
  clear h
  obtain ⟨b, o, rfl, c0⟩ := HS.out.get (Below.refl _ _) hk
  have HG : Hid (∀ j, k + j < l.length → w.cell? ⟨b, o + (k + j), none⟩ = some (.int .i64 ((l.drop k).getD j 0))) := fun j hj => by
    obtain ⟨b', o', e, c⟩ := HS.out.get (Below.refl _ _) hj
    simp only [Option.some.injEq, Addr.mk.injEq, and_true] at e
    obtain ⟨rfl, rfl⟩ := e
    rw [c]
    simp only [List.getD_eq_getElem?_getD, List.getElem?_drop]
  obtain ⟨V, HV⟩ : ∃ V, Hid (V = l.getD k 0) := ⟨_, rfl⟩
  rw [← HV.out] at c0 ⊢
  obtain ⟨D, HD⟩ : ∃ D, Hid (D = l.drop k) := ⟨_, rfl⟩
  rw [← HD.out] at HG ⊢
  have HDL : Hid (D.length = l.length - k) := by show _ = _; rw [HD.out, List.length_drop]
  clear HV HD HS
  go_enter Tryz.func89, Tryz.ntmps89
  go_wp2
  go_loopw [5] (fun i wr => ∃ j q : Nat, k + j ≤ l.length ∧ i = .int .i64 j ∧ wr = w.drewN q ∧ Hid (j ≤ eqn V D)) (fun i _ => l.length - (intOf i).toNat)
  case atStart => exact ⟨0, 0, by omega, rfl, rfl, Nat.zero_le _⟩
  case round =>
    obtain ⟨j, q, hj, rfl, hw, HJ⟩ := hrel
    subst hw
    by_cases hlt : k + j < l.length
    · have hlt' : (k : Int) + (j : Int) < (l.length : Int) := by omega
      have hk' : (k : Int) < (l.length : Int) := by omega
      have cj : (w.drewN q).cell? ⟨b, o + (k + j), none⟩ = some (.int .i64 (D.getD j 0)) := HG.out j hlt
      have cj2 : w.cell? ⟨b, o + (k + j), none⟩ = some (.int .i64 (D.getD j 0)) := cj
      have HGO := hide (eqn_go HJ.out (by rw [HDL.out]; omega))
      obtain ⟨y, HY⟩ : ∃ y, Hid (y = D.getD j 0) := ⟨_, rfl⟩
      rw [← HY.out] at cj cj2 HGO
      have en : ((k : Int) + (j : Int)).toNat = k + j := by omega
      by_cases hy : y = V
      · subst hy
        have HJ2 := hide (HGO.out.1 rfl)
        go_wp2
        go_quiet (fail)
        go_wp2
        go_roundw
        case rel => exact ⟨j + 1, _, by omega, by go_num, by (try simp only [World.drewN_drewN]); rfl, HJ2⟩
        case measure => simp [intOf]; omega
      · have hy' : (y == V) = false := by simpa using hy
        have HE : Hid (eqn V D = j) := HGO.out.2 hy
        go_wp2
        go_quiet (fail)
        go_wp2
        go_ret
        rw [HE.out]
        exact ⟨rfl, _, by (try simp only [World.drewN_drewN]); rfl⟩
    · have hlt' : ¬ (k : Int) + (j : Int) < (l.length : Int) := by omega
      have hd : decide ((k : Int) + (j : Int) < (l.length : Int)) = false := decide_eq_false hlt'
      have HE : Hid (eqn V D = j) := by
        show _ = _
        have := eqn_le V D
        have h1 := HJ.out
        have h2 := HDL.out
        omega
      go_wp2
      go_quiet (fail)
      go_wp2
      go_ret
      rw [HE.out]
      exact ⟨rfl, _, by (try simp only [World.drewN_drewN]); rfl⟩
end Go.Proofs.YtiabhmdefaabgacGreatDoor

namespace Go.Proofs.YtiabhmdefaabgacGreatDoor
open Go.RowKit Go.Maps
set_option maxRecDepth 20000
set_option linter.unusedVariables false

theorem run1_doc {l : List Int} {k m : Nat} {V P : Int} (hk : k < l.length) (hV : V = l.getD k 0) (hm : m = eqn V (l.drop k)) (hP : 0 < k → P = l.getD (k - 1) 0) :
    (V = 0 → 11 ≤ m → run1 l k = (18, ((min m 138 : Nat) : Int))) ∧ (V = 0 → m < 11 → 3 ≤ m → run1 l k = (17, (m : Int))) ∧ (V = 0 → m < 3 → run1 l k = (V, 1)) ∧
    (V ≠ 0 → 0 < k → P = V → 3 ≤ m → run1 l k = (16, ((min m 6 : Nat) : Int))) ∧ (V ≠ 0 → ¬ (0 < k ∧ P = V ∧ 3 ≤ m) → run1 l k = (V, 1)) := by
  unfold run1
  rw [← hV, ← hm]
  refine ⟨fun h1 h2 => ?_, fun h1 h2 h3 => ?_, fun h1 h2 => ?_, fun h1 h2 h3 h4 => ?_, fun h1 h2 => ?_⟩
  · subst h1
    rw [← hm, if_pos ⟨rfl, h2⟩]
  · subst h1
    rw [← hm, if_neg (by omega), if_pos ⟨rfl, h3⟩]
  · subst h1
    rw [← hm, if_neg (by omega), if_neg (by omega), if_neg (by omega)]
  · rw [if_neg (fun q => h1 q.1), if_neg (fun q => h1 q.1), if_pos ⟨h1, h2, by rw [← hP h2]; exact h3, h4⟩]
  · rw [if_neg (fun q => h1 q.1), if_neg (fun q => h1 q.1), if_neg (fun q => h2 ⟨q.2.1, by rw [hP q.2.1]; exact q.2.2.1, q.2.2.2⟩)]

set_option maxHeartbeats 2000000 in
theorem xrun_any (k : Nat) (v : Value) (l : List Int) (w : World) (h : SI w v l) (hk : k < l.length) (hn : l.length ≤ 1048576) :
    Calls Tryz.prog 67 #[v, .int .i64 k] w fun e w' => e = .returned (.agg #[.int .i64 (run1 l k).1, .int .i64 (run1 l k).2]) ∧ Below w.heap.size w w' := by
  have HS := hide h
  obtain ⟨ao, cap, rfl, hlc, hcm⟩ := h.open
  clear h
  obtain ⟨b, o, rfl, c0⟩ := HS.out.get (Below.refl _ _) hk
  obtain ⟨wb, hwb⟩ : ∃ wb, w.alloc (.cells #[.int .i64 0, .int .i64 0] 79) = wb := ⟨_, rfl⟩
  have hb0 : Below w.heap.size w wb := by rw [← hwb]; exact (Below.refl _ _).alloc (Nat.le_refl _) _
  have c1 : 0 < k → wb.cell? ⟨b, o + (k - 1), none⟩ = some (.int .i64 (l.getD (k - 1) 0)) := fun hz => by
    obtain ⟨b', o', e, c⟩ := HS.out.get hb0 (k := k - 1) (by omega)
    simp only [Option.some.injEq, Addr.mk.injEq, and_true] at e
    obtain ⟨rfl, rfl⟩ := e
    exact c
  have HEQ := hide (equals_any k _ l wb (HS.out.below hb0) hk hn)
  have c00 : wb.cell? ⟨b, o + k, none⟩ = some (.int .i64 (l.getD k 0)) := by
    obtain ⟨b', o', e, c⟩ := HS.out.get hb0 hk
    simp only [Option.some.injEq, Addr.mk.injEq, and_true] at e
    obtain ⟨rfl, rfl⟩ := e
    exact c
  have hg0 : wb.heap[w.heap.size]? = some (.cells #[.int .i64 0, .int .i64 0] 79 (0, 0)) := by rw [← hwb]; exact heap_alloc_new w _
  have d0 : wb.cell? ⟨w.heap.size, 0, none⟩ = some (.int .i64 0) := by unfold World.cell?; rw [hg0]; rfl
  have d1 : wb.cell? ⟨w.heap.size, 1, none⟩ = some (.int .i64 0) := by unfold World.cell?; rw [hg0]; rfl
  have e0 : wb.frozen? ⟨w.heap.size, 0, none⟩ = false := by unfold World.frozen?; rw [hg0]; rfl
  have e1 : wb.frozen? ⟨w.heap.size, 1, none⟩ = false := by unfold World.frozen?; rw [hg0]; rfl
  have HFIN : Hid (∀ q p1 p2, Below w.heap.size w (((wb.drewN q).setCell ⟨w.heap.size, 0, none⟩ (.int .i64 p1)).setCell ⟨w.heap.size, 1, none⟩ (.int .i64 p2)) ∧ (((wb.drewN q).setCell ⟨w.heap.size, 0, none⟩ (.int .i64 p1)).setCell ⟨w.heap.size, 1, none⟩ (.int .i64 p2)).heap[w.heap.size]? = some (.cells #[.int .i64 p1, .int .i64 p2] 79 (0, 0))) := fun q p1 p2 =>
    ⟨((below_drewN hb0 q).setCell (p := ⟨w.heap.size, 0, none⟩) (Nat.le_refl _) _).setCell (p := ⟨w.heap.size, 1, none⟩) (Nat.le_refl _) _, by
      have e1 : ((wb.drewN q).setCell ⟨w.heap.size, 0, none⟩ (.int .i64 p1)).heap[w.heap.size]? = _ := heap_setCell_at _ (show (wb.drewN q).heap[w.heap.size]? = _ from hg0)
      rw [heap_setCell_at _ e1]
      rfl⟩
  have HWB := hide hwb
  obtain ⟨P, hP⟩ : ∃ P, 0 < k → P = l.getD (k - 1) 0 := ⟨_, fun _ => rfl⟩
  obtain ⟨V, hV⟩ : ∃ V, V = l.getD k 0 := ⟨_, rfl⟩
  obtain ⟨m, hm⟩ : ∃ m, m = eqn V (l.drop k) := ⟨_, rfl⟩
  obtain ⟨r1, r2, r3, r4, r5⟩ := run1_doc hk hV hm hP
  have hmm : m ≤ 1048576 := by have := eqn_le V (l.drop k); rw [List.length_drop] at this; omega
  have c1' : 0 < k → wb.cell? ⟨b, o + (k - 1), none⟩ = some (.int .i64 P) := fun z => by rw [hP z]; exact c1 z
  rw [← hV] at HEQ c0 c00
  rw [← hm] at HEQ
  have HC1 := hide c1'
  have c000 : (w.alloc (.cells #[.int .i64 0, .int .i64 0] 79)).cell? ⟨b, o + k, none⟩ = some (.int .i64 V) := by rw [hwb]; exact c00
  clear hwb hb0 c1 c1' hg0 hP hV hm
  have hk' : (k : Int) < (l.length : Int) := by omega
  by_cases v0 : V = 0
  · subst v0
    by_cases m11 : 11 ≤ m
    · have HR := hide (r1 rfl m11)
      clear r1 r2 r3 r4 r5
      go_enter Tryz.func67, Tryz.ntmps67
      go_wp2_with fail
      rw [HWB.out]
      refine HEQ.out.mono ?_
      rintro e w2 ⟨rfl, q, hw2⟩
      subst hw2
      go_wp2_with fail
      refine (lesser_any m 138 _).mono ?_
      rintro e w3 ⟨rfl, hw3⟩
      subst hw3
      go_wp2
      obtain ⟨hfb, hfc⟩ := HFIN.out q (18) ((min m 138 : Nat))
      obtain ⟨wf, hwf⟩ : ∃ wf, (((wb.drewN q).setCell ⟨w.heap.size, 0, none⟩ (.int .i64 (18))).setCell ⟨w.heap.size, 1, none⟩ (.int .i64 ((min m 138 : Nat)))) = wf := ⟨_, rfl⟩
      rw [hwf] at hfb hfc ⊢
      have z0 : wf.cell? ⟨w.heap.size, 0, none⟩ = some (.int .i64 (18)) := by unfold World.cell?; rw [hfc]; rfl
      have z1 : wf.cell? ⟨w.heap.size, 1, none⟩ = some (.int .i64 ((min m 138 : Nat))) := by unfold World.cell?; rw [hfc]; rfl
      refine bodyPost_ret (v := .agg #[.int .i64 (18), .int .i64 ((min m 138 : Nat))]) (by simp [results, Tryz.results67, go_sem, z0, z1]) rfl ?_
      rw [HR.out]
      exact ⟨rfl, hfb⟩
    · by_cases m3 : 3 ≤ m
      · have HR := hide (r2 rfl (by omega) m3)
        have hm11 : ¬ (11 : Int) ≤ (m : Int) := by omega
        clear r1 r2 r3 r4 r5
        go_enter Tryz.func67, Tryz.ntmps67
        go_wp2_with fail
        rw [HWB.out]
        refine HEQ.out.mono ?_
        rintro e w2 ⟨rfl, q, hw2⟩
        subst hw2
        go_wp2
        obtain ⟨hfb, hfc⟩ := HFIN.out q (17) (m)
        obtain ⟨wf, hwf⟩ : ∃ wf, (((wb.drewN q).setCell ⟨w.heap.size, 0, none⟩ (.int .i64 (17))).setCell ⟨w.heap.size, 1, none⟩ (.int .i64 (m))) = wf := ⟨_, rfl⟩
        rw [hwf] at hfb hfc ⊢
        have z0 : wf.cell? ⟨w.heap.size, 0, none⟩ = some (.int .i64 (17)) := by unfold World.cell?; rw [hfc]; rfl
        have z1 : wf.cell? ⟨w.heap.size, 1, none⟩ = some (.int .i64 (m)) := by unfold World.cell?; rw [hfc]; rfl
        refine bodyPost_ret (v := .agg #[.int .i64 (17), .int .i64 (m)]) (by simp [results, Tryz.results67, go_sem, z0, z1]) rfl ?_
        rw [HR.out]
        exact ⟨rfl, hfb⟩
      · have HR := hide (r3 rfl (by omega))
        have hm11 : ¬ (11 : Int) ≤ (m : Int) := by omega
        have hm3 : ¬ (3 : Int) ≤ (m : Int) := by omega
        clear r1 r2 r3 r4 r5
        go_enter Tryz.func67, Tryz.ntmps67
        go_wp2_with fail
        rw [HWB.out]
        refine HEQ.out.mono ?_
        rintro e w2 ⟨rfl, q, hw2⟩
        subst hw2
        go_wp2
        obtain ⟨hfb, hfc⟩ := HFIN.out q (0) (1)
        obtain ⟨wf, hwf⟩ : ∃ wf, (((wb.drewN q).setCell ⟨w.heap.size, 0, none⟩ (.int .i64 (0))).setCell ⟨w.heap.size, 1, none⟩ (.int .i64 (1))) = wf := ⟨_, rfl⟩
        rw [hwf] at hfb hfc ⊢
        have z0 : wf.cell? ⟨w.heap.size, 0, none⟩ = some (.int .i64 (0)) := by unfold World.cell?; rw [hfc]; rfl
        have z1 : wf.cell? ⟨w.heap.size, 1, none⟩ = some (.int .i64 (1)) := by unfold World.cell?; rw [hfc]; rfl
        refine bodyPost_ret (v := .agg #[.int .i64 (0), .int .i64 (1)]) (by simp [results, Tryz.results67, go_sem, z0, z1]) rfl ?_
        rw [HR.out]
        exact ⟨rfl, hfb⟩
  · have v0' : (V == 0) = false := by simpa using v0
    have v0'' : (V != 0) = true := by simpa using v0
    by_cases k0 : 0 < k
    · have k0' : (0 : Int) < (k : Int) := by omega
      have cp := HC1.out k0
      obtain ⟨j, hj⟩ : ∃ j, k = j + 1 := ⟨k - 1, by omega⟩
      have cp2 : wb.cell? ⟨b, o + j, none⟩ = some (.int .i64 P) := by rw [hj, Nat.add_sub_cancel] at cp; exact cp
      have ej : ((k : Int) - 1).toNat = j := by omega
      have hj1 : (k : Int) - 1 = (j : Int) := by omega
      have HJ := hide hj
      by_cases pv : P = V
      · by_cases m3 : 3 ≤ m
        · have HR := hide (r4 v0 k0 pv m3)
          have m3' : (3 : Int) ≤ (m : Int) := by omega
          subst pv
          clear r1 r2 r3 r4 r5 hj
          go_enter Tryz.func67, Tryz.ntmps67
          go_wp2_with fail
          rw [HWB.out]
          refine HEQ.out.mono ?_
          rintro e w2 ⟨rfl, q, hw2⟩
          subst hw2
          go_wp2_with fail
          refine (lesser_any m 6 _).mono ?_
          rintro e w3 ⟨rfl, hw3⟩
          subst hw3
          go_wp2
          obtain ⟨hfb, hfc⟩ := HFIN.out q (16) ((min m 6 : Nat))
          obtain ⟨wf, hwf⟩ : ∃ wf, (((wb.drewN q).setCell ⟨w.heap.size, 0, none⟩ (.int .i64 (16))).setCell ⟨w.heap.size, 1, none⟩ (.int .i64 ((min m 6 : Nat)))) = wf := ⟨_, rfl⟩
          rw [hwf] at hfb hfc ⊢
          have z0 : wf.cell? ⟨w.heap.size, 0, none⟩ = some (.int .i64 (16)) := by unfold World.cell?; rw [hfc]; rfl
          have z1 : wf.cell? ⟨w.heap.size, 1, none⟩ = some (.int .i64 ((min m 6 : Nat))) := by unfold World.cell?; rw [hfc]; rfl
          refine bodyPost_ret (v := .agg #[.int .i64 (16), .int .i64 ((min m 6 : Nat))]) (by simp [results, Tryz.results67, go_sem, z0, z1]) rfl ?_
          rw [HR.out]
          exact ⟨rfl, hfb⟩
        · have HR := hide (r5 v0 (fun q => m3 q.2.2))
          have m3' : ¬ (3 : Int) ≤ (m : Int) := by omega
          subst pv
          clear r1 r2 r3 r4 r5 hj
          go_enter Tryz.func67, Tryz.ntmps67
          go_wp2_with fail
          rw [HWB.out]
          refine HEQ.out.mono ?_
          rintro e w2 ⟨rfl, q, hw2⟩
          subst hw2
          go_wp2
          obtain ⟨hfb, hfc⟩ := HFIN.out q (P) (1)
          obtain ⟨wf, hwf⟩ : ∃ wf, (((wb.drewN q).setCell ⟨w.heap.size, 0, none⟩ (.int .i64 (P))).setCell ⟨w.heap.size, 1, none⟩ (.int .i64 (1))) = wf := ⟨_, rfl⟩
          rw [hwf] at hfb hfc ⊢
          have z0 : wf.cell? ⟨w.heap.size, 0, none⟩ = some (.int .i64 (P)) := by unfold World.cell?; rw [hfc]; rfl
          have z1 : wf.cell? ⟨w.heap.size, 1, none⟩ = some (.int .i64 (1)) := by unfold World.cell?; rw [hfc]; rfl
          refine bodyPost_ret (v := .agg #[.int .i64 (P), .int .i64 (1)]) (by simp [results, Tryz.results67, go_sem, z0, z1]) rfl ?_
          rw [HR.out]
          exact ⟨rfl, hfb⟩
      · have HR := hide (r5 v0 (fun q => pv q.2.1))
        have pv' : (P == V) = false := by simpa using pv
        clear r1 r2 r3 r4 r5 hj
        go_enter Tryz.func67, Tryz.ntmps67
        go_wp2_with fail
        rw [HWB.out]
        refine HEQ.out.mono ?_
        rintro e w2 ⟨rfl, q, hw2⟩
        subst hw2
        go_wp2
        obtain ⟨hfb, hfc⟩ := HFIN.out q (V) (1)
        obtain ⟨wf, hwf⟩ : ∃ wf, (((wb.drewN q).setCell ⟨w.heap.size, 0, none⟩ (.int .i64 (V))).setCell ⟨w.heap.size, 1, none⟩ (.int .i64 (1))) = wf := ⟨_, rfl⟩
        rw [hwf] at hfb hfc ⊢
        have z0 : wf.cell? ⟨w.heap.size, 0, none⟩ = some (.int .i64 (V)) := by unfold World.cell?; rw [hfc]; rfl
        have z1 : wf.cell? ⟨w.heap.size, 1, none⟩ = some (.int .i64 (1)) := by unfold World.cell?; rw [hfc]; rfl
        refine bodyPost_ret (v := .agg #[.int .i64 (V), .int .i64 (1)]) (by simp [results, Tryz.results67, go_sem, z0, z1]) rfl ?_
        rw [HR.out]
        exact ⟨rfl, hfb⟩
    · have HR := hide (r5 v0 (fun q => k0 q.1))
      have k0' : ¬ (0 : Int) < (k : Int) := by omega
      clear r1 r2 r3 r4 r5
      go_enter Tryz.func67, Tryz.ntmps67
      go_wp2_with fail
      rw [HWB.out]
      refine HEQ.out.mono ?_
      rintro e w2 ⟨rfl, q, hw2⟩
      subst hw2
      go_wp2
      obtain ⟨hfb, hfc⟩ := HFIN.out q (V) (1)
      obtain ⟨wf, hwf⟩ : ∃ wf, (((wb.drewN q).setCell ⟨w.heap.size, 0, none⟩ (.int .i64 (V))).setCell ⟨w.heap.size, 1, none⟩ (.int .i64 (1))) = wf := ⟨_, rfl⟩
      rw [hwf] at hfb hfc ⊢
      have z0 : wf.cell? ⟨w.heap.size, 0, none⟩ = some (.int .i64 (V)) := by unfold World.cell?; rw [hfc]; rfl
      have z1 : wf.cell? ⟨w.heap.size, 1, none⟩ = some (.int .i64 (1)) := by unfold World.cell?; rw [hfc]; rfl
      refine bodyPost_ret (v := .agg #[.int .i64 (V), .int .i64 (1)]) (by simp [results, Tryz.results67, go_sem, z0, z1]) rfl ?_
      rw [HR.out]
      exact ⟨rfl, hfb⟩
end Go.Proofs.YtiabhmdefaabgacGreatDoor

namespace Go.Proofs.YtiabhmdefaabgacGreatDoor
open Go.RowKit Go.Maps
set_option maxRecDepth 20000
set_option linter.unusedVariables false

theorem boxOf {w : World} {g : Nat} {a b : Value} {t : TypeId} {fr : Nat × Nat} (h : w.heap[g]? = some (.cells #[a, b] t fr)) : w.cell? ⟨g, 0, none⟩ = some a ∧ w.cell? ⟨g, 1, none⟩ = some b := by
  constructor <;> (unfold World.cell?; rw [h]; rfl)

set_option maxHeartbeats 2000000 in
theorem xruns_any (v : Value) (l : List Int) (w : World) (h : SI w v l) (hn : l.length ≤ 1048576) :
    Calls Tryz.prog 45 #[v] w fun e w' => ∃ u, e = .returned (.tuple #[u, .int .i64 (rnE l)]) ∧ OR w' w.heap.size u (rnL l) ∧ Below w.heap.size w w' := by
  have HS := hide h
  obtain ⟨ao, cap, rfl, hlc, hcm⟩ := h.open
  clear h
  go_enter Tryz.func45, Tryz.ntmps45
  go_wp2_with fail
  refine (xlengths_any _ l w HS.out).mono ?_
  rintro e w1 ⟨rfl, hw1⟩
  subst hw1
  by_cases hw : wthb l = true
  · have HE : Hid (rnE l = 0 ∧ rnL l = rns l) := ⟨by unfold rnE; rw [if_pos hw], by unfold rnL; rw [if_pos hw]⟩
    rw [hw]
    go_wp2
    go_loopw [5, 6] (fun u i wr => ∃ (k : Nat) (R : List Rn), k ≤ l.length ∧ i = .int .i64 k ∧ R.length ≤ k ∧ Hid (rns l = R ++ rnK l k) ∧ Hid (OR wr w1.heap.size u R) ∧ Hid (Below w1.heap.size w1 wr)) (fun _ i _ => l.length - (intOf i).toNat)
    case atStart => exact ⟨0, [], Nat.zero_le _, rfl, Nat.le_refl _, rfl, OR.nil _ _, Below.refl _ _⟩
    case round =>
      obtain ⟨k, R, hk, rfl, hR, HR, HO, HB⟩ := hrel
      by_cases hlt : k < l.length
      · have hlt' : (k : Int) < (l.length : Int) := by omega
        obtain ⟨c, hc, _⟩ := run1_cnt hlt
        obtain ⟨p1, hp1⟩ : ∃ p1, (run1 l k).1 = p1 := ⟨_, rfl⟩
        obtain ⟨hm1, hm2, hm3, hm4, hm5⟩ := rns_more (c := c) (p1 := p1) hlt HR.out hR (Prod.ext hp1 hc)
        have HM4 := hide hm4
        have HX := hide (xrun_any k _ l wr (HS.out.below HB.out) hlt hn)
        rw [hp1, hc] at HX
        obtain ⟨a1, q1, hu, _⟩ := HO.out.shape
        subst hu
        clear hm4 HR hp1 hc
        go_wp2_with fail
        refine HX.out.mono ?_
        rintro e w2 ⟨rfl, hb2⟩
        have hs2 : w1.heap.size ≤ w2.heap.size := Nat.le_trans HB.out.size hb2.size
        have HB2 := hide (HB.out.trans (hb2.mono HB.out.size))
        obtain ⟨wx, hwx⟩ : ∃ wx, w2.alloc (.cells #[.int .i64 p1, .int .i64 c] 79) = wx := ⟨_, rfl⟩
        have hsx : wx.heap.size = w2.heap.size + 1 := by rw [← hwx]; simp
        have HBX : Hid (Below w1.heap.size w1 wx) := by rw [← hwx]; exact hide (HB2.out.alloc hs2 _)
        have HOX : Hid (OR wx w1.heap.size (.slice a1 R.length q1) R) := by rw [← hwx]; exact hide ((HO.out.below hb2 (Nat.le_refl _)).alloc _)
        have hgx : wx.heap[w2.heap.size]? = some (.cells #[.int .i64 p1, .int .i64 c] 79 (0, 0)) := by rw [← hwx]; exact heap_alloc_new w2 _
        obtain ⟨z0, z1⟩ := boxOf hgx
        have HGX := hide hgx
        have HOL : Hid (∀ j, (Value.slice a1 R.length q1).ownBlock = some j → j < w2.heap.size) := fun j hj => by
          have := (HO.out.below hb2 (Nat.le_refl _)).lt j hj
          omega
        have HSX := hide hsx
        have hsx2 : w1.heap.size ≤ wx.heap.size := by omega
        clear hb2 HX hgx hsx
        go_wp2_with (at_builtin; refine wpRun rfl _ _ rfl w1.heap.size (.slice a1 R.length q1) R p1 (c : Int) rfl HOX.out _ rfl (by omega) hsx2 ?_)
        intro v3 w3 ho3 hg3
        have y3 : w3.heap[w2.heap.size]? = some (.cells #[.int .i64 p1, .int .i64 c] 79 (0, 0)) := by
          have e1 := hg3.block w2.heap.size (by simp; have := HSX.out; omega) (fun e => by have := HOL.out _ e.symm; omega)
          rw [e1, Below.heap_alloc wx _ _ (by have := HSX.out; omega)]
          exact HGX.out
        obtain ⟨z3, z4⟩ := boxOf y3
        have HN3 : Hid (OR w3 w1.heap.size v3 (R ++ [(p1, (c : Int))]) ∧ Below w1.heap.size w1 w3) := ⟨ho3, grow_run HBX.out (Nat.le_refl _) HOX.out hg3⟩
        clear ho3 hg3 y3 z0 z1
        go_wp2
        go_roundw
        case rel => exact ⟨k + c, _, hm1, by go_num, hm5, HM4, HN3.out.1, HN3.out.2⟩
        case measure => simp [intOf]; omega
      · obtain rfl : k = l.length := by omega
        have hlt' : ¬ (l.length : Int) < (l.length : Int) := by omega
        have HF : Hid (OR wr w1.heap.size u5 (rnL l)) := by
          have := HR.out
          rw [rnK_end (Nat.le_refl _), List.append_nil] at this
          show OR _ _ _ _
          rw [HE.out.2, this]
          exact HO.out
        go_wp2
        go_ret2
        rw [HE.out.1]
        exact ⟨_, rfl, HF.out, HB.out⟩
  · have HE : Hid (rnE l = 1 ∧ rnL l = []) := ⟨by unfold rnE; rw [if_neg hw], by unfold rnL; rw [if_neg hw]⟩
    have hw' : wthb l = false := by simpa using hw
    rw [hw']
    go_wp2
    go_ret2
    rw [HE.out.1, HE.out.2]
    exact ⟨_, rfl, OR.nil _ _, Below.refl _ _⟩

theorem xfurther_any (s : Nat) (w : World) (hs : s < 19) : Calls Tryz.prog 48 #[.int .i64 s] w fun e w' => e = .returned (.tuple #[.int .i64 (frt s : Nat), .int .i64 (lst s)]) ∧ w' = w := by
  by_cases h16 : s = 16
  · subst h16
    go_enter Tryz.func48, Tryz.ntmps48
    go_wp2
    go_ret2
    exact ⟨rfl, rfl⟩
  · by_cases h17 : s = 17
    · subst h17
      go_enter Tryz.func48, Tryz.ntmps48
      go_wp2
      go_ret2
      exact ⟨rfl, rfl⟩
    · by_cases h18 : s = 18
      · subst h18
        go_enter Tryz.func48, Tryz.ntmps48
        go_wp2
        go_ret2
        exact ⟨rfl, rfl⟩
      · have g1 : ((s : Int) == 16) = false := by simp; omega
        have g2 : ((s : Int) == 17) = false := by simp; omega
        have g3 : ((s : Int) == 18) = false := by simp; omega
        have HE : Hid (frt s = 0 ∧ lst s = 1) := by unfold frt lst; rw [if_pos (by omega), if_pos (by omega)]; exact hide ⟨rfl, rfl⟩
        go_enter Tryz.func48, Tryz.ntmps48
        go_wp2
        go_ret2
        rw [HE.out.1, HE.out.2]
        exact ⟨rfl, rfl⟩

end Go.Proofs.YtiabhmdefaabgacGreatDoor

