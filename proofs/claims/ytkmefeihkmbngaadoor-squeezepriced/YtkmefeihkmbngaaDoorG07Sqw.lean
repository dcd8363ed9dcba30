import Derived.Test.YtkmefeihkmbngaaDoorG06Sqn
import Derived.BigQuiet
namespace Go.Proofs.YtkmefeihkmbngaaDoor
open Go.RowKit Go.Maps
set_option maxRecDepth 20000
set_option linter.unusedVariables false

theorem within_any (v : Value) (l : List Int) (w : World) (h : SI w v l) : Calls Tryd.prog 25 #[v] w fun e w' => e = .returned (.bool (l.all okp)) ∧ w' = w := by
  have HS := hide h
  obtain ⟨ao, cap, rfl, hlc, hcm⟩ := h.open
  clear h
  have HB0 : Hid (Below w.heap.size w w) := Below.refl _ _
  go_enter Tryd.func25, Tryd.ntmps25
  go_wp2
  go_loopw [7] (fun i wr => ∃ k : Nat, k ≤ l.length ∧ i = .int .i64 (k : Int) ∧ wr = w ∧ Hid ((l.take k).all okp = true)) (fun i _ => l.length - (intOf i).toNat)
  case atStart => exact ⟨0, Nat.zero_le _, rfl, rfl, rfl⟩
  case round =>
    obtain ⟨k, hk, rfl, hw, HA⟩ := hrel
    subst hw
    by_cases hlt : k < l.length
    · have hlt' : (k : Int) < (l.length : Int) := by omega
      obtain ⟨b, o, rfl, hc⟩ := HS.out.get HB0.out hlt
      have HN := hide (all_take_snoc hlt)
      have HBad := hide (fun h => all_bad hlt h)
      obtain ⟨y, HY⟩ : ∃ y, Hid (l.getD k 0 = y) := ⟨_, rfl⟩
      rw [HY.out] at hc HN HBad
      by_cases h1 : y < 1
      · have HF : Hid (l.all okp = false) := HBad.out (by unfold okp; exact decide_eq_false (by omega))
        clear HBad HN HY
        go_wp2
        go_ret
        rw [HF.out]
        exact ⟨rfl, rfl⟩
      · have h1' : ¬ y < 1 := h1
        by_cases h2 : 65536 < y
        · have HF : Hid (l.all okp = false) := HBad.out (by unfold okp; exact decide_eq_false (by omega))
          clear HBad HN HY
          go_wp2
          go_ret
          rw [HF.out]
          exact ⟨rfl, rfl⟩
        · have HT : Hid ((l.take (k + 1)).all okp = true) := by
            show _ = _
            rw [HN.out, HA.out]
            unfold okp
            simp only [Bool.true_and]
            exact decide_eq_true ⟨by omega, by omega⟩
          clear HBad HN HY
          go_wp2
          go_roundw
          case rel => exact ⟨k + 1, by omega, by go_num, trivial, HT⟩
          case measure => simp [intOf]; omega
    · obtain rfl : k = l.length := by omega
      have hlt' : ¬ (l.length : Int) < (l.length : Int) := by omega
      have HF : Hid (l.all okp = true) := by have := HA.out; rwa [List.take_of_length_le (Nat.le_refl _)] at this
      go_wp2
      go_ret
      rw [HF.out]
      exact ⟨rfl, rfl⟩

theorem mayBe_any (vl vd : Value) (L D : List Int) (w : World) (h1 : SI w vl L) (h2 : SI w vd D) : Calls Tryd.prog 14 #[.agg #[vl, vd]] w fun e w' => e = .returned (.bool (okP L 286 && okP D 30)) ∧ Below w.heap.size w w' := by
  obtain ⟨wb, hwb⟩ : ∃ wb, w.alloc (.cells #[vl, vd] 41) = wb := ⟨_, rfl⟩
  have HB : Hid (Below w.heap.size w wb) := by show Below _ _ _; rw [← hwb]; exact (Below.refl _ _).alloc (Nat.le_refl _) _
  have HW1 := hide (within_any vl L wb (h1.below HB.out))
  have HW2 := hide (within_any vd D wb (h2.below HB.out))
  obtain ⟨a1, c1, rfl, _, _⟩ := h1.open
  obtain ⟨a2, c2, rfl, _, _⟩ := h2.open
  have d1 : wb.cell? ⟨w.heap.size, 0, none⟩ = some (.slice a1 L.length c1) := by rw [← hwb]; unfold World.cell?; simp only [heap_alloc_new]; rfl
  have d2 : wb.cell? ⟨w.heap.size, 1, none⟩ = some (.slice a2 D.length c2) := by rw [← hwb]; unfold World.cell?; simp only [heap_alloc_new]; rfl
  clear h1 h2
  by_cases e1 : L.length = 286
  · by_cases e2 : D.length = 30
    · have HV : Hid ((okP L 286 && okP D 30) = (L.all okp && D.all okp)) := by show _ = _; unfold okP; rw [decide_eq_true e1, decide_eq_true e2]; simp
      have g1 : ((L.length : Int) == 286) = true := by simp; omega
      have g2 : ((D.length : Int) == 30) = true := by simp; omega
      rw [HV.out]
      clear HV e1 e2
      cases hb1 : L.all okp with
      | false =>
        rw [hb1] at HW1
        go_enter Tryd.func14, Tryd.ntmps14
        go_wp2_with fail
        refine HW1.out.mono ?_
        rintro e w1 ⟨rfl, hw1⟩
        subst hw1
        go_wp2
        go_ret
        exact ⟨rfl, HB.out⟩
      | true =>
        rw [hb1] at HW1
        obtain ⟨B, hB⟩ : ∃ B, D.all okp = B := ⟨_, rfl⟩
        rw [hB] at HW2 ⊢
        go_enter Tryd.func14, Tryd.ntmps14
        go_wp2_with fail
        refine HW1.out.mono ?_
        rintro e w1 ⟨rfl, hw1⟩
        subst hw1
        go_wp2_with fail
        refine HW2.out.mono ?_
        rintro e w1 ⟨rfl, hw1⟩
        subst hw1
        go_wp2
        go_ret
        exact ⟨rfl, HB.out⟩
    · have HV : Hid ((okP L 286 && okP D 30) = false) := by show _ = _; unfold okP; rw [decide_eq_false e2]; simp
      have g1 : ((L.length : Int) == 286) = true := by simp; omega
      have g2 : ((D.length : Int) == 30) = false := by simp; omega
      rw [HV.out]
      clear HV e1 e2
      go_enter Tryd.func14, Tryd.ntmps14
      go_wp2
      go_ret
      exact ⟨rfl, HB.out⟩
  · have HV : Hid ((okP L 286 && okP D 30) = false) := by show _ = _; unfold okP; rw [decide_eq_false e1]; simp
    have g1 : ((L.length : Int) == 286) = false := by simp; omega
    rw [HV.out]
    clear HV e1
    go_enter Tryd.func14, Tryd.ntmps14
    go_wp2
    go_ret
    exact ⟨rfl, HB.out⟩

theorem qcost_any (vf vl : Value) (F L : List Int) (n m : Nat) (w : World) (h1 : SI w vf F) (h2 : SI w vl L) (hF : F.length = n) (hL : okP L n = true) (bF : Bd F m) (hm : m ≤ 16777217) (hn : n ≤ 286) :
    Calls Tryd.prog 17 #[vf, vl] w fun e w' => e = .returned (.int .i64 (dot F L)) ∧ w' = w := by
  have HF := hide h1
  have HL := hide h2
  have HLL := hide (okP_parts hL).1
  have HBD := hide (dot_bd bF hL hF)
  have HAT := hide (fun k (hk : k < n) => mul_bd (bF k) (okP_at hL hk))
  have HST := hide (fun k (hk : k < F.length) => dot_take (L := L) hk (by rw [HLL.out, hF]))
  obtain ⟨a1, c1, rfl, _, _⟩ := h1.open
  obtain ⟨a2, c2, rfl, _, _⟩ := h2.open
  have HB0 : Hid (Below w.heap.size w w) := Below.refl _ _
  clear h1 h2 hL bF
  go_enter Tryd.func17, Tryd.ntmps17
  go_wp2
  go_loopw [10, 5] (fun i s wr => ∃ k : Nat, k ≤ n ∧ i = .int .i64 (k : Int) ∧ s = .int .i64 (dot (F.take k) (L.take k)) ∧ wr = w) (fun i s _ => n - (intOf i).toNat)
  case atStart => exact ⟨0, Nat.zero_le _, rfl, by simp [dot_nil], rfl⟩
  case round =>
    obtain ⟨k, hk, rfl, rfl, hw⟩ := hrel
    subst hw
    by_cases hlt : k < n
    · have hlt' : (k : Int) < (F.length : Int) := by omega
      have hlt2 : (k : Int) < (L.length : Int) := by have := HLL.out; omega
      obtain ⟨b, o, rfl, hc⟩ := HF.out.get HB0.out (show k < F.length by omega)
      obtain ⟨b2, o2, rfl, hc2⟩ := HL.out.get HB0.out (show k < L.length by have := HLL.out; omega)
      have q1 := HBD.out k (by omega)
      have q2 := HAT.out k hlt
      have HS := hide (HST.out k (by omega))
      obtain ⟨x, hx⟩ : ∃ x, F.getD k 0 = x := ⟨_, rfl⟩
      obtain ⟨y, hy⟩ : ∃ x, L.getD k 0 = x := ⟨_, rfl⟩
      obtain ⟨s, hs⟩ : ∃ s, dot (F.take k) (L.take k) = s := ⟨_, rfl⟩
      rw [hx, hy, hs] at HS
      rw [hx, hy] at q2
      rw [hs] at q1 ⊢
      rw [hx] at hc
      rw [hy] at hc2
      have b1 : (k : Int) * ((m : Int) * 65536) ≤ 286 * (16777217 * 65536) := Int.mul_le_mul (by omega) (by omega) (by omega) (by omega)
      have b2 : (m : Int) * 65536 ≤ 16777217 * 65536 := by omega
      obtain ⟨p, hp⟩ : ∃ p, x * y = p := ⟨_, rfl⟩
      have hw1 : wrap64 (x * y) = p := by rw [hp]; unfold wrap64; rw [hp] at q2; omega
      have hw2 : wrap64 (s + p) = s + p := by unfold wrap64; rw [hp] at q2; omega
      rw [hp] at HS
      clear hx hy hs hp q1 q2 b1 b2
      go_wp2
      go_roundw
      case rel => exact ⟨k + 1, by omega, by go_num, by rw [HS.out, hw2], trivial⟩
      case measure => simp [intOf]; omega
    · obtain rfl : k = n := by omega
      have hlt' : ¬ (k : Int) < (F.length : Int) := by omega
      have HE := hide (dot_all hF HLL.out)
      go_wp2
      go_ret
      rw [HE.out]
      exact ⟨rfl, rfl⟩

theorem unlike_any (x : Int) (w : World) : Calls Tryd.prog 16 #[.int .i64 x] w fun e w' => e = .returned (.int .i64 (if x = 100 then 211 else x)) ∧ w' = w := by
  by_cases h : x = 100
  · rw [if_pos h]
    have h' : (x == 100) = true := by simpa using h
    clear h
    go_enter Tryd.func16, Tryd.ntmps16
    go_wp2
    go_ret
    exact ⟨rfl, rfl⟩
  · rw [if_neg h]
    have h' : (x == 100) = false := by simpa using h
    clear h
    go_enter Tryd.func16, Tryd.ntmps16
    go_wp2
    go_ret
    exact ⟨rfl, rfl⟩
end Go.Proofs.YtkmefeihkmbngaaDoor

