import Derived.Test.YtdpfjfkknimlfaaDoorGStj
namespace Go.Proofs.YtdpfjfkknimlfaaDoor
open Go.RowKit Go.Maps
set_option maxRecDepth 20000
set_option linter.unusedVariables false
set_option linter.unusedSimpArgs false

/-- Numbers of tokens. -/
def Fwt (f : Nat → Int) : Prop := ∀ i, i ≠ 1 → 0 ≤ f i ∧ f i ≤ 16777216

theorem mul_in {a b : Int} (ha : 0 ≤ a ∧ a ≤ 16777216) (hb : 0 ≤ b ∧ b ≤ 16777216) : 0 ≤ a * b ∧ a * b ≤ 281474976710656 := by
  refine ⟨Int.mul_nonneg ha.1 hb.1, ?_⟩
  have h1 : a * b ≤ 16777216 * b := Int.mul_le_mul_of_nonneg_right ha.2 hb.1
  omega

def aps (f g : Nat → Int) (k : Nat) : Int := ((List.range k).map fun i => mg (g 0 * f (2 + i) - f 0 * g (2 + i))).sum

theorem aps_succ (f g : Nat → Int) (k : Nat) : aps f g (k + 1) = aps f g k + mg (g 0 * f (2 + k) - f 0 * g (2 + k)) := by
  simp [aps, List.range_succ]

theorem aps_in {f g : Nat → Int} (hf : Fwt f) (hg : Fwt g) (k : Nat) : 0 ≤ aps f g k ∧ aps f g k ≤ 281474976710656 * k := by
  induction k with
  | zero => simp [aps]
  | succ k ih =>
    rw [aps_succ]
    have h1 := mul_in (hg 0 (by omega)) (hf (2 + k) (by omega))
    have h2 := mul_in (hf 0 (by omega)) (hg (2 + k) (by omega))
    unfold mg
    omega

/-- The two boxes. -/
structure Hbx (w : World) (f g : Nat → Int) (wr : World) : Prop where
  one : wr.heap[w.heap.size]? = some (.cells (a10 f) 40 (0, 0))
  two : wr.heap[w.heap.size + 1]? = some (.cells (a10 g) 40 (0, 0))
  bel : Below w.heap.size w wr

theorem hbx_start (w : World) (f g : Nat → Int) : Hbx w f g ((w.alloc (.cells (a10 f) 40 (0, 0))).alloc (.cells (a10 g) 40 (0, 0))) := by
  have h2 := heap_two w (.cells (a10 f) 40 (0, 0)) (.cells (a10 g) 40 (0, 0))
  exact ⟨h2.2, h2.1, ((Below.refl _ _).alloc (Nat.le_refl _) _).alloc (by simp) _⟩

theorem Hbx.drewN {w wr : World} {f g : Nat → Int} (h : Hbx w f g wr) (n : Nat) : Hbx w f g (wr.drewN n) := ⟨h.one, h.two, below_drewN h.bel n⟩

theorem Hbx.at1 {w wr : World} {f g : Nat → Int} (h : Hbx w f g wr) {n : Nat} (hn : n < 10) : wr.cell? ⟨w.heap.size, n, none⟩ = some (.int .i64 (f n)) := by
  rw [cell_of_row _ _ _ _ _ _ h.one, a10_get f hn]

theorem Hbx.at2 {w wr : World} {f g : Nat → Int} (h : Hbx w f g wr) {n : Nat} (hn : n < 10) : wr.cell? ⟨w.heap.size + 1, n, none⟩ = some (.int .i64 (g n)) := by
  rw [cell_of_row _ _ _ _ _ _ h.two, a10_get g hn]

set_option maxHeartbeats 1000000 in
theorem changes_any (f g : Nat → Int) (w : World) (hf : Fwt f) (hg : Fwt g) :
    Calls Tryd.prog 26 #[.agg (a10 f), .agg (a10 g)] w fun e w' => e = .returned (.bool (decide (g 0 * f 0 ≤ 2 * aps f g 8))) ∧ Below w.heap.size w w' := by
  have HF := hide hf
  have HG := hide hg
  obtain ⟨w3, hw3⟩ : ∃ w3, (w.alloc (.cells (a10 f) 40)).alloc (.cells (a10 g) 40) = w3 := ⟨_, rfl⟩
  have HJ3 : Hid (Hbx w f g w3) := by rw [← hw3]; exact hbx_start w f g
  have d2 := HJ3.out.at2 (n := 2) (by omega)
  have d3 := HJ3.out.at2 (n := 3) (by omega)
  have d4 := HJ3.out.at2 (n := 4) (by omega)
  have d5 := HJ3.out.at2 (n := 5) (by omega)
  have d6 := HJ3.out.at2 (n := 6) (by omega)
  have d7 := HJ3.out.at2 (n := 7) (by omega)
  have d8 := HJ3.out.at2 (n := 8) (by omega)
  have d9 := HJ3.out.at2 (n := 9) (by omega)
  have x0 := HJ3.out.at1 (n := 0) (by omega)
  have y0 := HJ3.out.at2 (n := 0) (by omega)
  clear hf hg
  go_enter Tryd.func26, Tryd.ntmps26
  go_wp2
  go_loopw [5, 11] (fun s i wr => ∃ k n : Nat, k ≤ 8 ∧ i = .int .i64 k ∧ s = .int .i64 (aps f g k) ∧ wr = w3.drewN n) (fun _ i _ => 8 - (intOf i).toNat)
  case atStart => exact ⟨0, 0, by omega, rfl, rfl, rfl⟩
  case round =>
    obtain ⟨k, n, hk, rfl, rfl, rfl⟩ := hrel
    by_cases hlt : k < 8
    · have hlt' : (k : Int) < 8 := by omega
      have hri := fun W => run_index8 (fun i => g (i + 2)) hlt W
      have u0 := HJ3.out.at1 (n := 2 + k) (by omega)
      have e2 : g (k + 2) = g (2 + k) := by rw [Nat.add_comm]
      have e8 : a8 (fun i => g (i + 2)) = #[.int .i64 (g 2), .int .i64 (g 3), .int .i64 (g 4), .int .i64 (g 5), .int .i64 (g 6), .int .i64 (g 7), .int .i64 (g 8), .int .i64 (g 9)] := rfl
      simp only [e2, e8] at hri
      have m1 := mul_in (HG.out 0 (by omega)) (HF.out (2 + k) (by omega))
      have m2 := mul_in (HF.out 0 (by omega)) (HG.out (2 + k) (by omega))
      have HS := hide (aps_succ f g k)
      have ha := aps_in HF.out HG.out k
      have ha2 : aps f g k ≤ 281474976710656 * 8 := by omega
      obtain ⟨P1, hP1⟩ : ∃ P, g 0 * f (2 + k) = P := ⟨_, rfl⟩
      obtain ⟨P2, hP2⟩ : ∃ P, f 0 * g (2 + k) = P := ⟨_, rfl⟩
      obtain ⟨A, hA⟩ : ∃ P, aps f g k = P := ⟨_, rfl⟩
      rw [hP1] at m1 HS
      rw [hP2] at m2 HS
      rw [hA] at HS ha ha2 ⊢
      obtain ⟨p, hp⟩ : ∃ p, f (2 + k) = p := ⟨_, rfl⟩
      obtain ⟨q, hq⟩ : ∃ p, g (2 + k) = p := ⟨_, rfl⟩
      obtain ⟨p0, hp0⟩ : ∃ p, f 0 = p := ⟨_, rfl⟩
      obtain ⟨q0, hq0⟩ : ∃ p, g 0 = p := ⟨_, rfl⟩
      rw [hp] at u0 hP1
      rw [hq] at hri hP2
      rw [hp0] at x0 hP2
      rw [hq0] at y0 hP1
      have v1 : wrap64 (q0 * p) = P1 := by rw [hP1]; unfold wrap64; omega
      have v2 : wrap64 (p0 * q) = P2 := by rw [hP2]; unfold wrap64; omega
      have v3 : wrap64 (P1 - P2) = P1 - P2 := by unfold wrap64; omega
      have v4 : wrap64 (-(P1 - P2)) = -(P1 - P2) := by unfold wrap64; omega
      have ha0 := ha.1
      have w1 : wrap64 P1 = P1 := by unfold wrap64; omega
      have w2 : wrap64 P2 = P2 := by unfold wrap64; omega
      clear hp hq hp0 hq0 hA e2 e8 ha
      by_cases hd : P2 ≤ P1
      · have HM : Hid (aps f g (k + 1) = A + (P1 - P2)) := by show _ = _; rw [HS.out]; unfold mg; omega
        have v5 : wrap64 (A + (P1 - P2)) = A + (P1 - P2) := by unfold wrap64; omega
        have v6 : max (P1 - P2) (-(P1 - P2)) = P1 - P2 := by omega
        have v7 : ¬ (P1 - P2 < -(P1 - P2)) := by omega
        have v8 : -(P1 - P2) ≤ P1 - P2 := by omega
        clear m1 m2
        go_wp2
        go_quiet (fail)
        go_wp2
        go_roundw
        case rel => exact ⟨k + 1, _, by omega, by go_num, by rw [HM.out, v5], rfl⟩
        case measure => simp [intOf]; omega
      · have HM : Hid (aps f g (k + 1) = A + -(P1 - P2)) := by show _ = _; rw [HS.out]; unfold mg; omega
        have v5 : wrap64 (A + -(P1 - P2)) = A + -(P1 - P2) := by unfold wrap64; omega
        have v6 : max (P1 - P2) (-(P1 - P2)) = -(P1 - P2) := by omega
        have v7 : P1 - P2 < -(P1 - P2) := by omega
        have v8 : ¬ -(P1 - P2) ≤ P1 - P2 := by omega
        clear m1 m2
        go_wp2
        go_quiet (fail)
        go_wp2
        go_roundw
        case rel => exact ⟨k + 1, _, by omega, by go_num, by rw [HM.out, v5], rfl⟩
        case measure => simp [intOf]; omega
    · obtain rfl : k = 8 := by omega
      have ha := aps_in HF.out HG.out 8
      have m1 := mul_in (HG.out 0 (by omega)) (HF.out 0 (by omega))
      have HB := hide (below_drewN HJ3.out.bel n)
      have v1 : wrap64 (g 0 * f 0) = g 0 * f 0 := by unfold wrap64; omega
      have v2 : wrap64 (2 * aps f g 8) = 2 * aps f g 8 := by unfold wrap64; omega
      clear m1 ha
      go_wp2
      go_ret
      exact ⟨rfl, HB.out⟩
end Go.Proofs.YtdpfjfkknimlfaaDoor

