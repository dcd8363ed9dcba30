import Derived.Test.YtjjepgkcgbbmhaaDoorGEvn
namespace Go.Proofs.YtjjepgkcgbbmhaaDoor
open Go.RowKit
set_option maxRecDepth 20000
set_option linter.unusedVariables false
set_option linter.unusedSimpArgs false

theorem erl_step {a b : Stp} {k : Nat} (hk : k < 6) : erl a b (6 - k) = if fAt a k ≠ fAt b k then decide (fAt a k < fAt b k) else erl a b (6 - (k + 1)) := by
  obtain ⟨m, hm⟩ : ∃ m, 6 - k = m + 1 := ⟨5 - k, by omega⟩
  have e1 : 5 - m = k := by omega
  have e2 : 6 - (k + 1) = m := by omega
  rw [hm, erl, e1, e2]

set_option maxHeartbeats 4000000 in
theorem earlier_any (a b : Stp) (w : World) : Calls Tryd.prog 8 #[a.v, b.v] w fun e w' => e = .returned (.bool (erl a b 6)) ∧ Below w.heap.size w w' := by
  have HFA : Hid (∀ k, k < 6 → #[Value.int .i64 a.y, .int .i64 a.mo, .int .i64 a.d, .int .i64 a.h, .int .i64 a.mi, .int .i64 a.s][k]? = some (.int .i64 (fAt a k))) := fun k hk => by
    obtain rfl | rfl | rfl | rfl | rfl | rfl : k = 0 ∨ k = 1 ∨ k = 2 ∨ k = 3 ∨ k = 4 ∨ k = 5 := by omega
    all_goals rfl
  have HFB : Hid (∀ k, k < 6 → #[Value.int .i64 b.y, .int .i64 b.mo, .int .i64 b.d, .int .i64 b.h, .int .i64 b.mi, .int .i64 b.s][k]? = some (.int .i64 (fAt b k))) := fun k hk => by
    obtain rfl | rfl | rfl | rfl | rfl | rfl : k = 0 ∨ k = 1 ∨ k = 2 ∨ k = 3 ∨ k = 4 ∨ k = 5 := by omega
    all_goals rfl
  have HST : Hid (∀ k, k < 6 → erl a b (6 - k) = if fAt a k ≠ fAt b k then decide (fAt a k < fAt b k) else erl a b (6 - (k + 1))) := fun k hk => erl_step hk
  obtain ⟨fa, hfa⟩ : ∃ f, f = fAt a := ⟨_, rfl⟩
  obtain ⟨fb, hfb⟩ : ∃ f, f = fAt b := ⟨_, rfl⟩
  obtain ⟨er, her⟩ : ∃ f, f = erl a b := ⟨_, rfl⟩
  rw [← hfa] at HFA HST
  rw [← hfb] at HFB HST
  rw [← her] at HST ⊢
  have HE0 : Hid (er 0 = false) := by rw [her]; rfl
  clear hfa hfb her
  obtain ⟨a0, a1, a2, a3, a4, a5⟩ := a
  obtain ⟨b0, b1, b2, b3, b4, b5⟩ := b
  simp only at HFA HFB
  simp only [Stp.v, Stp.cs]
  obtain ⟨w1, hw1⟩ : ∃ x, w.alloc (.cells #[.int .i64 a0, .int .i64 a1, .int .i64 a2, .int .i64 a3, .int .i64 a4, .int .i64 a5] 23) = x := ⟨_, rfl⟩
  have s1 : w1.heap.size = w.heap.size + 1 := by rw [← hw1]; exact size_alloc' _ _
  obtain ⟨w2, hw2⟩ : ∃ x, w1.alloc (.cells #[.int .i64 b0, .int .i64 b1, .int .i64 b2, .int .i64 b3, .int .i64 b4, .int .i64 b5] 23) = x := ⟨_, rfl⟩
  have s2 : w2.heap.size = w.heap.size + 1 + 1 := by rw [← hw2, size_alloc', s1]
  obtain ⟨w3, hw3⟩ : ∃ x, w2.alloc (.cells #[.int .i64 a0, .int .i64 a1, .int .i64 a2, .int .i64 a3, .int .i64 a4, .int .i64 a5] 38) = x := ⟨_, rfl⟩
  have s3 : w3.heap.size = w.heap.size + 1 + 1 + 1 := by rw [← hw3, size_alloc', s2]
  obtain ⟨w4, hw4⟩ : ∃ x, w3.alloc (.cells #[.int .i64 b0, .int .i64 b1, .int .i64 b2, .int .i64 b3, .int .i64 b4, .int .i64 b5] 38) = x := ⟨_, rfl⟩
  have n1 : w1.heap[w.heap.size]? = some (.cells #[.int .i64 a0, .int .i64 a1, .int .i64 a2, .int .i64 a3, .int .i64 a4, .int .i64 a5] 23 (0, 0)) := by rw [← hw1]; exact heap_alloc_new _ _
  have n2 : w2.heap[w.heap.size]? = some (.cells #[.int .i64 a0, .int .i64 a1, .int .i64 a2, .int .i64 a3, .int .i64 a4, .int .i64 a5] 23 (0, 0)) := by rw [← hw2]; exact (Below.heap_alloc _ _ _ (by omega)).trans n1
  have m2 : w2.heap[w1.heap.size]? = some (.cells #[.int .i64 b0, .int .i64 b1, .int .i64 b2, .int .i64 b3, .int .i64 b4, .int .i64 b5] 23 (0, 0)) := by rw [← hw2]; exact heap_alloc_new _ _
  have m3 : w3.heap[w1.heap.size]? = some (.cells #[.int .i64 b0, .int .i64 b1, .int .i64 b2, .int .i64 b3, .int .i64 b4, .int .i64 b5] 23 (0, 0)) := by rw [← hw3]; exact (Below.heap_alloc _ _ _ (by omega)).trans m2
  have p3 : w3.heap[w2.heap.size]? = some (.cells #[.int .i64 a0, .int .i64 a1, .int .i64 a2, .int .i64 a3, .int .i64 a4, .int .i64 a5] 38 (0, 0)) := by rw [← hw3]; exact heap_alloc_new _ _
  have p4 : w4.heap[w2.heap.size]? = some (.cells #[.int .i64 a0, .int .i64 a1, .int .i64 a2, .int .i64 a3, .int .i64 a4, .int .i64 a5] 38 (0, 0)) := by rw [← hw4]; exact (Below.heap_alloc _ _ _ (by omega)).trans p3
  have q4 : w4.heap[w3.heap.size]? = some (.cells #[.int .i64 b0, .int .i64 b1, .int .i64 b2, .int .i64 b3, .int .i64 b4, .int .i64 b5] 38 (0, 0)) := by rw [← hw4]; exact heap_alloc_new _ _
  have HB4 : Hid (Below w.heap.size w w4) := by
    rw [← hw4, ← hw3, ← hw2, ← hw1]
    exact ((((Below.refl _ _).alloc (Nat.le_refl _) _).alloc (by rw [size_alloc']; omega) _).alloc (by rw [size_alloc', size_alloc']; omega) _).alloc (by rw [size_alloc', size_alloc', size_alloc']; omega) _
  have HPA : Hid (∀ k, k < 6 → w4.cell? ⟨w2.heap.size, k, none⟩ = some (.int .i64 (fa k))) := fun k hk => (box_cells p4 k).trans (HFA.out k hk)
  have HPB : Hid (∀ k, k < 6 → w4.cell? ⟨w3.heap.size, k, none⟩ = some (.int .i64 (fb k))) := fun k hk => (box_cells q4 k).trans (HFB.out k hk)
  obtain ⟨c0, c1, c2, c3, c4, c5⟩ := box6 n2
  obtain ⟨d0, d1, d2, d3, d4, d5⟩ := box6 m3
  clear n1 n2 m2 m3 p3 p4 q4 s1 s2 s3 HFA HFB
  go_enter Tryd.func8, Tryd.ntmps8
  go_wp2
  clear c0 c1 c2 c3 c4 c5 d0 d1 d2 d3 d4 d5 hw1 hw2 hw3 hw4
  go_loopw [7] (fun i wr => ∃ k n : Nat, k ≤ 6 ∧ i = .int .i64 k ∧ wr = w4.drewN n ∧ Hid (er 6 = er (6 - k))) (fun i _ => 6 - (intOf i).toNat)
  case atStart => exact ⟨0, 0, Nat.zero_le _, rfl, rfl, rfl⟩
  case round =>
    obtain ⟨k, n, hk, rfl, rfl, HT⟩ := hrel
    by_cases hlt : k < 6
    · have hlt' : (k : Int) < 6 := by omega
      have hca := HPA.out k hlt
      have hcb := HPB.out k hlt
      have hst := HST.out k hlt
      obtain ⟨x, hx⟩ : ∃ x, x = fa k := ⟨_, rfl⟩
      obtain ⟨y, hy⟩ : ∃ y, y = fb k := ⟨_, rfl⟩
      rw [← hx] at hca hst
      rw [← hy] at hcb hst
      have HSS := hide hst
      clear hst hx hy
      by_cases hxy : x = y
      · subst hxy
        have HN : Hid (er 6 = er (6 - (k + 1))) := by show _ = _; rw [HT.out, HSS.out, if_neg (by simp)]
        go_wp2
        go_quiet (fail)
        go_wp2
        go_roundw
        case rel => exact ⟨k + 1, _, by omega, by go_num, rfl, HN.out⟩
        case measure => simp [intOf]; omega
      · have hne : (x != y) = true := by simpa using hxy
        have HN : Hid (er 6 = decide (x < y)) := by show _ = _; rw [HT.out, HSS.out, if_pos hxy]
        go_wp2
        go_quiet (fail)
        go_wp2
        go_quiet (fail)
        go_wp2
        go_ret
        rw [HN.out]
        exact ⟨rfl, by (try simp only [World.drewN_drewN]); exact below_drewN HB4.out _⟩
    · obtain rfl : k = 6 := by omega
      go_wp2
      go_ret
      rw [HT.out, HE0.out]
      exact ⟨rfl, below_drewN HB4.out _⟩
end Go.Proofs.YtjjepgkcgbbmhaaDoor

