import Derived.Test.YtogplagiheoaiaaG10Adw
namespace Go.Proofs.Ytogplagiheoaiaa
open Go.RowKit Go.Maps
set_option maxRecDepth 20000
set_option linter.unusedVariables false

theorem vAdler_any (v : Value) (l : List Int) (w : World) (h : SB w v l) (hy : Byt l) (hr : l.length ≤ 140737488351232) :
    Calls Try.prog 9 #[v] w fun e w' => e = .returned (.int .u32 (adl l)) ∧ w' = w := by
  obtain ⟨a, c, rfl⟩ : ∃ a c, v = .slice a l.length c := by obtain ⟨a, c, h, _⟩ := h; exact ⟨a, c, h⟩
  obtain ⟨-, hc1, hc2, hao, hce⟩ := h.cells
  have HC := hide hce
  have HAO := hide hao
  have HY := hide (byt_mem hy)
  clear hao hce h hy
  obtain ⟨N, hN⟩ : ∃ N, l.length = N := ⟨_, rfl⟩
  have HN := hide hN
  rw [hN] at hc1 hr HC HAO ⊢
  clear hN
  go_enter Try.func9, Try.ntmps9
  go_wp2
  go_loop [3, 4, 5] (fun x y i => ∃ k : Nat, k ≤ N ∧ i = .int .i64 k ∧ x = .int .i64 (sA (l.take k) % 65521) ∧ y = .int .i64 (sB (l.take k) % 65521)) (fun _ _ i => N - (intOf i).toNat)
  case atStart => exact ⟨0, Nat.zero_le _, rfl, rfl, rfl⟩
  case round =>
    obtain ⟨k, hk, rfl, rfl, rfl⟩ := hrel
    by_cases hlt : k < N
    · have hlt' : (k : Int) < (N : Int) := by omega
      obtain ⟨b, o, rfl⟩ := HAO.out (by omega)
      have hc := HC.out b o rfl k hlt
      have hyy := HY.out (l.getD k 0) (by
        have : k < l.length := by have := HN.out; omega
        simp [List.getD, this])
      have HTS := hide (take_snocI l k (by have := HN.out; omega))
      obtain ⟨q, hq⟩ : ∃ q, l.getD k 0 = q := ⟨_, rfl⟩
      rw [hq] at hc hyy HTS
      have hx1 : 0 ≤ sA (l.take k) % 65521 ∧ sA (l.take k) % 65521 ≤ 65520 := by omega
      have hy1 : 0 ≤ sB (l.take k) % 65521 ∧ sB (l.take k) % 65521 ≤ 65520 := by omega
      have HNX : Hid (sA (l.take (k + 1)) % 65521 = (sA (l.take k) % 65521 + q) % 65521 ∧ sB (l.take (k + 1)) % 65521 = (sB (l.take k) % 65521 + (sA (l.take k) % 65521 + q) % 65521) % 65521) := by
        show _ ∧ _
        rw [HTS.out, sB_snoc, sA_snoc]
        omega
      obtain ⟨x, hx⟩ : ∃ x, sA (l.take k) % 65521 = x := ⟨_, rfl⟩
      obtain ⟨y, hy⟩ : ∃ x, sB (l.take k) % 65521 = x := ⟨_, rfl⟩
      rw [hx] at hx1
      rw [hy] at hy1
      rw [hx, hy] at HNX ⊢
      obtain ⟨y1, y2⟩ := hyy
      obtain ⟨x1, x2⟩ := hx1
      obtain ⟨z1, z2⟩ := hy1
      clear HTS hq hx hy
      go_wp2
      go_round
      case rel => exact ⟨k + 1, by omega, by go_num, by rw [HNX.out.1], by rw [HNX.out.2]⟩
      case measure => simp [intOf]; omega
    · obtain rfl : k = N := by omega
      have hlt' : ¬ (k : Int) < (k : Int) := by omega
      rw [List.take_of_length_le (by have := HN.out; omega)]
      have HAL : Hid (sB l % 65521 * 65536 + sA l % 65521 = adl l) := rfl
      have f1 : 0 ≤ sA l % 65521 ∧ sA l % 65521 ≤ 65520 := by omega
      have f2 : 0 ≤ sB l % 65521 ∧ sB l % 65521 ≤ 65520 := by omega
      obtain ⟨x, hx⟩ : ∃ x, sA l % 65521 = x := ⟨_, rfl⟩
      obtain ⟨y, hy⟩ : ∃ y, sB l % 65521 = y := ⟨_, rfl⟩
      rw [hx] at f1
      rw [hy] at f2
      rw [hx, hy] at HAL ⊢
      obtain ⟨x1, x2⟩ := f1
      obtain ⟨z1, z2⟩ := f2
      clear hx hy
      go_wp2
      go_ret
      exact ⟨by rw [← HAL.out]; first | rfl | (congr 2; omega), rfl⟩
end Go.Proofs.Ytogplagiheoaiaa

