import Derived.Test.YtjmjjjpanioifaaGEnf
namespace Go.Proofs.Ytjmjjjpanioifaa
open Go.RowKit Go.Maps
set_option maxRecDepth 20000
set_option linter.unusedVariables false
set_option linter.unusedSimpArgs false

set_option maxHeartbeats 4000000 in
theorem findEnd_any (v : Value) (d : List Int) (w : World) (h : SB w v d) (hB : Byt d) (hd : d.length ≤ 140737488351232) :
    Calls Try.prog 17 #[v] w fun e w' => ∃ P E, e = .returned (.tuple #[.int .i64 P, .int .i64 E]) ∧ IsEnd d P E ∧ Below w.heap.size w w' := by
  have HS := hide h
  obtain ⟨ao, cap, rfl, q1, q2, q3⟩ := h.open11
  have HBy := hide hB
  clear h q3 hB
  by_cases hbig : (16777216 : Int) < (d.length : Int)
  · go_enter Try.func17, Try.ntmps17
    go_wp2
    go_ret2
    exact ⟨0, 1, rfl, .inl ⟨by omega, rfl, rfl⟩, Below.refl _ _⟩
  have hl : d.length ≤ 16777216 := by omega
  go_enter Try.func17, Try.ntmps17
  go_wp2
  go_loopw [5] (fun i wr => ∃ p : Int, i = .int .i64 p ∧ -23 ≤ p ∧ p ≤ (d.length : Int) - 22 ∧ Hid (∀ q : Int, p < q → 0 ≤ q → q ≤ (d.length : Int) - 22 → ¬ okEnd d q) ∧ Hid (Below w.heap.size w wr)) (fun i _ => (intOf i + 100).toNat)
  case atStart => exact ⟨(d.length : Int) - 22, by go_num, by omega, by omega, fun q h1 h2 h3 => absurd h1 (by omega), Below.refl _ _⟩
  case round =>
    obtain ⟨p, rfl, hp0, hp1, HI, HBr⟩ := hrel
    by_cases h0 : 0 ≤ p
    case neg =>
      go_wp2
      go_ret2
      exact ⟨0, 130, rfl, .inr (.inr ⟨hl, rfl, rfl, fun q k0 k1 k2 => HI.out q (by omega) k0 k2⟩), HBr.out⟩
    by_cases h1 : (d.length : Int) - 22 - 65535 ≤ p
    case neg =>
      go_wp2
      go_ret2
      exact ⟨0, 130, rfl, .inr (.inr ⟨hl, rfl, rfl, fun q k0 k1 k2 => HI.out q (by omega) k0 k2⟩), HBr.out⟩
    obtain ⟨n, rfl⟩ : ∃ n : Nat, p = n := ⟨p.toNat, by omega⟩
    go_wp2_with fail
    refine (endsFile_any _ d n _ (SB.below HS.out HBr.out) HBy.out hl (by omega)).mono ?_
    rintro e w1 ⟨rfl, hb⟩
    have HB1 := hide (HBr.out.trans (hb.mono HBr.out.size))
    clear hb
    by_cases hk : okEnd d n
    · rw [decide_eq_true hk]
      have HK := hide hk
      clear hk
      go_wp2
      go_ret2
      exact ⟨n, 0, rfl, .inr (.inl ⟨hl, rfl, HK.out, by omega, by omega, by omega, fun q k1 k2 => HI.out q k1 (by omega) k2⟩), HB1.out⟩
    · rw [decide_eq_false hk]
      have HK := hide hk
      clear hk
      go_wp2
      go_roundw
      case rel =>
        refine ⟨(n : Int) - 1, by go_num, by omega, by omega, fun q k1 k2 k3 => ?_, HB1.out⟩
        by_cases hq : q = n
        · rw [hq]; exact HK.out
        · exact HI.out q (by omega) k2 k3
      case measure => simp [intOf]; omega
end Go.Proofs.Ytjmjjjpanioifaa

