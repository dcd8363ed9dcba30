import Derived.Test.YtgengoffkoonfabQHpush
namespace Go.Proofs.Ytgengoffkoonfab.H4
open Go.RowKit Go.Maps
set_option maxRecDepth 20000

theorem Hq.drewN {w : World} {K : Nat → Nat} {g : Nat} {R : List (It Int)} {n : Nat} (h : Hq w K g R n) (q : Nat) : Hq (w.drewN q) K g R n := h.far (Nat.le_refl _) (fun _ _ => rfl)

theorem rest_len {R : List (It Int)} (h : R ≠ []) : (rest R).length + 1 = R.length := by
  have hp : 0 < R.length := List.length_pos_iff.2 h
  have := fstTo_lt R R.length hp
  unfold rest
  rw [List.length_eraseIdx, if_pos this]
  omega

theorem rest_nil : rest [] = [] := rfl

set_option maxHeartbeats 1000000 in
theorem pop_any {w : World} {K : Nat → Nat} {g : Nat} {R : List (It Int)} {n : Nat} (h : Hq w K g R n) (hR : R.length ≤ 6000000000000) :
    Calls Try.prog 62 #[.pointer (some ⟨g, 0, none⟩)] w fun e w' => e = .returned (.tuple #[.int .i64 (pkK R), .int .i64 (pkV R), .bool (pkB R)]) ∧ Hq w' K g (rest R) n ∧ Fr K K w w' := by
  have hP := peek_any h
  by_cases hn : R = []
  · have hb : pkB R = false := by simp [pkB, hn]
    rw [hb] at hP ⊢
    have HN := hide hn
    clear hb hn
    go_enter Try.func62, Try.ntmps62
    go_wp2_with fail
    refine hP.mono ?_
    rintro e w1 ⟨rfl, q, rfl⟩
    go_wp2
    go_ret3
    refine ⟨rfl, ?_, (Fr.refl K w).drewN q⟩
    have := HN.out
    subst this
    exact h.drewN q
  · have hb : pkB R = true := by simp [pkB, hn]
    rw [hb] at hP ⊢
    obtain ⟨b, cap, xs, a, c, d⟩ : ∃ b cap xs, At w g b cap xs n ∧ Holds xs R n ∧ K b ≠ 0 := by
      rcases h.is with ⟨q1, _⟩ | q
      · exact absurd q1 hn
      · exact q
    have hpos : 0 < R.length := List.length_pos_iff.2 hn
    have HN := hide hn
    clear hb hn
    go_enter Try.func62, Try.ntmps62
    go_wp2_with fail
    refine hP.mono ?_
    rintro e w1 ⟨rfl, q, rfl⟩
    go_wp2_with fail
    refine (drop_at (a.drewN q) (by rw [c.len]; exact hpos) (by rw [c.len]; exact hR) c.tree).mono ?_
    rintro e w2 ⟨rfl, ys, q1, q2, q3, q4⟩
    go_wp2
    go_ret3
    refine ⟨rfl, ⟨.inr ⟨b, cap, ys, q1, c.pop hpos q3 q4, d⟩, h.kg, fun k hk => ?_⟩, q2.os, q2.tape, q2.output, Nat.le_of_eq q2.size.symm, fun k _ h0 => ?_, fun _ _ => rfl⟩
    · rw [q2.size]; exact h.sup k hk
    · exact q2.block k (fun e => d (by rw [← e]; exact h0)) (fun e => h.kg (by rw [← e]; exact h0))

end Go.Proofs.Ytgengoffkoonfab.H4
