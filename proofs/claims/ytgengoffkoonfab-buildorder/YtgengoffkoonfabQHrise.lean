import Derived.Test.YtgengoffkoonfabQHrep
namespace Go.Proofs.Ytgengoffkoonfab.H4
open Go.RowKit Go.Maps
set_option maxRecDepth 20000

set_option maxHeartbeats 1000000 in
theorem rise_at {w : World} {g b cap : Nat} {xs : List (It Int)} {n : Int} (h : At w g b cap xs n) (p : Nat) (hp : p < xs.length) (hm : xs.length ≤ 6000000000000) (hu : Up xs p) :
    Calls Try.prog 78 #[.pointer (some ⟨g, 0, none⟩), .int .i64 p] w fun e w' => e = .returned (.tuple #[]) ∧ ∃ ys, At w' g b cap ys n ∧ Only w w' b ∧ Tree ys ∧ ys.Perm xs := by
  have HU := hide hu
  clear hu
  go_enter Try.func78, Try.ntmps78
  go_wp2
  go_loopw [1] (fun a wr => ∃ (q : Nat) (ys : List (It Int)), a = .int .i64 q ∧ q < 6000000000000 ∧ Hid (q < ys.length ∧ At wr g b cap ys n ∧ Only w wr b ∧ Up ys q ∧ ys.Perm xs)) (fun a _ => (intOf a).toNat)
  case atStart => exact ⟨p, xs, rfl, by omega, hp, h, Only.refl _ _, HU.out, List.Perm.refl _⟩
  case round =>
    obtain ⟨q, ys, rfl, hq, HR⟩ := hrel
    obtain ⟨h1, h2, h3, h4, h5⟩ := HR.out
    by_cases h0 : 0 < q
    · have e0 : ((q : Int) - 1) / 2 = (((q - 1) / 2 : Nat) : Int) := by omega
      obtain ⟨r, hr⟩ : ∃ r, r = (q - 1) / 2 := ⟨_, rfl⟩
      rw [← hr] at e0
      have hrl : r < ys.length := by omega
      have hA := ahead_at h2 h1 hrl
      have HQ := hide hr
      clear hr
      by_cases hl : Lt (pt ys q) (pt ys r)
      · rw [decide_eq_true hl] at hA
        go_wp2_with fail
        refine hA.mono ?_
        rintro e w1 ⟨rfl, k, rfl⟩
        go_wp2_with fail
        refine (swap_at (h2.drewN k) h1 hrl (by have := HQ.out; omega)).mono ?_
        rintro e w2 ⟨rfl, hB, hO⟩
        go_wp2
        go_roundw
        case rel =>
          refine ⟨r, swp ys q r, rfl, by omega, by simpa using hrl, hB, (h3.drewN k).trans hO, ?_, (swp_perm h1 hrl).trans h5⟩
          have := HQ.out
          subst this
          exact h4.rise h0 h1 hl
        case measure => simp [intOf]; have := HQ.out; omega
      · rw [decide_eq_false hl] at hA
        go_wp2_with fail
        refine hA.mono ?_
        rintro e w1 ⟨rfl, k, rfl⟩
        go_wp2
        refine bodyPost_ret (results_none rfl _ _ _) rfl ?_
        have := HQ.out
        subst this
        exact ⟨rfl, ys, h2.drewN k, h3.drewN k, h4.stay hl, h5⟩
    · obtain rfl : q = 0 := by omega
      go_wp2
      (try simp only [Exit.inBlock, Exit.then]); refine bodyPost_end (results_none rfl _ _ _) rfl ?_
      exact ⟨rfl, ys, h2, h3, h4.top, h5⟩

end Go.Proofs.Ytgengoffkoonfab.H4
