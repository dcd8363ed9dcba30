import Derived.Test.YtmjdpfigkojolaaGreatDoorG08Ifa
namespace Go.Proofs.YtmjdpfigkojolaaGreatDoor
open Go.RowKit Go.Maps
set_option maxRecDepth 20000
set_option linter.unusedVariables false

set_option maxHeartbeats 1000000 in
theorem hroom {W w : World} {g r : Nat} {row : List Int} {p L : Nat} {out : List Int} {dn : Bool} {ys : List ((Nat → Nat) × Thing)} (H : TX W w g r row p L out dn ys) (n : Nat) (hn : n ≤ 16777216) :
    Calls Tryz.prog 60 #[.pointer (some ⟨g, 0, none⟩), .int .i64 n] w fun en w' => (out.length + n ≤ L ∧ en = .returned (.tuple #[]) ∧ ∃ q, w' = w.drewN q) ∨ (L < out.length + n ∧ Ofg W ys 85 en w') := by
  have hbl := H.bel2
  obtain ⟨Kt, Kr, Ko, a, c, fl, fd, HH, hk⟩ := H
  have ht : w.heap[g]? = some (txO r a out.length c L dn fl fd) := (HH.rep 0 _ rfl).1
  obtain ⟨c0, c1, c2, c3, c4, c5⟩ := txO_cells ht
  obtain ⟨k1, k2⟩ := hk.2
  have d1 : ∀ q, (w.drewN q).cell? ⟨g, 1, none⟩ = some (.slice a out.length c) := fun q => c1
  have d2 : ∀ q, (w.drewN q).cell? ⟨g, 2, none⟩ = some (.int .i64 L) := fun q => c2
  have HB := hide hbl
  obtain ⟨m, HM⟩ : ∃ m, Hid (m = out.length) := ⟨_, rfl⟩
  rw [← HM.out] at d1 k1 ⊢
  clear HH ht c0 c1 c2 c3 c4 c5 hk hbl
  go_enter Tryz.func60, Tryz.ntmps60
  by_cases hl : m + n ≤ L
  · have h1 : ¬ ((n : Int) > (L : Int) - m) := by omega
    have h2 : decide ((n : Int) > (L : Int) - m) = false := by simpa using h1
    have h3 : decide ((L : Int) - m < n) = false := by simpa using h1
    go_wp2
    go_quiet (fail)
    go_wp2
    first | go_end0 | refine bodyPost_end (results_none rfl _ _ _) rfl ?_
    exact .inl ⟨hl, rfl, _, rfl⟩
  · have h1 : ((n : Int) > (L : Int) - m) := by omega
    have h2 : decide ((n : Int) > (L : Int) - m) = true := by simpa using h1
    have h3 : decide ((L : Int) - m < n) = true := by simpa using h1
    go_wp2
    go_quiet (fail)
    go_wp2_with fail
    refine (giveUp_any 85 _).mono ?_
    rintro e w2 ⟨rfl, rfl⟩
    go_wp2
    exact ⟨rfl, .inr ⟨by omega, rfl, HB.out.low (below_drewN (Below.refl _ _) _)⟩⟩

set_option maxHeartbeats 1000000 in
theorem hsym {W w : World} {g r : Nat} {row : List Int} {p L : Nat} {out : List Int} {dn : Bool} {ys : List ((Nat → Nat) × Thing)} (H : TX W w g r row p L out dn ys) (i : Nat) {K : Nat → Nat} {gd : Nat} {l : List Int} (hi : ys[i]? = some (K, td gd l)) :
    Calls Tryz.prog 62 #[.pointer (some ⟨g, 0, none⟩), .pointer (some ⟨gd, 0, none⟩)] w fun en w' => (syE l row p = 0 ∧ en = .returned (.int .i64 (nxS l row p)) ∧ TX W w' g r row (nxP l row p) L out dn ys) ∨ (syE l row p ≠ 0 ∧ Ofg W ys (syE l row p) en w') := by
  obtain ⟨Kt, Kr, Ko, a, c, fl, fd, HH, hk⟩ := H
  have ht : w.heap[g]? = some (txO r a out.length c L dn fl fd) := (HH.rep 0 _ rfl).1
  obtain ⟨c0, c1, c2, c3, c4, c5⟩ := txO_cells ht
  have HN := hide (hnext HH (i + 3) 1 (by simpa using hi) rfl)
  have HK := hide hk
  obtain ⟨E, HE⟩ : ∃ E, Hid (E = nxE l row p) := ⟨_, rfl⟩
  obtain ⟨S, HS⟩ : ∃ S : Nat, Hid (S = nxS l row p) := ⟨_, rfl⟩
  have HSY : Hid (syE l row p = if E = 0 then 0 else if E = 54 then 80 else 83) := by show _ = _; rw [HE.out]; rfl
  rw [← HE.out, ← HS.out] at HN
  rw [← HS.out]
  clear HH ht c1 c2 c3 c4 c5 hk
  go_enter Tryz.func62, Tryz.ntmps62
  go_wp2_with fail
  refine HN.out.mono ?_
  rintro e w1 ⟨rfl, h1⟩
  simp only [List.set_cons_succ, List.set_cons_zero] at h1
  have HX := hide h1
  clear h1 c0
  by_cases e0 : E = 0
  · subst e0
    have hs0 : syE l row p = 0 := by rw [HSY.out, if_pos rfl]
    have HS0 := hide hs0
    clear hs0
    go_wp2
    go_ret
    exact .inl ⟨HS0.out, rfl, Kt, Kr, Ko, a, c, fl, fd, HX.out, HK.out⟩
  · by_cases e1 : E = 54
    · subst e1
      have hs0 : syE l row p = 80 := by rw [HSY.out, if_neg e0, if_pos rfl]
      have HS0 := hide hs0
      clear hs0
      go_wp2_with fail
      refine (giveUp_any 80 _).mono ?_
      rintro e w2 ⟨rfl, rfl⟩
      go_wp2
      rw [HS0.out]
      exact ⟨rfl, .inr ⟨by decide, Ofg.of rfl HX.out⟩⟩
    · have hs0 : syE l row p = 83 := by rw [HSY.out, if_neg e0, if_neg e1]
      have HS0 := hide hs0
      have h1 : (E == 54) = false := by simpa using e1
      have h2 : (E != 0) = true := by simpa using e0
      clear hs0
      go_wp2_with fail
      refine (giveUp_any 83 _).mono ?_
      rintro e w2 ⟨rfl, rfl⟩
      go_wp2
      rw [HS0.out]
      exact ⟨rfl, .inr ⟨by decide, Ofg.of rfl HX.out⟩⟩

theorem lnFle {s : Nat} (h : s ≤ 285) : lnF s ≤ 5 := by unfold lnF; split <;> (try split) <;> omega
theorem dsFle {s : Nat} (h : s ≤ 29) : dsF s ≤ 13 := by unfold dsF; split <;> omega
end Go.Proofs.YtmjdpfigkojolaaGreatDoor

