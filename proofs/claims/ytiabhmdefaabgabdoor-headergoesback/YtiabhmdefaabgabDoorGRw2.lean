import Derived.Test.YtiabhmdefaabgabDoorGRw1
namespace Go.Proofs.YtiabhmdefaabgabDoor
open Go.RowKit Go.Maps
set_option maxRecDepth 20000
set_option linter.unusedVariables false

/-- For how many lengths one run of the Sym could stand. -/
def rch (s : Nat) (l : List Int) (k : Nat) : Nat := if s = 16 ∧ k = 0 then 0 else min (eqn (mnt s (l.take k)) (l.drop k)) (mst s).toNat

theorem rch_18 (l : List Int) (k : Nat) : rch 18 l k = n18 l k := by unfold rch n18; rw [if_neg (by omega)]; rfl
theorem rch_17 (l : List Int) (k : Nat) : rch 17 l k = n17 l k := by unfold rch n17; rw [if_neg (by omega)]; rfl
theorem rch_16 {l : List Int} {k : Nat} (hk : k < l.length) : rch 16 l k = n16 l k := by
  unfold rch n16
  by_cases h : k = 0
  · rw [if_pos ⟨rfl, h⟩, if_pos h]
  · rw [if_neg (by omega), if_neg h]
    have e : mnt (16 : Nat) (l.take k) = l.getD (k - 1) 0 := by
      show mnt 16 (l.take k) = _
      unfold mnt
      rw [if_neg (by decide), if_pos rfl, List.length_take, show min k l.length - 1 = k - 1 by omega]
      simp only [List.getD_eq_getElem?_getD, List.getElem?_take]
      rw [if_pos (by omega)]
    rw [e]; rfl

theorem SI.sub {w : World} {b o cap : Nat} {l : List Int} (h : SI w (.slice (some ⟨b, o, none⟩) l.length cap) l) {i j : Nat} (hij : i ≤ j) (hj : j ≤ l.length) : SI w (.slice (some ⟨b, o + i, none⟩) (j - i) (cap - i)) ((l.drop i).take (j - i)) := by
  obtain ⟨ao', cap', he, h1, h2, h3, h4⟩ := h
  simp only [Value.slice.injEq] at he
  obtain ⟨rfl, -, rfl⟩ := he
  have hl : ((l.drop i).take (j - i)).length = j - i := by rw [List.length_take, List.length_drop]; omega
  refine ⟨_, _, by rw [hl], by rw [hl]; omega, by omega, (fun e => by cases e), fun x hx n hn => ?_⟩
  cases hx
  rw [hl] at hn
  have := h4 _ rfl (i + n) (by omega)
  rw [Addr.add_lit] at this ⊢
  rw [Nat.add_assoc, this]
  simp only [List.getD_eq_getElem?_getD, List.getElem?_take, List.getElem?_drop]
  rw [if_pos hn]

set_option maxHeartbeats 1000000 in
theorem reach_any (s k : Nat) (v : Value) (l : List Int) (w : World) (h : SI w v l) (T : Tab w) (hs1 : 16 ≤ s) (hs2 : s < 19) (hk : k < l.length) (hn : l.length ≤ 1048576) :
    Calls Tryd.prog 60 #[.int .i64 s, v, .int .i64 k] w fun e w' => e = .returned (.int .i64 (rch s l k : Nat)) ∧ ∃ q, w' = w.drewN q := by
  have HS := hide h
  have HT := hide T
  obtain ⟨ao, cap, rfl, hlc, hcm⟩ := h.open
  clear h T
  by_cases hz : s = 16 ∧ k = 0
  · have HR : Hid (rch s l k = 0) := by show _ = _; unfold rch; rw [if_pos hz]
    obtain ⟨rfl, rfl⟩ := hz
    go_enter Tryd.func60, Tryd.ntmps60
    go_wp2
    go_ret
    rw [HR.out]
    exact ⟨rfl, 0, rfl⟩
  · have HR : Hid (rch s l k = min (eqn (mnt s (l.take k)) (l.drop k)) (mst s).toNat) := by show _ = _; unfold rch; rw [if_neg hz]
    obtain ⟨b, o, rfl, _⟩ := HS.out.get (Below.refl _ _) hk
    have HT0 : Hid (SI w (.slice (some ⟨b, o, none⟩) k cap) (l.take k)) := by
      have := HS.out.sub (i := 0) (j := k) (Nat.zero_le _) (by omega)
      exact hide (by simpa using this)
    have hlk : (l.take k).length = k := by rw [List.length_take]; omega
    have HMM : Hid ((s : Int) = 16 → 0 < (l.take k).length) := fun e => by rw [hlk]; omega
    obtain ⟨V, HV⟩ : ∃ V, Hid (V = mnt s (l.take k)) := ⟨_, rfl⟩
    obtain ⟨M, hM, HM⟩ : ∃ M : Nat, M ≤ 138 ∧ Hid (mst s = (M : Int)) := by
      rcases tab_cases s hs2 with ⟨_, _, c⟩ | ⟨_, _, c⟩ | ⟨_, _, c⟩ | ⟨_, _, c⟩ <;> rw [c]
      · exact ⟨1, by omega, rfl⟩
      · exact ⟨6, by omega, rfl⟩
      · exact ⟨10, by omega, rfl⟩
      · exact ⟨138, by omega, rfl⟩
    rw [← HV.out, HM.out, Int.toNat_natCast] at HR
    obtain ⟨hi, hhi⟩ : ∃ hi, hi = min (k + M) l.length := ⟨_, rfl⟩
    have hi1 : k ≤ hi := by omega
    have hi2 : hi ≤ l.length := by omega
    have HW : Hid (SI w (.slice (some ⟨b, o + k, none⟩) (hi - k) (cap - k)) ((l.drop k).take (hi - k))) := HS.out.sub hi1 hi2
    have HRW : Hid (rch s l k = eqn V ((l.drop k).take (hi - k))) := by
      show _ = _
      rw [HR.out, eqn_min]
      have := eqn_le V (l.drop k)
      rw [List.length_drop] at this
      omega
    have hz1 : ((s : Int) == 16) = true → ((k : Int) == 0) = false := fun e => by simp at e ⊢; omega
    go_enter Tryd.func60, Tryd.ntmps60
    by_cases e16 : s = 16
    · have g1 : ((s : Int) == 16) = true := by simp; omega
      have g2 : ((k : Int) == 0) = false := hz1 g1
      clear e16 hz1 hz
      go_wp2_with fail
      refine (meant_any s _ (l.take k) w HT0.out HMM.out).mono ?_
      rintro e w1 ⟨rfl, hw1⟩
      subst hw1
      rw [← HV.out]
      go_wp2_with fail
      refine (most_any s w1 hs2 HT.out).mono ?_
      rintro e w2 ⟨rfl, q, hw2⟩
      rw [HM.out]
      go_wp2
      all_goals
        first
        | rw [show ((k : Int) + (M : Int)).toNat - k = hi - k by omega]
        | rw [show l.length - k = hi - k by omega]
        have HRL : Hid (((l.drop k).take (hi - k)).length = hi - k) := by show _ = _; rw [List.length_take, List.length_drop]; omega
        obtain ⟨N, hN⟩ : ∃ N, N = hi - k := ⟨_, rfl⟩
        obtain ⟨R, HRR⟩ : ∃ R, Hid (R = (l.drop k).take (hi - k)) := ⟨_, rfl⟩
        have hNb : N ≤ 1048576 := by omega
        rw [← HRR.out] at HW HRW HRL
        rw [← hN] at HW HRL ⊢
        have HSR : Hid (SI w1 (.slice (some ⟨b, o + k, none⟩) R.length (cap - k)) R) := by rw [HRL.out]; exact HW.out
        have HLR : Hid (R.length = N) := HRL.out
        clear HT0 HMM HV HR HM HW HS HRL hN hhi hi1 hi2 hM hlk HRR
        go_loopw [34] (fun i wr => ∃ j : Nat, j ≤ N ∧ i = .int .i64 j ∧ wr = w1.drewN q ∧ Hid (j ≤ eqn V R)) (fun i _ => N - (intOf i).toNat)
        case atStart => exact ⟨0, Nat.zero_le _, rfl, rfl, Nat.zero_le _⟩
        case round =>
          obtain ⟨j, hj, rfl, hw, HJ⟩ := hrel
          subst hw
          by_cases hlt : j < N
          · have hlt' : (j : Int) < (N : Int) := by omega
            obtain ⟨b2, o2, hbo, hc⟩ := HSR.out.get (w := w1.drewN q) (below_drewN (Below.refl _ _) q) (k := j) (by rw [HLR.out]; exact hlt)
            simp only [Option.some.injEq, Addr.mk.injEq, and_true] at hbo
            obtain ⟨rfl, rfl⟩ := hbo
            have HG := hide (eqn_go HJ.out (by rw [HLR.out]; exact hlt))
            obtain ⟨y, HY⟩ : ∃ y, Hid (y = R.getD j 0) := ⟨_, rfl⟩
            rw [← HY.out] at hc HG
            by_cases hy : y = V
            · subst hy
              have HJ2 := hide (HG.out.1 rfl)
              go_wp2
              go_roundw
              case rel => exact ⟨j + 1, by omega, by go_num, trivial, HJ2⟩
              case measure => simp [intOf]; omega
            · have hy' : (y != V) = true := by simpa using hy
              have HE : Hid (rch s l k = j) := by show _ = _; rw [HRW.out]; exact HG.out.2 hy
              go_wp2
              go_ret
              rw [HE.out]
              exact ⟨rfl, q, rfl⟩
          · obtain rfl : j = N := by omega
            have hlt' : ¬ (j : Int) < (j : Int) := by omega
            have HE : Hid (rch s l k = j) := by show _ = _; rw [HRW.out, eqn_end (by rw [HLR.out]; exact HJ.out)]; exact HLR.out
            go_wp2
            go_ret
            rw [HE.out]
            exact ⟨rfl, q, rfl⟩
    · have g1 : ((s : Int) == 16) = false := by simp; omega
      clear e16 hz1 hz
      go_wp2_with fail
      refine (meant_any s _ (l.take k) w HT0.out HMM.out).mono ?_
      rintro e w1 ⟨rfl, hw1⟩
      subst hw1
      rw [← HV.out]
      go_wp2_with fail
      refine (most_any s w1 hs2 HT.out).mono ?_
      rintro e w2 ⟨rfl, q, hw2⟩
      rw [HM.out]
      go_wp2
      all_goals
        first
        | rw [show ((k : Int) + (M : Int)).toNat - k = hi - k by omega]
        | rw [show l.length - k = hi - k by omega]
        have HRL : Hid (((l.drop k).take (hi - k)).length = hi - k) := by show _ = _; rw [List.length_take, List.length_drop]; omega
        obtain ⟨N, hN⟩ : ∃ N, N = hi - k := ⟨_, rfl⟩
        obtain ⟨R, HRR⟩ : ∃ R, Hid (R = (l.drop k).take (hi - k)) := ⟨_, rfl⟩
        have hNb : N ≤ 1048576 := by omega
        rw [← HRR.out] at HW HRW HRL
        rw [← hN] at HW HRL ⊢
        have HSR : Hid (SI w1 (.slice (some ⟨b, o + k, none⟩) R.length (cap - k)) R) := by rw [HRL.out]; exact HW.out
        have HLR : Hid (R.length = N) := HRL.out
        clear HT0 HMM HV HR HM HW HS HRL hN hhi hi1 hi2 hM hlk HRR
        go_loopw [34] (fun i wr => ∃ j : Nat, j ≤ N ∧ i = .int .i64 j ∧ wr = w1.drewN q ∧ Hid (j ≤ eqn V R)) (fun i _ => N - (intOf i).toNat)
        case atStart => exact ⟨0, Nat.zero_le _, rfl, rfl, Nat.zero_le _⟩
        case round =>
          obtain ⟨j, hj, rfl, hw, HJ⟩ := hrel
          subst hw
          by_cases hlt : j < N
          · have hlt' : (j : Int) < (N : Int) := by omega
            obtain ⟨b2, o2, hbo, hc⟩ := HSR.out.get (w := w1.drewN q) (below_drewN (Below.refl _ _) q) (k := j) (by rw [HLR.out]; exact hlt)
            simp only [Option.some.injEq, Addr.mk.injEq, and_true] at hbo
            obtain ⟨rfl, rfl⟩ := hbo
            have HG := hide (eqn_go HJ.out (by rw [HLR.out]; exact hlt))
            obtain ⟨y, HY⟩ : ∃ y, Hid (y = R.getD j 0) := ⟨_, rfl⟩
            rw [← HY.out] at hc HG
            by_cases hy : y = V
            · subst hy
              have HJ2 := hide (HG.out.1 rfl)
              go_wp2
              go_roundw
              case rel => exact ⟨j + 1, by omega, by go_num, trivial, HJ2⟩
              case measure => simp [intOf]; omega
            · have hy' : (y != V) = true := by simpa using hy
              have HE : Hid (rch s l k = j) := by show _ = _; rw [HRW.out]; exact HG.out.2 hy
              go_wp2
              go_ret
              rw [HE.out]
              exact ⟨rfl, q, rfl⟩
          · obtain rfl : j = N := by omega
            have hlt' : ¬ (j : Int) < (j : Int) := by omega
            have HE : Hid (rch s l k = j) := by show _ = _; rw [HRW.out, eqn_end (by rw [HLR.out]; exact HJ.out)]; exact HLR.out
            go_wp2
            go_ret
            rw [HE.out]
            exact ⟨rfl, q, rfl⟩
end Go.Proofs.YtiabhmdefaabgabDoor

