import Derived.Test.YtiabhmdefaabgabDoorGRw4
namespace Go.Proofs.YtiabhmdefaabgabDoor
open Go.RowKit Go.Maps
set_option maxRecDepth 20000
set_option linter.unusedVariables false

theorem within_any (v : Value) (l : List Int) (w : World) (h : SI w v l) :
    Calls Tryd.prog 28 #[v] w fun e w' => e = .returned (.bool (wthb l)) ∧ w' = w := by
  have HS := hide h
  obtain ⟨ao, cap, rfl, hlc, hcm⟩ := h.open
  clear h
  go_enter Tryd.func28, Tryd.ntmps28
  go_wp2
  go_loopw [3] (fun i wr => ∃ k : Nat, k ≤ l.length ∧ i = .int .i64 k ∧ wr = w ∧ Hid (∀ x ∈ l.take k, 0 ≤ x ∧ x ≤ 15)) (fun i _ => l.length - (intOf i).toNat)
  case atStart => exact ⟨0, Nat.zero_le _, rfl, rfl, fun x hx => by simp at hx⟩
  case round =>
    obtain ⟨k, hk, rfl, hw, HA⟩ := hrel
    subst hw
    by_cases hlt : k < l.length
    · have hlt' : (k : Int) < (l.length : Int) := by omega
      obtain ⟨b, o, rfl, hc⟩ := HS.out.get (Below.refl _ _) hlt
      have HN := hide (fun q => all_snoc hlt HA.out q)
      have HB := hide (fun q => wth_bad hlt q)
      obtain ⟨y, HY⟩ : ∃ y, Hid (y = l.getD k 0) := ⟨_, rfl⟩
      rw [← HY.out] at hc HN HB
      by_cases h0 : y < 0
      · have HF : Hid (wthb l = false) := HB.out (by omega)
        go_wp2
        go_ret
        rw [HF.out]
        exact ⟨rfl, rfl⟩
      · by_cases h15 : 15 < y
        · have HF : Hid (wthb l = false) := HB.out (by omega)
          go_wp2
          go_ret
          rw [HF.out]
          exact ⟨rfl, rfl⟩
        · have HN2 := hide (HN.out ⟨by omega, by omega⟩)
          go_wp2
          go_roundw
          case rel => exact ⟨k + 1, by omega, by go_num, trivial, HN2⟩
          case measure => simp [intOf]; omega
    · obtain rfl : k = l.length := by omega
      have hlt' : ¬ (l.length : Int) < (l.length : Int) := by omega
      have HF : Hid (wthb l = true) := wth_iff.2 (by have := HA.out; rwa [List.take_of_length_le (Nat.le_refl _)] at this)
      go_wp2
      go_ret
      rw [HF.out]
      exact ⟨rfl, rfl⟩

theorem xlengths_any (v : Value) (l : List Int) (w : World) (h : SI w v l) :
    Calls Tryd.prog 45 #[v] w fun e w' => e = .returned (.bool (wthb l)) ∧ w' = w := by
  have HS := hide h
  obtain ⟨ao, cap, rfl, hlc, hcm⟩ := h.open
  clear h
  go_enter Tryd.func45, Tryd.ntmps45
  go_wp2
  go_loopw [3] (fun i wr => ∃ k : Nat, k ≤ l.length ∧ i = .int .i64 k ∧ wr = w ∧ Hid (∀ x ∈ l.take k, 0 ≤ x ∧ x ≤ 15)) (fun i _ => l.length - (intOf i).toNat)
  case atStart => exact ⟨0, Nat.zero_le _, rfl, rfl, fun x hx => by simp at hx⟩
  case round =>
    obtain ⟨k, hk, rfl, hw, HA⟩ := hrel
    subst hw
    by_cases hlt : k < l.length
    · have hlt' : (k : Int) < (l.length : Int) := by omega
      obtain ⟨b, o, rfl, hc⟩ := HS.out.get (Below.refl _ _) hlt
      have HN := hide (fun q => all_snoc hlt HA.out q)
      have HB := hide (fun q => wth_bad hlt q)
      obtain ⟨y, HY⟩ : ∃ y, Hid (y = l.getD k 0) := ⟨_, rfl⟩
      rw [← HY.out] at hc HN HB
      by_cases h0 : y < 0
      · have HF : Hid (wthb l = false) := HB.out (by omega)
        go_wp2
        go_ret
        rw [HF.out]
        exact ⟨rfl, rfl⟩
      · by_cases h15 : 15 < y
        · have HF : Hid (wthb l = false) := HB.out (by omega)
          go_wp2
          go_ret
          rw [HF.out]
          exact ⟨rfl, rfl⟩
        · have HN2 := hide (HN.out ⟨by omega, by omega⟩)
          go_wp2
          go_roundw
          case rel => exact ⟨k + 1, by omega, by go_num, trivial, HN2⟩
          case measure => simp [intOf]; omega
    · obtain rfl : k = l.length := by omega
      have hlt' : ¬ (l.length : Int) < (l.length : Int) := by omega
      have HF : Hid (wthb l = true) := wth_iff.2 (by have := HA.out; rwa [List.take_of_length_le (Nat.le_refl _)] at this)
      go_wp2
      go_ret
      rw [HF.out]
      exact ⟨rfl, rfl⟩

theorem lesser_any (a b : Nat) (w : World) : Calls Tryd.prog 104 #[.int .i64 a, .int .i64 b] w fun e w' => e = .returned (.int .i64 (min a b : Nat)) ∧ w' = w := by
  by_cases h : a < b
  · have h' : (a : Int) < (b : Int) := by omega
    have HM : Hid (min a b = a) := by show _ = _; omega
    go_enter Tryd.func104, Tryd.ntmps104
    go_wp2
    go_ret
    rw [HM.out]
    exact ⟨rfl, rfl⟩
  · have h' : ¬ (a : Int) < (b : Int) := by omega
    have HM : Hid (min a b = b) := by show _ = _; omega
    go_enter Tryd.func104, Tryd.ntmps104
    go_wp2
    go_ret
    rw [HM.out]
    exact ⟨rfl, rfl⟩

set_option maxHeartbeats 1000000 in
theorem equals_any (k : Nat) (v : Value) (l : List Int) (w : World) (h : SI w v l) (hk : k < l.length) (hn : l.length ≤ 1048576) :
    Calls Tryd.prog 103 #[v, .int .i64 k] w fun e w' => e = .returned (.int .i64 (eqn (l.getD k 0) (l.drop k) : Nat)) ∧ ∃ q, w' = w.drewN q := by
  have HS := hide h
  obtain ⟨ao, cap, rfl, hlc, hcm⟩ := h.open
  clear h
  obtain ⟨b, o, rfl, c0⟩ := HS.out.get (Below.refl _ _) hk
  have HG : Hid (∀ j, k + j < l.length → w.cell? ⟨b, o + (k + j), none⟩ = some (.int .i64 ((l.drop k).getD j 0))) := fun j hj => by
    obtain ⟨b', o', e, c⟩ := HS.out.get (Below.refl _ _) hj
    simp only [Option.some.injEq, Addr.mk.injEq, and_true] at e
    obtain ⟨rfl, rfl⟩ := e
    rw [c]
    simp only [List.getD_eq_getElem?_getD, List.getElem?_drop]
  obtain ⟨V, HV⟩ : ∃ V, Hid (V = l.getD k 0) := ⟨_, rfl⟩
  rw [← HV.out] at c0 ⊢
  obtain ⟨D, HD⟩ : ∃ D, Hid (D = l.drop k) := ⟨_, rfl⟩
  rw [← HD.out] at HG ⊢
  have HDL : Hid (D.length = l.length - k) := by show _ = _; rw [HD.out, List.length_drop]
  clear HV HD HS
  go_enter Tryd.func103, Tryd.ntmps103
  go_wp2
  go_loopw [5] (fun i wr => ∃ j q : Nat, k + j ≤ l.length ∧ i = .int .i64 j ∧ wr = w.drewN q ∧ Hid (j ≤ eqn V D)) (fun i _ => l.length - (intOf i).toNat)
  case atStart => exact ⟨0, 0, by omega, rfl, rfl, Nat.zero_le _⟩
  case round =>
    obtain ⟨j, q, hj, rfl, hw, HJ⟩ := hrel
    subst hw
    by_cases hlt : k + j < l.length
    · have hlt' : (k : Int) + (j : Int) < (l.length : Int) := by omega
      have hk' : (k : Int) < (l.length : Int) := by omega
      have cj : (w.drewN q).cell? ⟨b, o + (k + j), none⟩ = some (.int .i64 (D.getD j 0)) := HG.out j hlt
      have cj2 : w.cell? ⟨b, o + (k + j), none⟩ = some (.int .i64 (D.getD j 0)) := cj
      have HGO := hide (eqn_go HJ.out (by rw [HDL.out]; omega))
      obtain ⟨y, HY⟩ : ∃ y, Hid (y = D.getD j 0) := ⟨_, rfl⟩
      rw [← HY.out] at cj cj2 HGO
      have en : ((k : Int) + (j : Int)).toNat = k + j := by omega
      by_cases hy : y = V
      · subst hy
        have HJ2 := hide (HGO.out.1 rfl)
        go_wp2
        go_quiet (fail)
        go_wp2
        go_roundw
        case rel => exact ⟨j + 1, _, by omega, by go_num, by (try simp only [World.drewN_drewN]); rfl, HJ2⟩
        case measure => simp [intOf]; omega
      · have hy' : (y == V) = false := by simpa using hy
        have HE : Hid (eqn V D = j) := HGO.out.2 hy
        go_wp2
        go_quiet (fail)
        go_wp2
        go_ret
        rw [HE.out]
        exact ⟨rfl, _, by (try simp only [World.drewN_drewN]); rfl⟩
    · have hlt' : ¬ (k : Int) + (j : Int) < (l.length : Int) := by omega
      have hd : decide ((k : Int) + (j : Int) < (l.length : Int)) = false := decide_eq_false hlt'
      have HE : Hid (eqn V D = j) := by
        show _ = _
        have := eqn_le V D
        have h1 := HJ.out
        have h2 := HDL.out
        omega
      go_wp2
      go_quiet (fail)
      go_wp2
      go_ret
      rw [HE.out]
      exact ⟨rfl, _, by (try simp only [World.drewN_drewN]); rfl⟩
end Go.Proofs.YtiabhmdefaabgabDoor

