import Derived.Test.YtiabhmdefaabgabDoorGRnw
namespace Go.Proofs.YtiabhmdefaabgabDoor
open Go.RowKit Go.Maps
set_option maxRecDepth 20000
set_option linter.unusedVariables false

theorem tab_cases (s : Nat) (h : s < 19) : (lst s = 1 ∧ frt s = 0 ∧ mst s = 1) ∨ (lst s = 3 ∧ frt s = 2 ∧ mst s = 6) ∨ (lst s = 3 ∧ frt s = 3 ∧ mst s = 10) ∨ (lst s = 11 ∧ frt s = 7 ∧ mst s = 138) := by
  unfold lst frt mst
  by_cases h1 : (s : Int) < 16
  · left; rw [if_pos h1, if_pos h1, if_pos h1]; exact ⟨rfl, rfl, rfl⟩
  · by_cases h2 : (s : Int) = 16
    · right; left; rw [h2]; exact ⟨rfl, rfl, rfl⟩
    · by_cases h3 : (s : Int) = 17
      · right; right; left; rw [h3]; exact ⟨rfl, rfl, rfl⟩
      · right; right; right; rw [show (s : Int) = 18 by omega]; exact ⟨rfl, rfl, rfl⟩

theorem most_any (s : Nat) (w : World) (hs : s < 19) (T : Tab w) : Calls Tryd.prog 88 #[.int .i64 s] w fun e w' => e = .returned (.int .i64 (mst s)) ∧ ∃ q, w' = w.drewN q := by
  have c1 := T.least s hs
  have c2 := T.further s hs
  have hs' : (s : Int) < 19 := by omega
  have C := tab_cases s hs
  clear T
  rcases C with ⟨a, b, c⟩ | ⟨a, b, c⟩ | ⟨a, b, c⟩ | ⟨a, b, c⟩ <;>
  · rw [a] at c1
    rw [b] at c2
    rw [c]
    clear a b c
    go_enter Tryd.func88, Tryd.ntmps88
    go_wp2
    go_quiet (fail)
    go_wp2
    go_ret
    exact ⟨rfl, _, rfl⟩

theorem all_snoc {l : List Int} {k : Nat} (hk : k < l.length) (h : ∀ x ∈ l.take k, 0 ≤ x ∧ x ≤ 15) (h1 : 0 ≤ l.getD k 0 ∧ l.getD k 0 ≤ 15) : ∀ x ∈ l.take (k + 1), 0 ≤ x ∧ x ≤ 15 := by
  intro x hx
  rw [List.take_succ_eq_append_getElem hk] at hx
  rcases List.mem_append.1 hx with e | e
  · exact h x e
  · rw [List.mem_singleton.1 e]
    have : l.getD k 0 = l[k] := by simp [hk]
    rw [← this]; exact h1

theorem wth_bad {l : List Int} {k : Nat} (hk : k < l.length) (h : ¬ (0 ≤ l.getD k 0 ∧ l.getD k 0 ≤ 15)) : wthb l = false := by
  rw [Bool.eq_false_iff]
  intro e
  exact h (wth_iff.1 e _ (by rw [show l.getD k 0 = l[k] by simp [hk]]; exact List.getElem_mem hk))

theorem codeLengths_any (v : Value) (l : List Int) (w : World) (h : SI w v l) :
    Calls Tryd.prog 31 #[v] w fun e w' => e = .returned (.bool (wthb l)) ∧ w' = w := by
  have HS := hide h
  obtain ⟨ao, cap, rfl, hlc, hcm⟩ := h.open
  clear h
  go_enter Tryd.func31, Tryd.ntmps31
  go_wp2
  go_loopw [7] (fun i wr => ∃ k : Nat, k ≤ l.length ∧ i = .int .i64 k ∧ wr = w ∧ Hid (∀ x ∈ l.take k, 0 ≤ x ∧ x ≤ 15)) (fun i _ => l.length - (intOf i).toNat)
  case atStart => exact ⟨0, Nat.zero_le _, rfl, rfl, fun x hx => by simp at hx⟩
  case round =>
    obtain ⟨k, hk, rfl, hw, HA⟩ := hrel
    subst hw
    by_cases hlt : k < l.length
    · have hlt' : (k : Int) < (l.length : Int) := by omega
      obtain ⟨b, o, rfl, hc⟩ := HS.out.get (Below.refl _ _) hlt
      have HN := hide (fun q => all_snoc hlt HA.out q)
      have HB := hide (fun q => wth_bad hlt q)
      obtain ⟨y, HY⟩ : ∃ y, Hid (y = l.getD k 0) := ⟨_, rfl⟩
      rw [← HY.out] at hc HN HB
      by_cases h0 : y < 0
      · have HF : Hid (wthb l = false) := HB.out (by omega)
        go_wp2
        go_ret
        rw [HF.out]
        exact ⟨rfl, rfl⟩
      · by_cases h15 : 15 < y
        · have HF : Hid (wthb l = false) := HB.out (by omega)
          go_wp2
          go_ret
          rw [HF.out]
          exact ⟨rfl, rfl⟩
        · have HN2 := hide (HN.out ⟨by omega, by omega⟩)
          go_wp2
          go_roundw
          case rel => exact ⟨k + 1, by omega, by go_num, trivial, HN2⟩
          case measure => simp [intOf]; omega
    · obtain rfl : k = l.length := by omega
      have hlt' : ¬ (l.length : Int) < (l.length : Int) := by omega
      have HF : Hid (wthb l = true) := wth_iff.2 (by have := HA.out; rwa [List.take_of_length_le (Nat.le_refl _)] at this)
      go_wp2
      go_ret
      rw [HF.out]
      exact ⟨rfl, rfl⟩

theorem meant_any (s : Int) (v : Value) (l : List Int) (w : World) (h : SI w v l) (h16 : s = 16 → 0 < l.length) :
    Calls Tryd.prog 87 #[.int .i64 s, v] w fun e w' => e = .returned (.int .i64 (mnt s l)) ∧ w' = w := by
  have HS := hide h
  obtain ⟨ao, cap, rfl, hlc, hcm⟩ := h.open
  clear h
  by_cases c1 : s < 16
  · have HM : Hid (mnt s l = s) := by show _ = _; unfold mnt; rw [if_pos c1]
    clear h16
    go_enter Tryd.func87, Tryd.ntmps87
    go_wp2
    go_ret
    rw [HM.out]
    exact ⟨rfl, rfl⟩
  · by_cases c2 : s = 16
    · subst c2
      have hl := h16 rfl
      obtain ⟨b, o, rfl, hc⟩ := HS.out.get (Below.refl _ _) (k := l.length - 1) (by omega)
      have HM : Hid (mnt 16 l = l.getD (l.length - 1) 0) := rfl
      obtain ⟨y, HY⟩ : ∃ y, Hid (y = l.getD (l.length - 1) 0) := ⟨_, rfl⟩
      rw [← HY.out] at hc HM
      obtain ⟨n, hn⟩ : ∃ n, l.length = n + 1 := ⟨l.length - 1, by omega⟩
      rw [hn] at hc hlc ⊢
      rw [Nat.add_sub_cancel] at hc
      clear HS hl hn h16 c1
      go_enter Tryd.func87, Tryd.ntmps87
      go_wp2
      go_ret
      rw [HM.out]
      exact ⟨rfl, rfl⟩
    · have HM : Hid (mnt s l = 0) := by show _ = _; unfold mnt; rw [if_neg c1, if_neg c2]
      have c3 : (s == 16) = false := by simpa using c2
      clear h16
      go_enter Tryd.func87, Tryd.ntmps87
      go_wp2
      go_ret
      rw [HM.out]
      exact ⟨rfl, rfl⟩
end Go.Proofs.YtiabhmdefaabgabDoor

