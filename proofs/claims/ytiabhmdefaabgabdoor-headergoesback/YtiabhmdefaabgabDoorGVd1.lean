import Derived.Test.YtiabhmdefaabgabDoorGMk5
import Derived.Test.YtiabhmdefaabgabDoorGRx1
namespace Go.Proofs.YtiabhmdefaabgabDoor
open Go.RowKit Go.Maps
set_option maxRecDepth 20000
set_option linter.unusedVariables false

theorem shr_div : ∀ y : Fin 16, (32768 : Int) / 2 ^ y.val = ((2 ^ (15 - y.val) : Nat) : Int) := by decide

theorem sums_snoc {l : List Int} {k : Nat} (h : k < l.length) : usum (l.take (k + 1)) = usum (l.take k) + wt (l.getD k 0) ∧ tsum (l.take (k + 1)) = tsum (l.take k) + one (l.getD k 0) := by
  have e : l.take (k + 1) = l.take k ++ [l.getD k 0] := by rw [List.take_succ_eq_append_getElem h]; simp [h]
  rw [e]
  simp [usum, tsum]

theorem sums_le (l : List Int) : usum l ≤ l.length * 32768 ∧ tsum l ≤ l.length := by
  induction l with
  | nil => simp [usum, tsum]
  | cons a l ih =>
    have h1 : wt a ≤ 32768 := by
      unfold wt
      split
      · exact Nat.pow_le_pow_right (n := 2) (by decide) (show 15 - a.toNat ≤ 15 by omega)
      · omega
    have h2 : one a ≤ 1 := by unfold one; split <;> omega
    simp only [usum, tsum, List.map_cons, List.sum_cons, List.length_cons] at ih ⊢
    omega

set_option maxHeartbeats 1000000 in
theorem lkraft_any (v : Value) (l : List Int) (w : World) (h : SI w v l) (hl : ∀ x ∈ l, 0 ≤ x ∧ x ≤ 15) (hn : l.length ≤ 1000000) :
    Calls Tryd.prog 30 #[v] w fun e w' => e = .returned (.tuple #[.int .i64 (usum l : Nat), .int .i64 (tsum l : Nat)]) ∧ w' = w := by
  have HS := hide h
  have HL := hide hl
  obtain ⟨ao, cap, rfl, hlc, hcm⟩ := h.open
  clear h hl
  go_enter Tryd.func30, Tryd.ntmps30
  go_wp2
  go_loopw [4, 5, 6] (fun s n i wr => ∃ k : Nat, k ≤ l.length ∧ i = .int .i64 k ∧ s = .int .i64 (usum (l.take k) : Nat) ∧ n = .int .i64 (tsum (l.take k) : Nat) ∧ wr = w) (fun _ _ i _ => l.length - (intOf i).toNat)
  case atStart => exact ⟨0, Nat.zero_le _, rfl, rfl, rfl, rfl⟩
  case round =>
    obtain ⟨k, hk, rfl, rfl, rfl, hw⟩ := hrel
    subst hw
    by_cases hlt : k < l.length
    · have hlt' : (k : Int) < (l.length : Int) := by omega
      obtain ⟨b, o, rfl, hc⟩ := HS.out.get (Below.refl _ _) hlt
      have hb := HL.out (l.getD k 0) (by rw [show l.getD k 0 = l[k] by simp [hlt]]; exact List.getElem_mem hlt)
      have HU := hide (sums_snoc hlt)
      have hbd := sums_le (l.take k)
      have hbl : (l.take k).length ≤ 1000000 := by rw [List.length_take]; omega
      obtain ⟨y', hy⟩ : ∃ y, y = l.getD k 0 := ⟨_, rfl⟩
      rw [← hy] at hc hb HU
      obtain ⟨y, rfl⟩ := Int.eq_ofNat_of_zero_le hb.1
      have hy15 : y < 16 := by omega
      obtain ⟨U, HUU⟩ : ∃ U, Hid (U = usum (l.take k)) := ⟨_, rfl⟩
      obtain ⟨N, HNN⟩ : ∃ N, Hid (N = tsum (l.take k)) := ⟨_, rfl⟩
      rw [← HUU.out, ← HNN.out] at HU hbd ⊢
      have hU : U ≤ 32768000000 := by omega
      have hN : N ≤ 1000000 := by omega
      clear hy hb hbd
      by_cases y0 : y = 0
      · subst y0
        have HU2 : Hid (usum (l.take (k + 1)) = U ∧ tsum (l.take (k + 1)) = N) := by rw [HU.out.1, HU.out.2]; exact hide ⟨rfl, rfl⟩
        go_wp2
        go_roundw
        case rel => exact ⟨k + 1, by omega, by go_num, by rw [HU2.out.1], by rw [HU2.out.2], trivial⟩
        case measure => simp [intOf]; omega
      · have y0' : (0 : Int) < (y : Int) := by omega
        have HU2 : Hid (usum (l.take (k + 1)) = U + 2 ^ (15 - y) ∧ tsum (l.take (k + 1)) = N + 1) := by
          rw [HU.out.1, HU.out.2]
          unfold wt one
          rw [if_pos (by omega), if_pos (by omega)]
          exact hide ⟨rfl, rfl⟩
        have hsh : (32768 : Int) / 2 ^ y = ((2 ^ (15 - y) : Nat) : Int) := shr_div ⟨y, hy15⟩
        have hp : 2 ^ (15 - y) ≤ 32768 := Nat.pow_le_pow_right (n := 2) (by decide) (show 15 - y ≤ 15 by omega)
        obtain ⟨p, HP⟩ : ∃ p : Nat, Hid (p = 2 ^ (15 - y)) := ⟨_, rfl⟩
        rw [← HP.out] at HU2 hsh hp
        go_wp2
        go_roundw
        case rel => exact ⟨k + 1, by omega, by go_num, by rw [HU2.out.1]; go_num, by rw [HU2.out.2]; go_num, trivial⟩
        case measure => simp [intOf]; omega
    · obtain rfl : k = l.length := by omega
      have hlt' : ¬ (l.length : Int) < (l.length : Int) := by omega
      have HF : Hid (l.take l.length = l) := List.take_of_length_le (Nat.le_refl _)
      go_wp2
      go_ret2
      (try rw [HF.out])
      exact ⟨rfl, rfl⟩

/-- Is the code complete, or a single word of one bit? -/
def ful (l : List Int) : Bool := decide (usum l = 32768 ∨ (tsum l = 1 ∧ usum l = 16384))

theorem full_any (v : Value) (l : List Int) (w : World) (h : SI w v l) (hl : ∀ x ∈ l, 0 ≤ x ∧ x ≤ 15) (hn : l.length ≤ 1000000) :
    Calls Tryd.prog 29 #[v] w fun e w' => e = .returned (.bool (ful l)) ∧ w' = w := by
  have HK := hide (lkraft_any v l w h hl hn)
  obtain ⟨ao, cap, rfl, hlc, hcm⟩ := h.open
  have HF : Hid (ful l = decide (usum l = 32768 ∨ (tsum l = 1 ∧ usum l = 16384))) := rfl
  obtain ⟨U, HUU⟩ : ∃ U, Hid (U = usum l) := ⟨_, rfl⟩
  obtain ⟨N, HNN⟩ : ∃ N, Hid (N = tsum l) := ⟨_, rfl⟩
  rw [← HUU.out, ← HNN.out] at HK HF
  clear h hl
  go_enter Tryd.func29, Tryd.ntmps29
  go_wp2_with fail
  refine HK.out.mono ?_
  rintro e w1 ⟨rfl, hw1⟩
  subst hw1
  by_cases u : U = 32768
  · have u' : ((U : Int) == 32768) = true := by simp; omega
    have HR : Hid (ful l = true) := by show _ = _; rw [HF.out]; exact decide_eq_true (.inl u)
    clear u
    go_wp2
    go_ret
    rw [HR.out]
    exact ⟨rfl, rfl⟩
  · have u' : ((U : Int) == 32768) = false := by simp; omega
    by_cases n : N = 1
    · have n' : ((N : Int) == 1) = true := by simp; omega
      by_cases u2 : U = 16384
      · have u2' : ((U : Int) == 16384) = true := by simp; omega
        have HR : Hid (ful l = true) := by show _ = _; rw [HF.out]; exact decide_eq_true (.inr ⟨n, u2⟩)
        clear u n u2
        go_wp2
        go_ret
        rw [HR.out]
        exact ⟨rfl, rfl⟩
      · have u2' : ((U : Int) == 16384) = false := by simp; omega
        have HR : Hid (ful l = false) := by show _ = _; rw [HF.out]; exact decide_eq_false (by omega)
        clear u n u2
        go_wp2
        go_ret
        rw [HR.out]
        exact ⟨rfl, rfl⟩
    · have n' : ((N : Int) == 1) = false := by simp; omega
      have HR : Hid (ful l = false) := by show _ = _; rw [HF.out]; exact decide_eq_false (by omega)
      clear u n
      go_wp2
      go_ret
      rw [HR.out]
      exact ⟨rfl, rfl⟩

/-- The error that Make must answer, by Kraft's sum alone. -/
def vdE (l d : List Int) : Int := if 286 < l.length ∨ 30 < d.length ∨ wthb l = false ∨ wthb d = false then 1 else if l.length < 257 ∨ l.getD 256 0 = 0 ∨ ful l = false then 75 else if 0 < tsum d ∧ ful d = false then 76 else 0
end Go.Proofs.YtiabhmdefaabgabDoor

