import Derived.Test.YtdfggdafflkkcaaGBow
namespace Go.Proofs.Ytdfggdafflkkcaa
open Go.RowKit Go.Maps
set_option maxRecDepth 20000
set_option linter.unusedVariables false
set_option linter.unusedSimpArgs false

set_option maxHeartbeats 8000000 in
theorem own6_no (f : List Int) (lim : Int) (h64 : -9223372036854775808 ≤ lim ∧ lim ≤ 9223372036854775807) (v : Value) (w : World) (h : SI w v f) (hno : ¬ (Sound f ∧ 1 ≤ lim ∧ lim ≤ 15 ∧ (us f).length ≤ 2 ^ lim.toNat)) :
    Calls Try.prog 3 #[v, .int .i64 lim] w fun e w' => e = .returned (.bool true) ∧ Below w.heap.size w w' := by
  obtain ⟨ao, cap, rfl, hlc, hcm⟩ := h.open
  have HS := hide h
  have HNO := hide hno
  obtain ⟨b, hb⟩ : ∃ b, b = (decide (f.length ≤ 288) && bnb f 4294967296) := ⟨_, rfl⟩
  have HBB := hide hb
  have HSO : Hid (∀ W v, SI W v f → Calls Try.prog 4 #[v] W fun e w' => e = .returned (.bool b) ∧ w' = W) := fun W v h => by rw [hb]; exact sound_any v f W h
  clear h hno hb
  go_enter Try.func3, Try.ntmps3
  go_wp2_with fail
  refine (HSO.out _ _ HS.out).mono ?_
  rintro e wx ⟨rfl, hwx⟩
  rw [hwx]
  clear hwx
  cases b with
  | false =>
    go_wp2
    go_ret
    exact ⟨rfl, Below.refl _ _⟩
  | true =>
    have HSn : Hid (Sound f) := by
      have h := HBB.out.symm
      rw [Bool.and_eq_true] at h
      exact ⟨of_decide_eq_true h.1, bnb_iff.1 h.2⟩
    by_cases h1 : lim < 1
    · have hd1 : decide (lim < 1) = true := decide_eq_true h1
      go_wp2
      go_ret
      exact ⟨rfl, Below.refl _ _⟩
    · have hd1 : decide (lim < 1) = false := decide_eq_false h1
      by_cases h2 : 15 < lim
      · have hd2 : decide ((15 : Int) < lim) = true := decide_eq_true h2
        go_wp2
        go_ret
        exact ⟨rfl, Below.refl _ _⟩
      · obtain ⟨L, rfl⟩ : ∃ L : Nat, lim = (L : Int) := ⟨lim.toNat, by omega⟩
        have hd2 : decide ((15 : Int) < (L : Int)) = false := decide_eq_false h2
        obtain ⟨U, hU⟩ : ∃ U, U = (us f).length := ⟨_, rfl⟩
        have HUS : Hid (∀ W v, SI W v f → Calls Try.prog 5 #[v] W fun e w' => e = .returned (.int .i64 (U : Int)) ∧ w' = W) := fun W v h => by rw [hU]; exact uses_any v f W h HSn.out.len
        obtain ⟨p2, hp2⟩ : ∃ p : Nat, p = 2 ^ L := ⟨_, rfl⟩
        have hUp : ((p2 : Nat) : Int) < (U : Int) := by
          have hn : ¬ (us f).length ≤ 2 ^ L := fun hu => HNO.out ⟨HSn.out, by omega, by omega, by rw [Int.toNat_natCast]; exact hu⟩
          rw [hU, hp2]
          omega
        have hsh : ∀ W : World, (Op.shift BinOp.shl IntKind.i64 1 IntKind.u64 (L : Int)).run Try.prog W = .ok (.int .i64 (p2 : Int)) W := fun W => by rw [hp2]; exact shl_run L (by omega) W
        have hu1 : (L : Int) % 18446744073709551616 = (L : Int) := by omega
        have hpw : wrap64 ((2 : Int) ^ L) = (p2 : Int) := by
          have h3 := w64shl (m := L) (p := p2) (by omega) (by rw [hp2]; exact Nat.le_trans (Nat.pow_le_pow_right (by omega) (show L ≤ 15 by omega)) (by decide)) hp2
          rwa [Nat.min_eq_left (by omega)] at h3
        have hd3 : decide ((p2 : Int) < (U : Int)) = true := decide_eq_true hUp
        clear hU hp2
        go_wp2_with fail
        refine (HUS.out _ _ HS.out).mono ?_
        rintro e wx2 ⟨rfl, hwx⟩
        rw [hwx]
        clear hwx
        go_wp2
        go_ret
        exact ⟨rfl, Below.refl _ _⟩

theorem own6_walk (f : List Int) (lim : Int) (h64 : -9223372036854775808 ≤ lim ∧ lim ≤ 9223372036854775807) (v : Value) (w : World) (h : SI w v f) :
    Calls Try.prog 3 #[v, .int .i64 lim] w fun e w' => e = .returned (.bool true) ∧ Below w.heap.size w w' := by
  by_cases hy : Sound f ∧ 1 ≤ lim ∧ lim ≤ 15 ∧ (us f).length ≤ 2 ^ lim.toNat
  · obtain ⟨h1, h2, h3, h4⟩ := hy
    obtain ⟨L, rfl⟩ : ∃ L : Nat, lim = (L : Int) := ⟨lim.toNat, by omega⟩
    rw [Int.toNat_natCast] at h4
    exact own6_yes f L h1 ⟨by omega, by omega⟩ h4 v w h
  · exact own6_no f lim h64 v w h hy
end Go.Proofs.Ytdfggdafflkkcaa

