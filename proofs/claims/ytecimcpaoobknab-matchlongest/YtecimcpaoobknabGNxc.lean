import Derived.Test.YtecimcpaoobknabGTll
import Derived.Test.YtecimcpaoobknabGEx
import Derived.Test.YtecimcpaoobknabGTnl
import Derived.BigQuiet
namespace Go.Proofs.Ytecimcpaoobknab
open Go.RowKit Go.Maps
set_option maxRecDepth 20000
set_option linter.unusedVariables false

/-- Behind literals that were put off comes a copy that is longer by as many. -/
def Far (D : List Int) (W C : Nat) (z : Bool) (T : List Tk) (i m : Nat) : Prop :=
  ∃ t len : Nat, t < T.length ∧ (∀ q, q < t → (T.getD q tk0).1 = 0) ∧ (T.getD t tk0).1 = (len : Int) ∧ m + t ≤ len ∧ (Lit D W C z i → z = true)

theorem far_lit {D : List Int} {W C : Nat} {z : Bool} {T : List Tk} {i m m' : Nat} {u : Tk} (hz : z = true) (hu : u.1 = 0) (hm : m < m') (h : Far D W C z T (i + 1) m') : Far D W C z (u :: T) i m := by
  obtain ⟨t, len, e1, e2, e3, e4, _⟩ := h
  refine ⟨t + 1, len, by simp; omega, fun q hq => ?_, by simpa using e3, by omega, fun _ => hz⟩
  cases q with
  | zero => exact hu
  | succ q => simpa using e2 q (by omega)

theorem far_cpy {D : List Int} {W C : Nat} {z : Bool} {T : List Tk} {i m : Nat} {u : Tk} (hL : ¬ Lit D W C z i) (hu : u.1 = (m : Int)) : Far D W C z (u :: T) i m :=
  ⟨0, m, by simp, fun q hq => by omega, by simpa using hu, Nat.le_refl _, fun e => absurd e hL⟩

theorem lazy_far {D : List Int} {W C : Nat} {z : Bool} (n : Nat) : ∀ i : Nat, i < D.length → D.length ≤ i + n → 0 < (bst D i W C).1 → Far D W C z (tks D W C z n i) i (bst D i W C).1 := by
  induction n with
  | zero => intro i hi hn _; omega
  | succ n ih =>
    intro i hi hn h0
    rw [tks_go hi]
    obtain ⟨B, hB⟩ : ∃ B, bst D i W C = B := ⟨_, rfl⟩
    by_cases hL : Lit D W C z i
    · have hL2 := hL
      unfold Lit at hL2
      rw [says_lit hL]
      rcases hL2 with e | ⟨hz, h1, h2⟩
      · omega
      · exact far_lit hz (by rw [tok_lit hL]) h2 (ih (i + 1) h1 (by omega) (by omega))
    · exact far_cpy hL (by rw [tok_cpy hL])

theorem getD_drop {R : List Tk} (k q : Nat) : (R.drop k).getD q tk0 = R.getD (k + q) tk0 := by
  simp [List.getD_eq_getElem?_getD, List.getElem?_drop]

theorem nextCopy_at (v : Value) (R : List Tk) (k t len : Nat) (w : World) (h : SK w v R) (hq : ∀ q, q < t → (R.getD (k + q) tk0).1 = 0) (hk : k + t < R.length) (hl : (R.getD (k + t) tk0).1 = (len : Int)) (h0 : 0 < len) (hb : R.length ≤ 1000000000) :
    Calls Try.prog 21 #[v, .int .i64 (k : Int)] w fun e w' => e = .returned (.tuple #[.int .i64 (len : Int), .int .i64 (t : Int)]) ∧ ∃ n, w' = w.drewN n := by
  have HS := hide h
  have HQ := hide hq
  obtain ⟨ao, cap, rfl, hlc, hcm⟩ := h.open
  clear h hq
  go_enter Try.func21, Try.ntmps21
  go_wp2
  go_loopw [6] (fun s wr => ∃ j n : Nat, j ≤ t ∧ s = .int .i64 ((k + j : Nat) : Int) ∧ wr = w.drewN n) (fun s _ => k + t - (intOf s).toNat)
  case atStart => exact ⟨0, 0, Nat.zero_le _, rfl, rfl⟩
  case round =>
    obtain ⟨j, n, hj, rfl, hw⟩ := hrel
    subst hw
    obtain ⟨kj, hkj⟩ : ∃ kj, k + j = kj := ⟨_, rfl⟩
    rw [hkj]
    have hlt : (kj : Int) < (R.length : Int) := by omega
    obtain ⟨b, o, rfl, c0, _, _⟩ := HS.out.get (w := w.drewN n) (below_drewN (Below.refl _ _) n) (k := kj) (by omega)
    by_cases hjt : j < t
    · have hz := HQ.out j hjt
      rw [hkj] at hz
      rw [hz] at c0
      go_wp2
      go_roundw
      case rel => exact ⟨j + 1, n, by omega, by go_num, rfl⟩
      case measure => simp [intOf]; omega
    · obtain rfl : j = t := by omega
      rw [← hkj, hl, hkj] at c0
      have hl0 : (0 : Int) < (len : Int) := by omega
      have hkk : (kj : Int) - (k : Int) = (j : Int) := by omega
      go_wp2
      refine bodyPost_ret (results_tmp2 rfl _ _ _) rfl ?_
      exact ⟨rfl, n, rfl⟩
end Go.Proofs.Ytecimcpaoobknab

