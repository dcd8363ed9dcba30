import Derived.Test.YtgengoffkoonfabIbs
import Derived.Test.YtgengoffkoonfabRg6
namespace Go.Proofs.Ytgengoffkoonfab
open Go.RowKit Go.Shelf
attribute [local go_sem] Oper.semAt_some
set_option maxRecDepth 20000
set_option linter.unusedVariables false

theorem bwd_any (a : Option Addr) (n c : Nat) (w : World) : Calls Try.prog 45 #[.slice a n c] w fun e w' => e = .returned (.func (.func 65) #[] #[.pointer (some ⟨w.heap.size, 0, none⟩)]) ∧ w' = w.alloc (.cells #[.slice a n c] 71) := by
  go_enter Try.func45, Try.ntmps45
  go_wp2
  go_ret
  exact ⟨rfl, rfl⟩

/-- What the iterator finds ahead of a turn: m rows are left. -/
def Bturn (B g c K : Nat) (Iy : Nat × Value → World → Prop) (Ie : World → Prop) (m : Nat) (W : World) : Prop :=
  m ≤ K ∧ W.cell? ⟨B, 0, none⟩ = some (.slice (some ⟨g, 0, none⟩) K c) ∧ (m = 0 → Ie W) ∧ ∀ k, m = k + 1 → ∃ a n' c', W.cell? ⟨g, k, none⟩ = some (.slice a n' c') ∧ Iy (k, .slice a n' c') W

set_option maxHeartbeats 1000000 in
theorem bwd_in (l B g c K : Nat) (hK : K ≤ 1000) (I : Nat → World → Prop) (Iy : Nat → Nat × Value → World → Prop) (Ie Jx : World → Prop) (hI : ∀ m W, I m W → Bturn B g c K (Iy m) Ie m W)
    (hY : ∀ m x W, Iy m x W → YieldAt Fence.wide 1 Try.prog l #[.int .i64 (x.1 : Int), x.2] W fun e W' => (e = .returned (.bool true) ∧ ∃ m', m' + 1 = m ∧ I m' W') ∨ (e = .returned (.bool false) ∧ Jx W'))
    (W : World) (h : I K W) (F : Fence) (hF : F = Fence.wide) :
    CallsIn F 2 Try.prog 65 #[.func (.yield l) #[] #[], .pointer (some ⟨B, 0, none⟩)] W fun e W' => (∃ v, e = .returned v) ∧ (Ie W' ∨ Jx W') := by
  subst hF
  obtain ⟨_, hc0, _⟩ := hI _ _ h
  refine callsIn_of_wp Try.func65 rfl trivial ?_ rfl
  simp only [Try.ntmps65, List.size_toArray, List.length_cons, List.length_nil, Nat.reduceAdd, Nat.reduceSub, Array.replicate_succ, Array.replicate_zero, List.push_toArray, List.append_toArray, List.nil_append, List.cons_append]
  gi_wp2
  gi_loopw [3] (fun p wr => ∃ m : Nat, m ≤ K ∧ p = .int .i64 ((m : Int) - 1) ∧ Hid (I m wr)) (fun p _ => ((intOf p) + 1).toNat)
  case atStart => exact ⟨K, Nat.le_refl _, by go_num, h⟩
  case round =>
    obtain ⟨m, hm, rfl, HI⟩ := hrel
    obtain ⟨h1, h2, h3, h4⟩ := hI _ _ HI.out
    by_cases h0 : m = 0
    · have HE := hide (h3 h0)
      subst h0
      have hn : ¬ (0 : Int) ≤ ((0 : Nat) : Int) - 1 := by omega
      clear h3 h4
      gi_wp2
      refine bodyPost_end (results_none rfl _ _ _) rfl ?_
      exact ⟨⟨_, rfl⟩, .inl HE.out⟩
    · obtain ⟨k, rfl⟩ : ∃ k, m = k + 1 := ⟨m - 1, by omega⟩
      obtain ⟨a, n', c', h5, h6⟩ := h4 k rfl
      have e1 : ((k + 1 : Nat) : Int) - 1 = (k : Int) := by omega
      have hk0 : (0 : Int) ≤ (k : Int) := by omega
      have hkK : (k : Int) < (K : Int) := by omega
      rw [e1]
      obtain ⟨fn, tmps, assign, body, hy, hRd⟩ := hY _ _ _ h6
      dsimp only at hy
      clear h3 h4 h6 e1
      gi_wp2
      refine hRd.mono ?_
      rintro e W3 (⟨rfl, m', hm', hI3⟩ | ⟨rfl, hJx3⟩)
      · obtain rfl : m' = k := by omega
        have HI3 := hide hI3
        clear hI3
        gi_wp2
        go_roundw
        case rel => exact ⟨m', by omega, by go_num, HI3⟩
        case measure => simp [intOf]
      · gi_wp2
        refine bodyPost_ret (results_none rfl _ _ _) rfl ?_
        exact ⟨⟨_, rfl⟩, .inr hJx3⟩
end Go.Proofs.Ytgengoffkoonfab
