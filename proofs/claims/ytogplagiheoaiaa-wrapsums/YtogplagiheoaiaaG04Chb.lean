import Derived.Test.YtogplagiheoaiaaG03Rg9
import Derived.Test.YtogplagiheoaiaaG00OpenA
import Derived.RegionIn
namespace Go.Proofs.Ytogplagiheoaiaa
open Go.RowKit Go.Shelf
attribute [local go_sem] Oper.semAt_some
set_option maxRecDepth 20000
set_option linter.unusedVariables false

theorem chunk_any (a : Option Addr) (n c : Nat) (w : World) : Calls Try.prog 16 #[.slice a n c, .int .i64 5552] w fun e w' => e = .returned (.func (.func 17) #[] #[.pointer (some ⟨w.heap.size, 0, none⟩), .pointer (some ⟨w.heap.size + 1, 0, none⟩)]) ∧ w' = (w.alloc (.cells #[.slice a n c] 22)).alloc (.cells #[.int .i64 5552] 3) := by
  go_enter Try.func16, Try.ntmps16
  go_wp2
  go_ret
  exact ⟨rfl, rfl⟩

def unt (b o N k : Nat) : Value := .slice (some ⟨b, o + 5552 * k, none⟩) (min 5552 (N - 5552 * k)) (min 5552 (N - 5552 * k))

def Cturn (B1 B2 b o N c : Nat) (ao : Option Addr) (Iy Ie : World → Prop) (k : Nat) (W : World) : Prop :=
  W.cell? ⟨B1, 0, none⟩ = some (.slice ao N c) ∧ W.cell? ⟨B2, 0, none⟩ = some (.int .i64 5552) ∧ (N ≤ 5552 * k → Ie W) ∧ (5552 * k < N → ao = some ⟨b, o, none⟩ ∧ ∀ n, Iy (W.drewN n))

set_option maxHeartbeats 1000000 in
theorem chunk_in (l B1 B2 b o N c : Nat) (ao : Option Addr) (hN : N ≤ 140737488351232) (hc : N ≤ c ∧ c ≤ 9223372036854775807) (I : Nat → World → Prop) (Iy : Nat → World → Prop) (Ie Jx : World → Prop) (hI : ∀ k W, I k W → Cturn B1 B2 b o N c ao (Iy k) Ie k W)
    (hY : ∀ k W, Iy k W → YieldAt Fence.wide 1 Try.prog l #[unt b o N k] W fun e W' => (e = .returned (.bool true) ∧ ∃ k', k' = k + 1 ∧ I k' W') ∨ (e = .returned (.bool false) ∧ Jx W'))
    (W : World) (h : I 0 W) (F : Fence) (hF : F = Fence.wide) :
    CallsIn F 2 Try.prog 17 #[.func (.yield l) #[] #[], .pointer (some ⟨B1, 0, none⟩), .pointer (some ⟨B2, 0, none⟩)] W fun e W' => (∃ v, e = .returned v) ∧ (Ie W' ∨ Jx W') := by
  subst hF
  obtain ⟨hc0, hc1, _⟩ := hI _ _ h
  refine callsIn_of_wp Try.func17 rfl trivial ?_ rfl
  simp only [Try.ntmps17, List.size_toArray, List.length_cons, List.length_nil, Nat.reduceAdd, Nat.reduceSub, Array.replicate_succ, Array.replicate_zero, List.push_toArray, List.append_toArray, List.nil_append, List.cons_append]
  gi_wp2
  gi_loopw [4] (fun p wr => ∃ k : Nat, 5552 * k ≤ N + 5552 ∧ p = .int .i64 ((5552 * k : Nat) : Int) ∧ Hid (I k wr)) (fun p _ => N + 6000 - (intOf p).toNat)
  case atStart => exact ⟨0, by omega, rfl, h⟩
  case round =>
    obtain ⟨k, hk, rfl, HI⟩ := hrel
    obtain ⟨h1, h2, h3, h4⟩ := hI _ _ HI.out
    by_cases h0 : N ≤ 5552 * k
    · have HE := hide (h3 h0)
      have hn : ¬ ((5552 * k : Nat) : Int) < (N : Int) := by omega
      clear h3 h4
      gi_wp2
      refine bodyPost_end (results_none rfl _ _ _) rfl ?_
      exact ⟨⟨_, rfl⟩, .inl HE.out⟩
    · obtain ⟨rfl, h6⟩ := h4 (by omega)
      have hkN : ((5552 * k : Nat) : Int) < (N : Int) := by omega
      have HY := hide (fun n => hY _ _ (h6 n))
      obtain ⟨i, hi⟩ : ∃ i, i = 5552 * k := ⟨_, rfl⟩
      have HU : Hid (unt b o N k = .slice (some ⟨b, o + i, none⟩) (min 5552 (N - i)) (min 5552 (N - i))) := by rw [hi]; exact rfl
      have HY1 : Hid (YieldAt Fence.wide 1 Try.prog l #[.slice (some ⟨b, o + i, none⟩) (min 5552 (N - i)) (min 5552 (N - i))] wr.drew fun e W' => (e = .returned (.bool true) ∧ ∃ k', k' = k + 1 ∧ I k' W') ∨ (e = .returned (.bool false) ∧ Jx W')) := by rw [← HU.out]; exact HY.out 1
      rw [← hi] at hkN h0 ⊢
      have HII := hide hi
      clear h3 h4 h6 hi HY HU
      by_cases hf : 5552 ≤ N - i
      · have e1 : min 5552 (N - i) = 5552 := by omega
        rw [e1] at HY1
        obtain ⟨fn, tmps, assign, body, hy, hRd⟩ := HY1.out
        have HRD := hide hRd
        have hf1 : (5552 : Int) ≤ ((N - i : Nat) : Int) := by omega
        clear hRd e1 HY1
        gi_wp2
        gi_region
        all_goals
          gi_wp2_with fail
          refine HRD.out.mono ?_
          rintro e W3 (⟨rfl, k', rfl, hI3⟩ | ⟨rfl, hJx3⟩)
          · have HI3 := hide hI3
            have hs3 := (hI _ _ hI3).2.1
            clear hI3
            gi_wp2
            go_roundw
            case rel => exact ⟨k + 1, by have := HII.out; omega, by rw [HII.out]; go_num, HI3⟩
            case measure => simp [intOf]; omega
          · gi_wp2
            refine bodyPost_ret (results_none rfl _ _ _) rfl ?_
            exact ⟨⟨_, rfl⟩, .inr hJx3⟩
      · have e1 : min 5552 (N - i) = N - i := by omega
        rw [e1] at HY1
        obtain ⟨fn, tmps, assign, body, hy, hRd⟩ := HY1.out
        have HRD := hide hRd
        have hf1 : ¬ (5552 : Int) ≤ ((N - i : Nat) : Int) := by omega
        have e2 : (i : Int) + ((N - i : Nat) : Int) = (N : Int) := by omega
        have e3 : i + (N - i) = N := by omega
        clear hRd e1 HY1
        gi_wp2
        gi_region
        all_goals
          gi_wp2_with fail
          refine HRD.out.mono ?_
          rintro e W3 (⟨rfl, k', rfl, hI3⟩ | ⟨rfl, hJx3⟩)
          · have HI3 := hide hI3
            have hs3 := (hI _ _ hI3).2.1
            clear hI3
            gi_wp2
            go_roundw
            case rel => exact ⟨k + 1, by have := HII.out; omega, by rw [HII.out]; go_num, HI3⟩
            case measure => simp [intOf]; omega
          · gi_wp2
            refine bodyPost_ret (results_none rfl _ _ _) rfl ?_
            exact ⟨⟨_, rfl⟩, .inr hJx3⟩
end Go.Proofs.Ytogplagiheoaiaa

