import Derived.Test.YtogplagiheoaiaaG10Adw
namespace Go.Proofs.Ytogplagiheoaiaa
open Go.RowKit Go.Maps
set_option maxRecDepth 20000
set_option linter.unusedVariables false

theorem wrapV {a : Int} (h0 : 0 ≤ a) (h1 : a < 18446744073709551616) : IntKind.u64.wrap a = a := by
  have e : IntKind.u64.bits = 64 := rfl
  have e2 : IntKind.u64.signed = false := rfl
  simp [IntKind.wrap, e, e2]
  omega

theorem wAdler_any (v : Value) (l : List Int) (w : World) (h : SB w v l) (hy : Byt l) (hr : l.length ≤ 140737488351232) :
    Calls Try.prog 6 #[v] w fun e w' => e = .returned (.int .u32 (adl l)) ∧ Below w.heap.size w w' := by
  have H := hide (adler_any v l w h hy hr)
  obtain ⟨a, c, rfl⟩ : ∃ a c, v = .slice a l.length c := by obtain ⟨a, c, h, _⟩ := h; exact ⟨a, c, h⟩
  clear h
  go_enter Try.func6, Try.ntmps6
  go_wp2_with fail
  refine H.out.mono ?_
  rintro e w' ⟨rfl, hb⟩
  have HB := hide hb
  clear hb
  go_wp2
  go_ret
  exact ⟨rfl, HB.out⟩

theorem mul_in {n t : Int} (h1 : 0 ≤ n) (h2 : n ≤ 16777216) (h3 : 0 ≤ t) (h4 : t ≤ 200000) : 0 ≤ n * t ∧ n * t ≤ 3355443200000 :=
  ⟨Int.mul_nonneg h1 h3, Int.le_trans (Int.mul_le_mul h2 h4 h3 (by omega)) (by omega)⟩

theorem jexp (f s n : Int) (hf : 0 ≤ f ∧ f < 4294967296) (hs : 0 ≤ s ∧ s < 4294967296) (hn : 0 ≤ n ∧ n ≤ 16777216) :
    IntKind.u64.wrap (IntKind.u64.wrap ((IntKind.u64.wrap (f / 65536 + s / 65536 + IntKind.u64.wrap (n * (f % 65536 + 65521 - 1)))).tmod 65521 * 65536) + (f % 65536 + 65521 - 1 + s % 65536) % 65521) % 4294967296 = jn f s n := by
  have e : f % 65536 + 65521 - 1 = f % 65536 + 65520 := by omega
  obtain ⟨m1, m2⟩ := mul_in hn.1 hn.2 (t := f % 65536 + 65520) (by omega) (by omega)
  unfold jn jA jB
  rw [e]
  generalize n * (f % 65536 + 65520) = P at m1 m2 ⊢
  rw [wrapV (a := P) (by omega) (by omega), wrapV (a := f / 65536 + s / 65536 + P) (by omega) (by omega)]
  rw [Int.tmod_eq_emod_of_nonneg (by omega)]
  rw [wrapV (a := (f / 65536 + s / 65536 + P) % 65521 * 65536) (by omega) (by omega)]
  rw [wrapV (by omega) (by omega)]
  omega

theorem ret_u32 {a b : Int} (h : a = b) : Ending.returned (.int .u32 a) = .returned (.int .u32 b) := by rw [h]

set_option maxHeartbeats 2000000 in
theorem joinedA_any (f s n : Int) (w : World) (hf : 0 ≤ f ∧ f < 4294967296) (hs : 0 ≤ s ∧ s < 4294967296) (hn : 0 ≤ n ∧ n ≤ 16777216) :
    Calls Try.prog 15 #[.int .u32 f, .int .u32 s, .int .i64 n] w fun e w' => e = .returned (.int .u32 (jn f s n)) ∧ w' = w := by
  have HJ := hide (jexp f s n hf hs hn)
  obtain ⟨f1, f2⟩ := hf
  obtain ⟨s1, s2⟩ := hs
  obtain ⟨n1, n2⟩ := hn
  go_enter Try.func15, Try.ntmps15
  go_wp2
  go_ret
  exact ⟨ret_u32 HJ.out, rfl⟩

def jnE (n : Int) : Int := if n < 0 ∨ 16777216 < n then 1 else 0
def jnS (f s n : Int) : Int := if n < 0 ∨ 16777216 < n then 0 else jn f s n

theorem wJoin_any (f s n : Int) (w : World) (hf : 0 ≤ f ∧ f < 4294967296) (hs : 0 ≤ s ∧ s < 4294967296) (ho : -9223372036854775808 ≤ n ∧ n ≤ 9223372036854775807) :
    Calls Try.prog 7 #[.int .u32 f, .int .u32 s, .int .i64 n] w fun e w' => e = .returned (.tuple #[.int .u32 (jnS f s n), .int .i64 (jnE n)]) ∧ w' = w := by
  obtain ⟨o1, o2⟩ := ho
  unfold jnS jnE
  by_cases h1 : n < 0
  · rw [if_pos (.inl h1), if_pos (.inl h1)]
    go_enter Try.func7, Try.ntmps7
    go_wp2
    go_ret2
    exact ⟨rfl, rfl⟩
  by_cases h2 : 16777216 < n
  · rw [if_pos (.inr h2), if_pos (.inr h2)]
    go_enter Try.func7, Try.ntmps7
    go_wp2
    go_ret2
    exact ⟨rfl, rfl⟩
  rw [if_neg (by omega), if_neg (by omega)]
  have H := hide (joinedA_any f s n w hf hs (by omega))
  go_enter Try.func7, Try.ntmps7
  go_wp2_with fail
  refine H.out.mono ?_
  rintro e w' ⟨rfl, rfl⟩
  go_wp2
  go_ret2
  exact ⟨rfl, rfl⟩

end Go.Proofs.Ytogplagiheoaiaa

