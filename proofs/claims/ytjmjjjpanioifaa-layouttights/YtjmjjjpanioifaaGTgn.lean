import Derived.Test.YtjmjjjpanioifaaGEnt
import Derived.BigRegion
namespace Go.Proofs.Ytjmjjjpanioifaa
open Go.RowKit Go.Maps
set_option maxRecDepth 20000
set_option linter.unusedVariables false
set_option linter.unusedSimpArgs false

/-- How many bytes an extent has. -/
def xb (f t : Int) : Int := if t < f then 0 else if 16777216 < t - f then 0 else t - f

theorem xb_in (f t : Int) : 0 ≤ xb f t ∧ xb f t ≤ 16777216 := by
  unfold xb
  split
  · omega
  · split <;> omega

def ent1 (e : Ent) : Int := 46 + e.cen.loc.name.size + e.cen.loc.extra.size + e.cen.comment.size + xb e.frm e.til

def tsum : List Ent → Int
  | [] => 0
  | e :: r => ent1 e + tsum r

theorem tsum_app (a b : List Ent) : tsum (a ++ b) = tsum a + tsum b := by
  induction a with
  | nil => simp [tsum]
  | cons x r ih => simp only [List.cons_append, tsum, ih]; omega

theorem tsum_take {l : List Ent} {j : Nat} (h : j < l.length) : tsum (l.take (j + 1)) = tsum (l.take j) + ent1 (l.getD j Ent.zero) := by
  rw [List.take_succ_eq_append_getElem h, tsum_app]
  simp [tsum, List.getD, h]

/-- The answer. -/
def tig (l : List Ent) (cm : ByteArray) : Int := wrap64 (22 + cm.size + tsum l)

theorem wr_l (x y : Int) : wrap64 (wrap64 x + y) = wrap64 (x + y) := by unfold wrap64; omega
theorem wr_r (x y : Int) : wrap64 (x + wrap64 y) = wrap64 (x + y) := by unfold wrap64; omega
theorem wr_s (x y : Int) : wrap64 (wrap64 x - y) = wrap64 (x - y) := by unfold wrap64; omega
theorem i64_w (x : Int) : IntKind.i64.wrap x = wrap64 x := by rw [IntKind.wrap_i64, wrap64]
theorem wr_t (x : Int) : wrap64 (wrap64 x) = wrap64 x := by unfold wrap64; omega

theorem wrap_in (x : Int) : -9223372036854775808 ≤ wrap64 x ∧ wrap64 x ≤ 9223372036854775807 := by unfold wrap64; omega

theorem tig_next {l : List Ent} {cm : ByteArray} {j : Nat} (h : j < l.length) : tig (l.take (j + 1)) cm = wrap64 (tig (l.take j) cm + ent1 (l.getD j Ent.zero)) := by
  unfold tig
  rw [tsum_take h, wr_l]
  exact congrArg wrap64 (by omega)

set_option maxHeartbeats 4000000 in
theorem extentBytes_any (b p : Nat) (f t : Int) (w : World) (hf : w.cell? ⟨b, p + 17, none⟩ = some (.int .i64 f)) (ht : w.cell? ⟨b, p + 19, none⟩ = some (.int .i64 t)) (f64 : Ok64 f) (t64 : Ok64 t) :
    Calls Try.prog 29 #[.pointer (some ⟨b, p, none⟩)] w fun e w' => e = .returned (.int .i64 (xb f t)) ∧ ∃ n, w' = w.drewN n := by
  obtain ⟨f0, f1⟩ := f64
  obtain ⟨t0, t1⟩ := t64
  by_cases h1 : t < f
  · have HX : Hid (xb f t = 0) := if_pos h1
    go_enter Try.func29, Try.ntmps29
    go_wp2
    go_region
    all_goals (
      go_wp2
      go_ret
      exact ⟨by rw [HX.out]; rfl, 1, rfl⟩)
  have hcf : w.drew.cell? ⟨b, p + 17, none⟩ = some (.int .i64 f) := hf
  have hct : w.drew.cell? ⟨b, p + 19, none⟩ = some (.int .i64 t) := ht
  have hw : IntKind.u64.wrap (IntKind.u64.wrap t - IntKind.u64.wrap f) = t - f := by rw [IntKind.wrap_u64, IntKind.wrap_u64, IntKind.wrap_u64]; omega
  have hw2 : (t % 18446744073709551616 - f % 18446744073709551616) % 18446744073709551616 = t - f := by omega
  obtain ⟨D, hD⟩ : ∃ D, D = t - f := ⟨_, rfl⟩
  rw [← hD] at hw hw2
  by_cases h2 : 16777216 < D
  · have HX : Hid (xb f t = 0) := by show _ = _; unfold xb; rw [if_neg h1, if_pos (by omega)]
    clear hD
    go_enter Try.func29, Try.ntmps29
    go_wp2
    go_region
    all_goals (
      go_wp2
      go_region
      all_goals (
        go_wp2
        go_ret
        exact ⟨by rw [HX.out]; rfl, 2, rfl⟩))
  · have HX : Hid (xb f t = D) := by show _ = _; unfold xb; rw [if_neg h1, if_neg (by omega), hD]
    have d0 : 0 ≤ D := by omega
    have hw3 : IntKind.i64.wrap D = D := by rw [IntKind.wrap_i64]; omega
    clear hD
    go_enter Try.func29, Try.ntmps29
    go_wp2
    go_region
    all_goals (
      go_wp2
      go_region
      all_goals (
        go_wp2
        go_ret
        exact ⟨by rw [HX.out]; first | rfl | simp [hw3], 2, rfl⟩))
end Go.Proofs.Ytjmjjjpanioifaa

