import Derived.Test.YtiabhmdefaabgabDoorGNdc
import Derived.Test.YtiabhmdefaabgabDoorG3b
namespace Go.Proofs.YtiabhmdefaabgabDoor
open Go.RowKit Go.Maps
set_option maxRecDepth 20000

/-- The first bits as a number, the first one the highest. -/
def mir (v : Int) (n : Nat) : Int := val (bts v n).reverse

theorem mir_succ (v : Int) (k : Nat) : mir v (k + 1) = v / 2 ^ k % 2 + 2 * mir v k := rev_snoc v k

theorem mir_bound (v : Int) (k : Nat) : 0 ≤ mir v k ∧ mir v k < 2 ^ k := rev_bound v k

def rowN (v : Int) : Nat := (mir v 15).toNat

theorem mir_div (v : Int) : ∀ m k, mir v k = mir v (k + m) / 2 ^ m
  | 0, k => by simp
  | m + 1, k => by
    rw [mir_div v m k, show k + (m + 1) = (k + m) + 1 by omega, mir_succ, pow_add1, ← Int.ediv_ediv_of_nonneg (by omega)]
    congr 1
    omega

theorem mir_row (v : Int) {n : Nat} (h : n ≤ 15) : mir v n = ((rowN v / 2 ^ (15 - n) : Nat) : Int) := by
  rw [mir_div v (15 - n) n, show n + (15 - n) = 15 by omega]
  unfold rowN
  have := (mir_bound v 15).1
  rw [Int.natCast_ediv, Int.toNat_of_nonneg this]
  push_cast
  rfl

theorem row_lt (v : Int) : rowN v < 32768 := by
  have := mir_bound v 15
  unfold rowN
  omega

noncomputable def fdS (l : List Int) (R : Nat) : Nat := by
  classical
  exact if h : ∃ s, Hit l R s then h.choose else 0

noncomputable def fdB (l : List Int) (R : Nat) : Bool := by
  classical
  exact decide (∃ s, Hit l R s)

theorem fd_hit {l : List Int} (hl : Lens l) {R s : Nat} (h : Hit l R s) : fdS l R = s ∧ fdB l R = true := by
  have he : ∃ s, Hit l R s := ⟨s, h⟩
  constructor
  · unfold fdS
    rw [dif_pos he]
    exact he.choose_spec.one hl h
  · unfold fdB
    exact @decide_eq_true _ (Classical.propDecidable _) he

theorem fd_none {l : List Int} {R : Nat} (h : ¬ ∃ s, Hit l R s) : fdS l R = 0 ∧ fdB l R = false := by
  constructor
  · unfold fdS
    rw [dif_neg h]
  · unfold fdB
    exact @decide_eq_false _ (Classical.propDecidable _) h

theorem i64_or1 {t b : Int} (h0 : 0 ≤ t) (h1 : t < 2147483648) (hb : b = 0 ∨ b = 1) : bits .or .i64 (t * 2) b = 2 * t + b := by
  rw [bits_join .i64 63 (by decide) (fun n a b => by rw [IntKind.wrap_i64]; omega) 1 (t * 2) b (by omega) (by omega) (by omega) (by omega) (by omega) (by omega)]
  omega

theorem dcE_zero {l : List Int} (h : dcE l = 0) : Lens l ∧ shp l ≠ 0 ∧ shp l ≠ 2 ∧ shp l ≠ 3 := by
  unfold dcE at h
  by_cases h0 : bkE l = 0
  · rw [if_neg (by simp [h0])] at h
    by_cases h2 : shp l = 0
    · rw [if_pos h2] at h; omega
    · have := bkE_zero h0
      exact ⟨this.1, h2, this.2⟩
  · rw [if_pos h0] at h; exact absurd h h0

theorem hit_sym {l sy : List Int} (hl : Lens l) (hs : SymOk l sy) {R n : Nat} (hn : n ≤ 15) (h0 : us l n ≤ R) (h1 : R < us l (n + 1)) : ∃ s j : Nat, Hit l R s ∧ shf l n + ((R / 2 ^ (15 - n) : Nat) : Int) = (j : Int) ∧ j < sy.length ∧ sy.getD j 0 = (s : Int) := by
  obtain ⟨s, a1, a2, a3⟩ := hit_at (l := l) hn h0 h1
  refine ⟨s, ix l s, a1, ?_, by rw [hs.1]; exact ix_lt hl a1.1, hs.2 s a1.1⟩
  rw [a3]
  unfold shf ix
  rw [a2]
  push_cast
  omega

set_option maxHeartbeats 1000000 in
theorem find_any {w : World} {K : Nat → Nat} {g : Nat} {l : List Int} (h : Dp w K g l) (v : Int) (hv0 : 0 ≤ v) (hv1 : v < 32768) :
    Calls Tryd.prog 114 #[.pointer (some ⟨g, 0, none⟩), .int .u32 v] w fun e w' => e = .returned (.tuple #[.int .i64 (fdS l (rowN v)), .bool (fdB l (rowN v))]) ∧ ∃ n, w' = w.drewN n := by
  obtain ⟨vl, vw, vs, sy, a1, a2, a3, a4, a5, _⟩ := h.d
  have hl := (dcE_zero h.ok).1
  have HL := hide hl
  have HD := hide a1
  have HV := hide a4
  have HS := hide a5
  clear h a1 a2 a3 a4 a5 hl
  obtain ⟨R, HR⟩ : ∃ R, Hid (R = rowN v) := ⟨_, rfl⟩
  rw [← HR.out]
  go_enter Tryd.func114, Tryd.ntmps114
  go_wp2
  go_loopw [1, 6, 7] (fun x t i wr => ∃ k : Nat, k ≤ 15 ∧ i = .int .i64 ((k : Int) + 1) ∧ x = .int .u32 (v / 2 ^ k) ∧ t = .int .i64 (mir v k) ∧ wr = w ∧ Hid (us l (k + 1) ≤ R)) (fun _ _ i _ => 16 - (intOf i).toNat)
  case atStart => exact ⟨0, Nat.zero_le _, rfl, by simp, rfl, rfl, by show _ ≤ _; simp [us, cn]⟩
  case round =>
    obtain ⟨k, hk, rfl, rfl, rfl, rfl, HU⟩ := hrel
    by_cases hlt : k < 15
    · have hlt' : (k : Int) + 1 ≤ 15 := by omega
      have hb := mir_bound v k
      have h15 : (2 : Int) ^ k ≤ 2 ^ 15 := pow_le (by omega)
      have hms := mir_succ v k
      have hrow := mir_row v (n := k + 1) (by omega)
      rw [← HR.out] at hrow
      obtain ⟨t, HT⟩ : ∃ t, Hid (t = mir v k) := ⟨_, rfl⟩
      obtain ⟨q, HQ⟩ : ∃ q, Hid (q = v / 2 ^ k) := ⟨_, rfl⟩
      obtain ⟨y, HY⟩ : ∃ y : Nat, Hid (y = R / 2 ^ (15 - (k + 1))) := ⟨_, rfl⟩
      rw [← HT.out] at hb hms ⊢
      rw [← HQ.out] at hms ⊢
      rw [← HY.out] at hrow
      have hy : 2 * t + q % 2 = (y : Int) := by omega
      have hq0 : 0 ≤ q := by rw [HQ.out]; exact Int.ediv_nonneg hv0 (Int.le_of_lt (pow_pos k))
      have hq1 : q < 4294967296 := by rw [HQ.out]; exact Int.lt_of_le_of_lt (Int.ediv_le_self _ hv0) (by omega)
      obtain ⟨t0, t1⟩ := hb
      have ht2 : t < 2147483648 := by omega
      have hand := u32_and1 hq0 hq1
      have hwc : IntKind.i64.wrap (q % 2) = q % 2 := by rw [IntKind.wrap_i64]; omega
      have hor := i64_or1 t0 ht2 (b := q % 2) (by omega)
      rw [hy] at hor
      have HQ2 : Hid (v / 2 ^ (k + 1) = q / 2) := by show _ = _; rw [HQ.out, Int.pow_succ, Int.ediv_ediv_of_nonneg (Int.le_of_lt (pow_pos k))]
      have HMR := hide hrow
      have ce : wr.cell? ⟨g, 19 + (k + 1), none⟩ = some (.int .i64 (en l (k + 1))) := by rw [cell_of_row _ _ _ _ _ _ HD.out, dv_g _ _ _ _ _ (by omega)]
      have hbe := below_end (l := l) (R := R) (n := k + 1) (by omega)
      rw [← HY.out] at hbe
      have he : en l (k + 1) = ((fi l (k + 1) + cn l (k + 1) : Nat) : Int) := by unfold en; push_cast; rfl
      have hyb : y < 32768 := by have := row_lt v; rw [← HR.out] at this; rw [HY.out]; exact Nat.lt_of_le_of_lt (Nat.div_le_self _ _) this
      obtain ⟨E, HEE⟩ : ∃ E : Nat, Hid (E = fi l (k + 1) + cn l (k + 1)) := ⟨_, rfl⟩
      rw [← HEE.out] at hbe he
      rw [he] at ce
      by_cases hin : y < E
      · have hin' : (y : Int) < (E : Int) := by omega
        obtain ⟨s, j, s1, s2, s3, s4⟩ := hit_sym HL.out HS.out (R := R) (n := k + 1) (by omega) HU.out (hbe.1 hin)
        rw [← HY.out] at s2
        obtain ⟨f1, f2⟩ := fd_hit HL.out s1
        have HF : Hid (fdS l R = s ∧ fdB l R = true) := ⟨f1, f2⟩
        obtain ⟨gs, c, hvs, _, _, hc1, hc2⟩ := HV.out.form (by omega)
        have cs := HV.out.get (b := gs) (by rw [hvs]; rfl) s3
        rw [s4] at cs
        have c2 : wr.cell? ⟨g, 2, none⟩ = some vs := by rw [cell_of_row _ _ _ _ _ _ HD.out, dv_2]
        have c3 : wr.cell? ⟨g, 3 + (k + 1), none⟩ = some (.int .i64 (shf l (k + 1))) := by rw [cell_of_row _ _ _ _ _ _ HD.out, dv_f _ _ _ _ _ (by omega)]
        have hx : shf l (k + 1) = (j : Int) - y := by omega
        rw [hx] at c3
        rw [hvs] at c2
        have e1 : (j : Int) - y + y = j := by omega
        have hjl : j < sy.length := s3
        have hj2 : sy.length ≤ 288 := by rw [HS.out.1]; exact Nat.le_trans (sh_le l 16) HL.out.1
        clear hbe he hms hrow hy t1 h15 s1 s2 s3 s4 hx f1 f2 HMR HU
        go_wp2
        go_quiet (fail)
        go_wp2
        go_ret2
        rw [HF.out.1, HF.out.2]
        exact ⟨rfl, _, rfl⟩
      · have hin' : ¬ (y : Int) < (E : Int) := by omega
        have HN : Hid (us l (k + 1 + 1) ≤ R) := by
          show _ ≤ _
          have := fun h => hin (hbe.2 h)
          omega
        clear hbe he hms hrow hy t1 h15 HU
        go_wp2
        go_roundw
        case rel => exact ⟨k + 1, by omega, by go_num, by rw [HQ2.out], by rw [HMR.out], by trivial, HN⟩
        case measure => simp [intOf]; omega
    · obtain rfl : k = 15 := by omega
      have hlt' : ¬ ((15 : Nat) : Int) + 1 ≤ 15 := by omega
      have hn : ¬ ∃ s, Hit l R s := fun ⟨s, hs⟩ => by have h1 := hs.top HL.out; have h2 : us l 16 ≤ R := HU.out; omega
      obtain ⟨f1, f2⟩ := fd_none hn
      have HF : Hid (fdS l R = 0 ∧ fdB l R = false) := ⟨f1, f2⟩
      clear hn f1 f2 HU
      go_wp2
      go_ret2
      rw [HF.out.1, HF.out.2]
      exact ⟨rfl, 0, rfl⟩
end Go.Proofs.YtiabhmdefaabgabDoor

