import Derived.Test.YtgengoffkoonfabSgl
namespace Go.Proofs.Ytgengoffkoonfab
open Go.RowKit Go.Maps
set_option maxRecDepth 20000
set_option linter.unusedVariables false

/-- Two ranges of one length change places: so many done. -/
def swk (A U M V Z : List Int) (k : Nat) : List Int := A ++ (V.take k ++ U.drop k) ++ M ++ (U.take k ++ V.drop k) ++ Z

theorem swk_step (A U M V Z : List Int) (k : Nat) (hk : k < U.length) (hv : V.length = U.length) :
    swp (swk A U M V Z k) (A.length + k) (A.length + U.length + M.length + k) = swk A U M V Z (k + 1) := by
  have hkv : k < V.length := by omega
  unfold swk
  rw [List.drop_eq_getElem_cons hk, List.drop_eq_getElem_cons hkv, List.take_succ_eq_append_getElem hk, List.take_succ_eq_append_getElem hkv]
  have e := swp_two (A ++ V.take k) (U.drop (k + 1) ++ M ++ U.take k) (V.drop (k + 1) ++ Z) U[k] V[k] (A.length + k) (A.length + U.length + M.length + k) (by simp; omega) (by simp; omega)
  simp only [List.append_assoc, List.cons_append, List.nil_append] at e ⊢
  exact e

theorem swk_len (A U M V Z : List Int) (k : Nat) (hk : k ≤ U.length) (hv : V.length = U.length) : (swk A U M V Z k).length = A.length + U.length + M.length + V.length + Z.length := by
  simp [swk]; omega

set_option maxHeartbeats 1000000 in
theorem swr_any {w0 w : World} {B c : Nat} (A U M V Z : List Int) (X : List Int) (hX : X = A ++ U ++ M ++ V ++ Z) (h : Srow w0 w B c X) (fv : Value) (hv : V.length = U.length) (hL : X.length ≤ 288)
    (a b n : Nat) (ha : a = A.length) (hb : b = A.length + U.length + M.length) (hn : n = U.length) (T : List Int) (hT : T = A ++ V ++ M ++ U ++ Z) :
    Calls Try.prog 87 #[.slice (some ⟨B, 0, none⟩) X.length c, .int .i64 a, .int .i64 b, .int .i64 n, fv] w fun e w' => e = .returned (.tuple #[]) ∧ Srow w0 w' B c T := by
  have hlen : A.length + U.length + M.length + V.length + Z.length = X.length := by rw [hX]; simp; omega
  have e0 : swk A U M V Z 0 = X := by rw [hX]; simp [swk]
  have H0 : Hid (Srow w0 w B c (swk A U M V Z 0)) := by rw [e0]; exact h
  clear e0
  have HC := h.cap
  obtain ⟨L, HLL⟩ : ∃ L, Hid (L = X.length) := ⟨_, rfl⟩
  rw [← HLL.out] at hlen HC hL ⊢
  have HV := hide hv
  have hn' : n = V.length := by omega
  have HA := hide ha
  have HBB := hide hb
  have HN := hide hn
  have hbn : b + n + Z.length = L := by omega
  have han : a + n + M.length = b := by omega
  have HTT := hide hT
  clear hX h hv ha hb hn hn' hlen HLL hT
  go_enter Try.func87, Try.ntmps87
  go_wp2
  go_loopw [10] (fun i wr => ∃ k : Nat, k ≤ n ∧ i = .int .i64 k ∧ Hid (Srow w0 wr B c (swk A U M V Z k))) (fun i _ => n - (intOf i).toNat)
  case atStart => exact ⟨0, Nat.zero_le _, rfl, H0⟩
  case round =>
    obtain ⟨k, hk, rfl, HS⟩ := hrel
    by_cases hlt : k < n
    · have hlt' : (k : Int) < (n : Int) := by omega
      have hkl := swk_len A U M V Z k (by rw [← HN.out]; exact hk) HV.out
      have hkl2 : (swk A U M V Z k).length = L := by rw [hkl]; have := HA.out; have := HBB.out; have := HN.out; have := HV.out; omega
      have HST := hide (swk_step A U M V Z k (by rw [← HN.out]; exact hlt) HV.out)
      rw [← HBB.out, ← HA.out] at HST
      obtain ⟨X1, HX1⟩ : ∃ X1, Hid (X1 = swk A U M V Z k) := ⟨_, rfl⟩
      rw [← HX1.out] at HS HST hkl2
      have c1 := HS.out.get (i := a + k) (by omega)
      have c2 := HS.out.get (i := b + k) (by omega)
      have f1 := HS.out.fz (i := a + k) (by omega)
      have f2 := HS.out.fz (i := b + k) (by omega)
      have hsw := HS.out.swap (i := a + k) (j := b + k) (by omega) (by omega)
      rw [HST.out] at hsw
      obtain ⟨x, hx⟩ : ∃ x, X1.getD (a + k) 0 = x := ⟨_, rfl⟩
      obtain ⟨y, hy⟩ : ∃ x, X1.getD (b + k) 0 = x := ⟨_, rfl⟩
      rw [hx] at c1 hsw
      rw [hy] at c2 hsw
      have HSW := hide hsw.drew
      have i1 : ((a : Int) + k) = ((a + k : Nat) : Int) := by omega
      have i2 : ((b : Int) + k) = ((b + k : Nat) : Int) := by omega
      have w1 : IntKind.i64.wrap ((a : Int) + k) = ((a + k : Nat) : Int) := by rw [IntKind.wrap_i64]; omega
      have w2 : IntKind.i64.wrap ((b : Int) + k) = ((b + k : Nat) : Int) := by rw [IntKind.wrap_i64]; omega
      obtain ⟨p, hp⟩ : ∃ p, a + k = p := ⟨_, rfl⟩
      obtain ⟨r, hr⟩ : ∃ r, b + k = r := ⟨_, rfl⟩
      rw [hp] at c1 f1 w1 HSW
      rw [hr] at c2 f2 w2 HSW
      have hpr : ¬ p = r := by omega
      have hpr' : ¬ r = p := by omega
      have hpL : (p : Int) < (L : Int) := by omega
      have hrL : (r : Int) < (L : Int) := by omega
      clear hx hy hsw i1 i2 hkl hkl2 hp hr
      go_wp2
      go_region
      go_wp2
      go_roundw
      case rel => exact ⟨k + 1, by omega, by go_num, HSW⟩
      case measure => simp [intOf]; omega
    · obtain rfl : k = n := by omega
      have hlt' : ¬ (k : Int) < (k : Int) := by omega
      have HF : Hid (Srow w0 wr B c T) := by
        have h := HS.out
        unfold swk at h
        rw [HN.out, List.take_of_length_le (Nat.le_of_eq HV.out), List.drop_of_length_le (Nat.le_refl _), List.take_of_length_le (Nat.le_refl _), List.drop_of_length_le (Nat.le_of_eq HV.out), List.append_nil, List.append_nil] at h
        rw [HTT.out]
        exact h
      go_wp2
      (try simp only [Exit.inBlock, Exit.then])
      refine bodyPost_end (results_none rfl _ _ _) rfl ?_
      exact ⟨rfl, HF.out⟩
end Go.Proofs.Ytgengoffkoonfab
