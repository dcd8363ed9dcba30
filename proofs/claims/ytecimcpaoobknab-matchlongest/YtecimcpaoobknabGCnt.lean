import Derived.Test.YtecimcpaoobknabGBn
import Derived.Test.YtecimcpaoobknabGBsx
namespace Go.Proofs.Ytecimcpaoobknab
open Go.RowKit Go.Maps
set_option maxRecDepth 20000
set_option linter.unusedVariables false

def cntb (D : List Int) (j i W C : Nat) : Bool := decide (i - j ≤ W ∧ Cnd D j i ∧ (asc D i (j + 1) (i - 1 - j)).length < C)

set_option maxHeartbeats 2000000 in
theorem counts_any (v : Value) (D : List Int) (j i W C : Nat) (z : Bool) (w : World) (h : SB w v D) (hji : j < i) (hi : i < D.length) (hn : D.length ≤ 1000000000) (hW : W ≤ 32768) (hC : C ≤ 4096) :
    Calls Try.prog 19 #[v, .int .i64 j, .int .i64 i, .agg #[.int .i64 W, .int .i64 C, .bool z]] w fun e w' => e = .returned (.bool (cntb D j i W C)) ∧ Below w.heap.size w w' := by
  have HB : Hid (∀ q, Below w.heap.size w ((w.alloc (.cells #[.int .i64 W, .int .i64 C, .bool z] 24)).drewN q)) := fun q => below_drewN ((Below.refl _ _).alloc (Nat.le_refl _) _) q
  have HS := hide (h.below ((Below.refl _ _).alloc (Nat.le_refl _) (.cells #[.int .i64 W, .int .i64 C, .bool z] 24)))
  obtain ⟨wb, hwb⟩ : ∃ wb, w.alloc (.cells #[.int .i64 W, .int .i64 C, .bool z] 24) = wb := ⟨_, rfl⟩
  have d1 : wb.cell? ⟨w.heap.size, 0, none⟩ = some (.int .i64 W) := by rw [← hwb]; unfold World.cell?; simp only [heap_alloc_new]; rfl
  have d2 : wb.cell? ⟨w.heap.size, 1, none⟩ = some (.int .i64 C) := by rw [← hwb]; unfold World.cell?; simp only [heap_alloc_new]; rfl
  rw [hwb] at HB HS
  have HD2 := hide d2
  obtain ⟨ao, cap, rfl, hlc, hcm⟩ := h.open
  clear h
  have g1 : ¬ (i : Int) ≤ (j : Int) := by omega
  by_cases hw1 : i - j ≤ W
  · have g2 : ¬ (W : Int) < (i : Int) - (j : Int) := by omega
    have HCA := hide (lcand_any _ D j i wb HS.out hji hi hn)
    go_enter Try.func19, Try.ntmps19
    go_wp2_with fail
    refine HCA.out.mono ?_
    rintro e w2 ⟨rfl, n2, hw2⟩
    subst hw2
    clear hwb d1 d2 HCA
    by_cases hcd : Cnd D j i
    · have HDC : Hid (decide (Cnd D j i) = true) := decide_eq_true hcd
      rw [HDC.out]
      have HCD := hide hcd
      have HCC : Hid (cntb D j i W C = decide ((asc D i (j + 1) (i - 1 - j)).length < C)) := by show _ = _; unfold cntb; simp only [hw1, hcd, true_and]
      clear hcd
      have hjb : j ≤ 1000000000 := by omega
      go_wp2
      go_loopw [9, 10] (fun a b wr => ∃ n m q : Nat, n ≤ i - 1 - j ∧ m ≤ n ∧ b = .int .i64 ((j + 1 + n : Nat) : Int) ∧ a = .int .i64 m ∧ wr = wb.drewN q ∧ Hid ((asc D i (j + 1) n).length = m)) (fun _ b _ => i - (intOf b).toNat)
      case atStart => exact ⟨0, 0, n2, Nat.zero_le _, Nat.le_refl _, by go_num, rfl, rfl, rfl⟩
      case round =>
        obtain ⟨n, m, q, hnn, hmn, rfl, rfl, hw, HM⟩ := hrel
        subst hw
        have HSN := hide (asc_snoc D i (j + 1) n)
        obtain ⟨k, hk⟩ : ∃ k, k = j + 1 + n := ⟨_, rfl⟩
        rw [← hk] at HSN ⊢
        have HK := hide hk
        by_cases hlt : n < i - 1 - j
        · have hki : k < i := by omega
          have hki' : (k : Int) < (i : Int) := by omega
          clear hk
          have HCA := hide (lcand_any _ D k i (wb.drewN q) (HS.out.below (below_drewN (Below.refl _ _) q)) hki hi hn)
          go_wp2_with fail
          refine HCA.out.mono ?_
          rintro e w3 ⟨rfl, n3, hw3⟩
          rw [World.drewN_drewN] at hw3
          subst hw3
          clear HCA
          by_cases hck : Cnd D k i
          · have HDK : Hid (decide (Cnd D k i) = true) := decide_eq_true hck
            rw [HDK.out]
            rw [if_pos hck] at HSN
            have HLN : Hid ((asc D i (j + 1) (n + 1)).length = m + 1) := by show _ = _; rw [HSN.out, List.length_append, HM.out]; rfl
            clear hck HSN
            go_wp2
            go_roundw
            case rel => exact ⟨n + 1, m + 1, _, by omega, by omega, by rw [HK.out]; go_num, by go_num, rfl, HLN⟩
            case measure => simp [intOf]; omega
          · have HDK : Hid (decide (Cnd D k i) = false) := decide_eq_false hck
            rw [HDK.out]
            rw [if_neg hck, List.append_nil] at HSN
            have HLN : Hid ((asc D i (j + 1) (n + 1)).length = m) := by show _ = _; rw [HSN.out, HM.out]
            clear hck HSN
            go_wp2
            go_roundw
            case rel => exact ⟨n + 1, m, _, by omega, by omega, by rw [HK.out]; go_num, rfl, rfl, HLN⟩
            case measure => simp [intOf]; omega
        · have hn2 : n = i - 1 - j := by omega
          have hki' : ¬ (k : Int) < (i : Int) := by omega
          have f2 : (wb.drewN q).cell? ⟨w.heap.size, 1, none⟩ = some (.int .i64 C) := HD2.out
          have HMM : Hid (cntb D j i W C = decide (m < C)) := by show _ = _; rw [HCC.out, ← hn2, HM.out]
          clear hk hn2
          by_cases hmc : m < C
          · have HE : Hid (cntb D j i W C = true) := by show _ = _; rw [HMM.out]; exact decide_eq_true hmc
            have gm : (m : Int) < (C : Int) := by omega
            clear hmc
            go_wp2
            go_ret
            rw [HE.out]
            exact ⟨rfl, HB.out _⟩
          · have HE : Hid (cntb D j i W C = false) := by show _ = _; rw [HMM.out]; exact decide_eq_false hmc
            have gm : ¬ (m : Int) < (C : Int) := by omega
            clear hmc
            go_wp2
            go_ret
            rw [HE.out]
            exact ⟨rfl, HB.out _⟩
    · have HDC : Hid (decide (Cnd D j i) = false) := decide_eq_false hcd
      rw [HDC.out]
      have HE : Hid (cntb D j i W C = false) := decide_eq_false (fun q => hcd q.2.1)
      clear hcd
      go_wp2
      go_ret
      rw [HE.out]
      exact ⟨rfl, HB.out _⟩
  · have g2 : (W : Int) < (i : Int) - (j : Int) := by omega
    have HE : Hid (cntb D j i W C = false) := decide_eq_false (fun q => hw1 q.1)
    go_enter Try.func19, Try.ntmps19
    go_wp2
    go_ret
    rw [HE.out]
    exact ⟨rfl, HB.out 0⟩
end Go.Proofs.Ytecimcpaoobknab

