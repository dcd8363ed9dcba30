import Derived.Test.YtncniahpglgkmaaG15Jhp
namespace Go.Proofs.Ytncniahpglgkmaa
open Go.RowKit Go.Maps
set_option maxRecDepth 20000
set_option linter.unusedVariables false

theorem pushK {w wr w' : World} {K K' : Nat → Nat} {h : Nat} (hf : H4.Fr K K' wr w') (hh : h < wr.heap.size) (h0 : K h = 0) : K' h = 0 := by rw [hf.role h hh]; exact h0

theorem oiFr {w wr w' : World} {K K' : Nat → Nat} {h n c base : Nat} {l : List Int} (hf : H4.Fr K K' wr w') (ho : OI wr base (.slice (some ⟨h, 0, none⟩) n c) l) (hh : h < wr.heap.size) (h0 : K h = 0) : OI w' base (.slice (some ⟨h, 0, none⟩) n c) l :=
  ho.move fun k hk => by
    simp only [Value.ownBlock, Option.some.injEq] at hk
    subst hk
    exact hf.block _ hh h0

end Go.Proofs.Ytncniahpglgkmaa

namespace Go.Proofs.Ytncniahpglgkmaa
open Go.RowKit Go.Maps
set_option maxRecDepth 20000
set_option linter.unusedVariables false

/-- Depths from the last number down, so many told. -/
def dn (H : Nat → Nat) (r : Nat) : Nat → List Int
  | 0 => List.replicate (r + 1) 0
  | j + 1 => (dn H r j).set (r - 1 - j) ((dn H r j).getD (H (r - 1 - j)) 0 + 1)

theorem dn_len (H : Nat → Nat) (r j : Nat) : (dn H r j).length = r + 1 := by
  induction j with
  | zero => simp [dn]
  | succ j ih => simp [dn, ih]

theorem dn_keep (H : Nat → Nat) (r j i v : Nat) (hv : r ≤ v + j) (hj : j + i ≤ r) : (dn H r (j + i)).getD v 0 = (dn H r j).getD v 0 := by
  induction i with
  | zero => rfl
  | succ i ih =>
    rw [← ih (by omega)]
    show ((dn H r (j + i)).set (r - 1 - (j + i)) _).getD v 0 = _
    rw [List.getD_eq_getElem?_getD, List.getElem?_set_ne (by omega), ← List.getD_eq_getElem?_getD]

theorem dn_root (H : Nat → Nat) (r j : Nat) (hj : j ≤ r) : (dn H r j).getD r 0 = 0 := by
  have := dn_keep H r 0 j r (by omega) (by omega)
  rw [Nat.zero_add] at this
  rw [this]
  simp [dn]

theorem dn_step (H : Nat → Nat) (r v : Nat) (hv : v < r) (hH : v < H v) : (dn H r r).getD v 0 = (dn H r r).getD (H v) 0 + 1 := by
  have e1 := dn_keep H r (r - v) v v (by omega) (by omega)
  have e2 := dn_keep H r (r - 1 - v) (v + 1) (H v) (by omega) (by omega)
  rw [show r - v + v = r by omega] at e1
  rw [show r - 1 - v + (v + 1) = r by omega] at e2
  rw [e1, e2, show r - v = r - 1 - v + 1 by omega]
  show ((dn H r (r - 1 - v)).set (r - 1 - (r - 1 - v)) _).getD v 0 = _
  rw [show r - 1 - (r - 1 - v) = v by omega]
  rw [List.getD_eq_getElem?_getD, List.getElem?_set_self (by rw [dn_len]; omega)]
  rfl

theorem dn_bound (H : Nat → Nat) (r j v : Nat) : 0 ≤ (dn H r j).getD v 0 ∧ (dn H r j).getD v 0 ≤ j := by
  induction j generalizing v with
  | zero =>
    simp only [dn, List.getD_eq_getElem?_getD, List.getElem?_replicate]
    split <;> simp
  | succ j ih =>
    show 0 ≤ ((dn H r j).set (r - 1 - j) _).getD v 0 ∧ _
    by_cases c : r - 1 - j = v
    · subst c
      by_cases d : r - 1 - j < (dn H r j).length
      · have h := ih (H (r - 1 - j))
        have e : ((dn H r j).set (r - 1 - j) ((dn H r j).getD (H (r - 1 - j)) 0 + 1)).getD (r - 1 - j) 0 = (dn H r j).getD (H (r - 1 - j)) 0 + 1 := by
          rw [List.getD_eq_getElem?_getD, List.getElem?_set_self d]
          rfl
        simp only [dn, e]
        omega
      · rw [dn_len] at d; omega
    · have h := ih v
      have e : ((dn H r j).set (r - 1 - j) ((dn H r j).getD (H (r - 1 - j)) 0 + 1)).getD v 0 = (dn H r j).getD v 0 := by
        rw [List.getD_eq_getElem?_getD, List.getElem?_set_ne c, ← List.getD_eq_getElem?_getD]
      simp only [dn, e]
      omega

theorem hls_get {N v : Nat} (H : Nat → Nat) (h : v < N) : (hls N H).getD v 0 = (H v : Int) := by
  unfold hls
  rw [List.getD_eq_getElem?_getD, List.getElem?_map, List.getElem?_range h]
  rfl

end Go.Proofs.Ytncniahpglgkmaa

