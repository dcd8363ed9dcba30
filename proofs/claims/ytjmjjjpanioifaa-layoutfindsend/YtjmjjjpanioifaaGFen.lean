import Derived.Test.YtjmjjjpanioifaaGCnn
import Derived.Test.YtjmjjjpanioifaaGVge
import Derived.Test.YtjmjjjpanioifaaGGen
namespace Go.Proofs.Ytjmjjjpanioifaa
open Go.RowKit Go.Maps
set_option maxRecDepth 20000
set_option linter.unusedVariables false
set_option linter.unusedSimpArgs false

/-- An end record stands at a place and goes just to the end. -/
def okEnd (d : List Int) (p : Int) : Prop := enE d p = 0 ∧ enP d p = d.length

instance (d : List Int) (p : Int) : Decidable (okEnd d p) := by unfold okEnd; exact inferInstance

/-- What FindEnd answers. -/
def IsEnd (d : List Int) (P E : Int) : Prop :=
  (16777216 < d.length ∧ P = 0 ∧ E = 1) ∨
  (d.length ≤ 16777216 ∧ E = 0 ∧ okEnd d P ∧ 0 ≤ P ∧ P ≤ (d.length : Int) - 22 ∧ (d.length : Int) - 22 - 65535 ≤ P ∧ ∀ q : Int, P < q → q ≤ (d.length : Int) - 22 → ¬ okEnd d q) ∨
  (d.length ≤ 16777216 ∧ P = 0 ∧ E = 130 ∧ ∀ q : Int, 0 ≤ q → (d.length : Int) - 22 - 65535 ≤ q → q ≤ (d.length : Int) - 22 → ¬ okEnd d q)

theorem isEnd_one {d : List Int} {P E P' E' : Int} (h : IsEnd d P E) (h' : IsEnd d P' E') : P = P' ∧ E = E' := by
  rcases h with ⟨a, b, c⟩ | ⟨a, b, c, e, f, g, k⟩ | ⟨a, b, c, k⟩ <;> rcases h' with ⟨a', b', c'⟩ | ⟨a', b', c', e', f', g', k'⟩ | ⟨a', b', c', k'⟩
  · omega
  · omega
  · omega
  · omega
  · refine ⟨?_, by omega⟩
    rcases Int.lt_trichotomy P P' with hl | hl | hl
    · exact absurd c' (k P' hl f')
    · exact hl
    · exact absurd c (k' P hl f)
  · exact absurd c (k' P e g f)
  · omega
  · exact absurd c' (k P' e' g' f')
  · omega

theorem okEnd_at {d : List Int} {p : Nat} (h : okEnd d p) : p + 22 ≤ d.length ∧ fld d p 4 = 101010256 ∧ (p : Int) + 22 + fld d (p + 20) 2 = d.length ∧ enE d p = 0 := by
  obtain ⟨h1, h2⟩ := h
  obtain ⟨k, hk, hl, hs⟩ := en_at h1
  obtain rfl : p = k := by omega
  have hg := (en_good h1).2
  rw [h2] at hg
  obtain ⟨j, hj, hj2, -⟩ := beE_ok (show beE d p 22 101010256 = 0 by
    unfold enE at h1
    by_cases h0 : beE d p 22 101010256 = 0
    · exact h0
    · rw [if_pos h0] at h1; exact h1)
  obtain rfl : p = j := by omega
  exact ⟨hj2, hs, by omega, h1⟩

theorem okEnd_of {d : List Int} {p : Nat} (h : enE d p = 0) (hc : (p : Int) + 22 + fld d (p + 20) 2 = d.length) : okEnd d p := ⟨h, by rw [(en_good h).2]; exact hc⟩

theorem drop_cons13 {d : List Int} {p : Nat} (h : p < d.length) : d.drop p = d.getD p 0 :: d.drop (p + 1) := by
  rw [List.drop_eq_getElem_cons h]
  simp [List.getD, h]

theorem fld_two {d : List Int} {p : Nat} (h : p + 2 ≤ d.length) : fld d p 2 = d.getD p 0 + 256 * d.getD (p + 1) 0 := by
  unfold fld sub
  rw [drop_cons13 (show p < d.length by omega), drop_cons13 (show p + 1 < d.length by omega)]
  show _ + 256 * (_ + 256 * 0) = _
  omega

theorem fld_four {d : List Int} {p : Nat} (h : p + 4 ≤ d.length) : fld d p 4 = d.getD p 0 + 256 * (d.getD (p + 1) 0 + 256 * (d.getD (p + 2) 0 + 256 * d.getD (p + 3) 0)) := by
  unfold fld sub
  rw [drop_cons13 (show p < d.length by omega), drop_cons13 (show p + 1 < d.length by omega), drop_cons13 (show p + 1 + 1 < d.length by omega), drop_cons13 (show p + 1 + 1 + 1 < d.length by omega)]
  show d.getD p 0 + 256 * (d.getD (p + 1) 0 + 256 * (d.getD (p + 2) 0 + 256 * (d.getD (p + 3) 0 + 256 * 0))) = _
  omega

/-- The signature, byte by byte. -/
theorem sig_four {d : List Int} (hB : Byt d) {p : Nat} (h : p + 4 ≤ d.length) : fld d p 4 = 101010256 ↔ d.getD p 0 = 80 ∧ d.getD (p + 1) 0 = 75 ∧ d.getD (p + 2) 0 = 5 ∧ d.getD (p + 3) 0 = 6 := by
  rw [fld_four h]
  have h0 := hB p
  have h1 := hB (p + 1)
  have h2 := hB (p + 2)
  have h3 := hB (p + 3)
  omega
end Go.Proofs.Ytjmjjjpanioifaa

