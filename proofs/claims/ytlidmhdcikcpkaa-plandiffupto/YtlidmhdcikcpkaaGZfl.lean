import Derived.Test.YtlidmhdcikcpkaaGFrm
namespace Go.Proofs.Ytlidmhdcikcpkaa
open Go.RowKit Go.Maps
set_option maxRecDepth 20000
set_option linter.unusedVariables false
set_option linter.unusedSimpArgs false

/-- The file is the least that has room. -/
theorem fil_least {old size len X : Int} (ho : domN old) (hs : domN size) (hl : 0 ≤ len) (k : Nat) (hX : X = old + 1024 + 1024 * (k : Int)) (hle : X ≤ filN old size len) :
    (seN X < upN (max old size) + upN len → X + 1024 ≤ filN old size len) ∧ (upN (max old size) + upN len ≤ seN X → X = filN old size len) := by
  unfold domN at ho hs
  obtain ⟨U, hU⟩ : ∃ U, U = upN (max old size) := ⟨_, rfl⟩
  obtain ⟨L, hL⟩ : ∃ L, L = upN len := ⟨_, rfl⟩
  unfold filN at hle ⊢
  rw [← hU, ← hL] at hle ⊢
  unfold seN at hle ⊢
  clear hU hL
  subst hX
  split at hle <;> rename_i hc
  · rw [if_pos hc]
    constructor <;> intro h <;> omega
  · rw [if_neg hc]
    constructor <;> intro h <;> omega

end Go.Proofs.Ytlidmhdcikcpkaa

