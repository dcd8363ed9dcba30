import Derived.Test.YtgengoffkoonfabGud
namespace Go.Proofs.Ytgengoffkoonfab
open Go.RowKit Go.Maps
set_option maxRecDepth 20000
set_option linter.unusedVariables false

theorem in64 {n : List Int} (h : ∀ x ∈ n, -9223372036854775808 ≤ x ∧ x ≤ 9223372036854775807) (i : Nat) : -9223372036854775808 ≤ n.getD i 0 ∧ n.getD i 0 ≤ 9223372036854775807 := by
  by_cases c : i < n.length
  · rw [show n.getD i 0 = n[i] by simp [c]]
    exact h _ (List.getElem_mem c)
  · rw [List.getD_eq_getElem?_getD, List.getElem?_eq_none (by omega)]
    exact ⟨by decide, by decide⟩

theorem Sound.ofB {f : List Int} (h : (decide (f.length ≤ 288) && bnb f 4294967296) = true) : Sound f := by
  rw [Bool.and_eq_true, decide_eq_true_eq] at h
  exact ⟨h.1, bnb_iff.1 h.2⟩

theorem Sound.dptE {f : List Int} (h : Sound f) : dptE f = 0 ∧ dptL f = dpt f := by
  have e : Go.Proofs.Ytgengoffkoonfab.dptE f = 0 := by
    unfold Go.Proofs.Ytgengoffkoonfab.dptE
    rw [if_neg (by have := h.len; omega), if_neg (by rw [bnb_iff.2 h.ok]; decide)]
  exact ⟨e, if_pos e⟩

/-- What Kraft's rule gives of another list. -/
theorem krV_facts {f o : List Int} {lim : Int} (hs : Sound f) (h : ¬ krV f o lim < 0) : o.length = f.length ∧ LenOk f o lim f.length ∧ kr (nn o) (us f) ≤ 2 ^ 60 := by
  unfold krV at h
  by_cases c : o.length = f.length
  · rw [if_neg (fun q => q c)] at h
    cases e : kst f o lim f.length with
    | none => rw [e] at h; simp at h
    | some s =>
      obtain ⟨a, b, d⟩ := kst_some hs.nn e
      exact ⟨c, b, by show kS f o f.length ≤ 2 ^ 60; rw [← a]; exact d⟩
  · rw [if_pos c] at h; omega

end Go.Proofs.Ytgengoffkoonfab
