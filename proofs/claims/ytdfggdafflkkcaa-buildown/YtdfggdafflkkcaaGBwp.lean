import Derived.Test.YtdfggdafflkkcaaGAgr
namespace Go.Proofs.Ytdfggdafflkkcaa
open Go.RowKit Go.Maps
set_option maxRecDepth 20000
set_option linter.unusedVariables false
set_option linter.unusedSimpArgs false

theorem OwI.mark {w0 W : World} {ls : List (Value × List Int)} {i n c k : Nat} {a : Option Addr} {m : Int} {A : List Int} (hO : OwI w0 W ls) (hi : ls[i]? = some (.slice a n c, List.replicate k m ++ A.drop k)) (hl : A.length = n) (hk : k < n) :
    ∃ g, a = some ⟨g, 0, none⟩ ∧ OwI w0 (W.setCell ⟨g, k, none⟩ (.int .i64 m)) (ls.set i (.slice a n c, List.replicate (k + 1) m ++ A.drop (k + 1))) ∧ (∃ u, W.cell? ⟨g, k, none⟩ = some (.int .i64 u)) ∧ W.frozen? ⟨g, k, none⟩ = false := by
  have e1 : (List.replicate k m ++ A.drop k).length = n := by simp; omega
  have e2 : (List.replicate (k + 1) m ++ A.drop (k + 1)).length = n := by simp; omega
  have ho := hO.sl _ _ _ hi
  obtain ⟨g, p, hv, -, -⟩ := OI.some ho (by omega)
  simp only [Value.slice.injEq] at hv
  obtain ⟨rfl, -, rfl⟩ := hv
  have ho2 := ho
  rw [← e1] at ho2
  obtain ⟨d0, df⟩ := ho2.cellAt (j := k) (by omega)
  have hs := ho2.setAt (j := k) m
  rw [set_mid m A k (by omega), e1] at hs
  exact ⟨g, rfl, hO.set hi (grownBy_set rfl) hs, ⟨_, d0⟩, df⟩

/-- An append onto one of the lists: the list stays, and what is answered lies in its block or in a new one. -/
theorem OwI.app {w0 W W' : World} {ls : List (Value × List Int)} {i : Nat} {v v' : Value} {l : List Int} {O : Obj} (hO : OwI w0 W ls) (hi : ls[i]? = some (v, l)) (hg : Grew (W.alloc O) W' v v') (hk : OI W' w0.heap.size v l) :
    OwI w0 W' ls ∧ W.grownBy W' v.ownBlock ∧ ∀ (j : Nat) (u : Value) (m : List Int), ls[j]? = some (u, m) → i ≠ j → ∀ b, v'.ownBlock = some b → u.ownBlock ≠ some b := by
  have hgb : W.grownBy W' v.ownBlock := (grownBy_alloc' W O _).trans hg.by
  refine ⟨?_, hgb, ?_⟩
  · have h := hO.set hi hgb hk
    have e : ls.set i (v, l) = ls := by
      apply List.ext_getElem?
      intro j
      by_cases hij : i = j
      · subst hij
        rw [List.getElem?_set_self (List.getElem?_eq_some_iff.1 hi).1, hi]
      · rw [List.getElem?_set_ne hij]
    rw [e] at h
    exact h
  · intro j u m hj hij b hb hu
    have hlt := ((hO.sl _ _ _ hj).lt b hu).2
    rcases hg.at with e | e
    · rw [e, size_alloc'] at hb
      simp at hb
      omega
    · rw [e] at hb
      exact hO.nn _ _ _ _ _ _ hi hj hij b hb hu

theorem SI.cells6 {w : World} {g n c : Nat} {l : List Int} (h : SI w (.slice (some ⟨g, 0, none⟩) n c) l) {i : Nat} (hi : i < l.length) : w.cell? ⟨g, i, none⟩ = some (.int .i64 (l.getD i 0)) := by
  obtain ⟨ao, cap, hv, h1, h2, h3, h4⟩ := h
  simp only [Value.slice.injEq] at hv
  obtain ⟨rfl, -, -⟩ := hv
  have := h4 ⟨g, 0, none⟩ rfl i hi
  rw [Addr.add_lit] at this
  simpa using this
end Go.Proofs.Ytdfggdafflkkcaa

