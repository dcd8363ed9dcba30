import Derived.Test.YtiabhmdefaabgabDoorGXpk
import Derived.Test.YtiabhmdefaabgabDoorGLmq
namespace Go.Proofs.YtiabhmdefaabgabDoor
open Go.RowKit Go.Maps
set_option maxRecDepth 20000
set_option linter.unusedVariables false
set_option linter.unusedSimpArgs false

/-- One more symbol is put into its place. -/
theorem srt_put {l : List Int} {k a : Nat} {T : List Nat} (hk : k < (us6 l).length) (h : Srt l ((us6 l).take k) T) (ha : a ≤ T.length)
    (h1 : ∀ t ∈ T.drop a, l.getD ((us6 l).getD k 0) 0 < l.getD t 0) (h2 : a = 0 ∨ l.getD (T.getD (a - 1) 0) 0 ≤ l.getD ((us6 l).getD k 0) 0) :
    Srt l ((us6 l).take (k + 1)) (T.take a ++ (us6 l).getD k 0 :: T.drop a) := by
  have e : (us6 l).getD k 0 = (us6 l)[k] := by simp [hk]
  have htk : (us6 l).take (k + 1) = (us6 l).take k ++ [(us6 l).getD k 0] := by rw [List.take_succ_eq_append_getElem hk, e]
  have hT : T = T.take a ++ T.drop a := (List.take_append_drop a T).symm
  have hlt : ∀ t ∈ T, t < (us6 l).getD k 0 := fun t ht => by
    have hm := h.perm.subset ht
    obtain ⟨i, hi, rfl⟩ := List.getElem_of_mem hm
    rw [List.length_take] at hi
    rw [List.getElem_take, e]
    exact (List.pairwise_iff_getElem.1 (us_rise l)) i k (by omega) hk (by omega)
  have hp := h.rise
  rw [hT, List.pairwise_append] at hp
  refine ⟨?_, ?_⟩
  · rw [htk]
    have p1 : (T.take a ++ (us6 l).getD k 0 :: T.drop a).Perm ((us6 l).getD k 0 :: (T.take a ++ T.drop a)) := List.perm_middle
    refine p1.trans ?_
    rw [← hT]
    exact ((List.perm_cons _).2 h.perm).trans (by have := (List.perm_append_comm (l₁ := [(us6 l).getD k 0]) (l₂ := (us6 l).take k)); exact this)
  · rw [List.pairwise_append]
    refine ⟨hp.1, List.pairwise_cons.2 ⟨fun t ht => .inl (h1 t ht), hp.2.1⟩, fun t ht u hu => ?_⟩
    rcases List.mem_cons.1 hu with rfl | hu
    · have htT : t ∈ T := List.mem_of_mem_take ht
      have hle : l.getD t 0 ≤ l.getD ((us6 l).getD k 0) 0 := by
        rcases h2 with h0 | h2
        · rw [h0] at ht; simp at ht
        · obtain ⟨i, hi, rfl⟩ := List.getElem_of_mem ht
          rw [List.length_take] at hi
          rw [List.getElem_take]
          by_cases c : i = a - 1
          · have : T.getD (a - 1) 0 = T[i] := by
              subst c
              rw [List.getD_eq_getElem?_getD, List.getElem?_eq_getElem (by omega)]; rfl
            rw [← this]; exact h2
          · have hr := (List.pairwise_iff_getElem.1 h.rise) i (a - 1) (by omega) (by omega) (by omega)
            have : T.getD (a - 1) 0 = T[a - 1]'(by omega) := by rw [List.getD_eq_getElem?_getD, List.getElem?_eq_getElem (by omega)]; rfl
            rw [this] at h2
            unfold Lf at hr
            omega
      have := hlt t htT
      unfold Lf
      omega
    · exact hp.2.2 t ht u hu
end Go.Proofs.YtiabhmdefaabgabDoor

