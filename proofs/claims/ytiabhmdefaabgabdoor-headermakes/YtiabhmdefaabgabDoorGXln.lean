import Derived.Test.YtiabhmdefaabgabDoorGXlw
namespace Go.Proofs.YtiabhmdefaabgabDoor
open Go.RowKit Go.Maps
set_option maxRecDepth 20000
set_option linter.unusedVariables false
set_option linter.unusedSimpArgs false

theorem nmg_nil (W : List Nod) : nmg W [] = W := by cases W <;> simp [nmg]
theorem nrow_one (W : List Nod) : nrow W 1 = W := by
  show nmg W (npk []) = W
  rw [show npk [] = [] by simp [npk]]
  exact nmg_nil W

theorem npk_sum (l : List Nod) : ((npk l).map (·.1)).sum ≤ (l.map (·.1)).sum ∧ (syms (npk l)).length ≤ (syms l).length ∧ (npk l).length ≤ l.length / 2 := by
  induction l using npk.induct with
  | case1 a b r ih =>
    rw [npk]
    simp only [syms, List.map_cons, List.sum_cons, List.flatMap_cons, List.length_append, List.length_cons] at ih ⊢
    omega
  | case2 l h =>
    rw [npk.eq_2 _ h]
    simp [syms]

theorem nmg_sum (a b : List Nod) : ((nmg a b).map (·.1)).sum = (a.map (·.1)).sum + (b.map (·.1)).sum ∧ (syms (nmg a b)).length = (syms a).length + (syms b).length ∧ (nmg a b).length = a.length + b.length := by
  induction a, b using nmg.induct with
  | case1 p => simp [nmg, syms]
  | case2 a w => simp [nmg, syms]
  | case3 a w b p h ih =>
    rw [nmg, if_pos h]
    simp only [syms, List.map_cons, List.sum_cons, List.flatMap_cons, List.length_append, List.length_cons] at ih ⊢
    omega
  | case4 a w b p h ih =>
    rw [nmg, if_neg h]
    simp only [syms, List.map_cons, List.sum_cons, List.flatMap_cons, List.length_append, List.length_cons] at ih ⊢
    omega

theorem nrow_sum (W : List Nod) (k : Nat) : ((nrow W k).map (·.1)).sum ≤ k * (W.map (·.1)).sum ∧ (syms (nrow W k)).length ≤ k * (syms W).length ∧ (nrow W k).length ≤ 2 * W.length := by
  induction k with
  | zero => simp [nrow, syms]
  | succ k ih =>
    have h1 := nmg_sum W (npk (nrow W k))
    have h2 := npk_sum (nrow W k)
    rw [nrow, Nat.succ_mul, Nat.succ_mul]
    omega

/-- How often each symbol stands in a list. -/
def cof (A : List Nat) (s : Nat) : Nat := A.count s

theorem cof_step {n s : Nat} (A : List Nat) (h : s < n) : (hls n (cof A)).set s ((cof A s : Int) + 1) = hls n (cof (A ++ [s])) := by
  apply List.ext_getElem
  · rw [List.length_set, hls_len, hls_len]
  · intro i h1 h3
    have hel : ∀ (H : Nat → Nat) (h : i < (hls n H).length), (hls n H)[i] = (H i : Int) := fun H h => by simp [hls]
    rw [List.getElem_set, hel, hel]
    unfold cof
    rw [List.count_append]
    split
    · rename_i e
      subst e
      simp
    · rename_i e
      rw [List.count_eq_zero_of_not_mem (l := [s]) (by simp; omega)]
      simp

theorem cof_take {T : List Nat} (hn : T.Nodup) (c s : Nat) : (T.take c).count s = if s ∈ T ∧ T.idxOf s < c then 1 else 0 := by
  by_cases hs : s ∈ T
  · by_cases hc : T.idxOf s < c
    · rw [if_pos ⟨hs, hc⟩]
      have hmem : s ∈ T.take c := by
        have hlt := List.idxOf_lt_length_of_mem hs
        have e : (T.take c)[T.idxOf s]'(by rw [List.length_take]; omega) = s := by rw [List.getElem_take]; exact List.getElem_idxOf hlt
        rw [← e]
        exact List.getElem_mem _
      have h1 := List.nodup_iff_count.1 (hn.sublist (List.take_sublist c T)) s
      have h2 := List.count_pos_iff.2 hmem
      omega
    · rw [if_neg (fun h => hc h.2)]
      apply List.count_eq_zero_of_not_mem
      intro hm
      obtain ⟨i, hi, he⟩ := List.getElem_of_mem hm
      rw [List.length_take] at hi
      rw [List.getElem_take] at he
      have : T.idxOf s = i := by rw [← he]; exact hn.idxOf_getElem i (by omega)
      omega
  · rw [if_neg (fun h => hs h.1)]
    exact List.count_eq_zero_of_not_mem (fun hm => hs (List.mem_of_mem_take hm))

theorem leafs_take (f : Nat → Nat) (T : List Nat) (c : Nat) : syms ((leafs f T).take c) = T.take c := by
  rw [← syms_leafs f (T.take c)]
  simp [leafs]

theorem cof_sel {T : List Nat} (hn : T.Nodup) (f : Nat → Nat) (cs : List Nat) (s : Nat) : (cs.flatMap fun c => syms ((leafs f T).take c)).count s = if s ∈ T then ct cs (T.idxOf s) else 0 := by
  induction cs with
  | nil => simp [ct]
  | cons c cs ih =>
    rw [List.flatMap_cons, List.count_append, ih, leafs_take, cof_take hn, ct_cons]
    by_cases hs : s ∈ T
    · simp [hs]
    · simp [hs]

/-- What the lengths are in the end. -/
theorem cof_lm {l : List Int} {L : Nat} (h1 : (us6 l).length ≠ 1) (hm : 2 * (us6 l).length - 2 ≤ (nrow (leafs (fq l) (srl l)) L).length) (s : Nat) : cof (syms ((nrow (leafs (fq l) (srl l)) L).take (2 * (us6 l).length - 2))) s = lm l L s := by
  unfold cof
  have hp := sel_syms (leafs (fq l) (srl l)) L (2 * (us6 l).length - 2) hm
  rw [hp.count_eq, cof_sel (srl_nodup l)]
  unfold lm
  rw [if_neg h1]
  have e : (leafs (fq l) (srl l)).map (·.1) = lws l := by unfold leafs lws; rw [List.map_map]; rfl
  rw [e]
  by_cases hs : s ∈ us6 l
  · rw [if_pos (srl_mem.2 hs), if_pos hs]
  · rw [if_neg (fun q => hs (srl_mem.1 q)), if_neg hs]
end Go.Proofs.YtiabhmdefaabgabDoor

