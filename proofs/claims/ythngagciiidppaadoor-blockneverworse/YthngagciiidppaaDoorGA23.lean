import Derived.Test.YthngagciiidppaaDoorGA22
import Derived.Test.YthngagciiidppaaDoorGA18
import Derived.Test.YthngagciiidppaaDoorGA20
namespace Go.Proofs.YthngagciiidppaaDoor
open Go.RowKit Go.Maps
set_option maxRecDepth 20000
set_option linter.unusedVariables false
set_option linter.unusedSimpArgs false

/-- One more symbol is put into its place. -/
theorem srt_put {l : List Int} {k a : Nat} {T : List Nat} (hk : k < (us6 l).length) (h : Srt l ((us6 l).take k) T) (ha : a ≤ T.length)
    (h1 : ∀ t ∈ T.drop a, l.getD ((us6 l).getD k 0) 0 < l.getD t 0) (h2 : a = 0 ∨ l.getD (T.getD (a - 1) 0) 0 ≤ l.getD ((us6 l).getD k 0) 0) :
    Srt l ((us6 l).take (k + 1)) (T.take a ++ (us6 l).getD k 0 :: T.drop a) := by
  have e : (us6 l).getD k 0 = (us6 l)[k] := by simp [hk]
  have htk : (us6 l).take (k + 1) = (us6 l).take k ++ [(us6 l).getD k 0] := by rw [List.take_succ_eq_append_getElem hk, e]
  have hT : T = T.take a ++ T.drop a := (List.take_append_drop a T).symm
  have hlt : ∀ t ∈ T, t < (us6 l).getD k 0 := fun t ht => by
    have hm := h.perm.subset ht
    obtain ⟨i, hi, rfl⟩ := List.getElem_of_mem hm
    rw [List.length_take] at hi
    rw [List.getElem_take, e]
    exact (List.pairwise_iff_getElem.1 (us_rise l)) i k (by omega) hk (by omega)
  have hp := h.rise
  rw [hT, List.pairwise_append] at hp
  refine ⟨?_, ?_⟩
  · rw [htk]
    have p1 : (T.take a ++ (us6 l).getD k 0 :: T.drop a).Perm ((us6 l).getD k 0 :: (T.take a ++ T.drop a)) := List.perm_middle
    refine p1.trans ?_
    rw [← hT]
    exact ((List.perm_cons _).2 h.perm).trans (by have := (List.perm_append_comm (l₁ := [(us6 l).getD k 0]) (l₂ := (us6 l).take k)); exact this)
  · rw [List.pairwise_append]
    refine ⟨hp.1, List.pairwise_cons.2 ⟨fun t ht => .inl (h1 t ht), hp.2.1⟩, fun t ht u hu => ?_⟩
    rcases List.mem_cons.1 hu with rfl | hu
    · have htT : t ∈ T := List.mem_of_mem_take ht
      have hle : l.getD t 0 ≤ l.getD ((us6 l).getD k 0) 0 := by
        rcases h2 with h0 | h2
        · rw [h0] at ht; simp at ht
        · obtain ⟨i, hi, rfl⟩ := List.getElem_of_mem ht
          rw [List.length_take] at hi
          rw [List.getElem_take]
          by_cases c : i = a - 1
          · have : T.getD (a - 1) 0 = T[i] := by
              subst c
              rw [List.getD_eq_getElem?_getD, List.getElem?_eq_getElem (by omega)]; rfl
            rw [← this]; exact h2
          · have hr := (List.pairwise_iff_getElem.1 h.rise) i (a - 1) (by omega) (by omega) (by omega)
            have : T.getD (a - 1) 0 = T[a - 1]'(by omega) := by rw [List.getD_eq_getElem?_getD, List.getElem?_eq_getElem (by omega)]; rfl
            rw [this] at h2
            unfold Lf at hr
            omega
      have := hlt t htT
      unfold Lf
      omega
    · exact hp.2.2 t ht u hu
end Go.Proofs.YthngagciiidppaaDoor

namespace Go.Proofs.YthngagciiidppaaDoor
open Go.RowKit Go.Maps
set_option maxRecDepth 20000
set_option linter.unusedVariables false
set_option linter.unusedSimpArgs false

theorem leafs_get (f : Nat → Nat) (T : List Nat) {i : Nat} (h : i < T.length) : (leafs f T).getD i nod0 = (f (T.getD i 0), [T.getD i 0]) := by
  simp [leafs, h]

end Go.Proofs.YthngagciiidppaaDoor

namespace Go.Proofs.YthngagciiidppaaDoor
open Go.RowKit Go.Maps
set_option maxRecDepth 20000
set_option linter.unusedVariables false
set_option linter.unusedSimpArgs false

theorem nmg_nil (W : List Nod) : nmg W [] = W := by cases W <;> simp [nmg]
theorem nrow_one (W : List Nod) : nrow W 1 = W := by
  show nmg W (npk []) = W
  rw [show npk [] = [] by simp [npk]]
  exact nmg_nil W

theorem npk_sum (l : List Nod) : ((npk l).map (·.1)).sum ≤ (l.map (·.1)).sum ∧ (syms (npk l)).length ≤ (syms l).length ∧ (npk l).length ≤ l.length / 2 := by
  induction l using npk.induct with
  | case1 a b r ih =>
    rw [npk]
    simp only [syms, List.map_cons, List.sum_cons, List.flatMap_cons, List.length_append, List.length_cons] at ih ⊢
    omega
  | case2 l h =>
    rw [npk.eq_2 _ h]
    simp [syms]

theorem nmg_sum (a b : List Nod) : ((nmg a b).map (·.1)).sum = (a.map (·.1)).sum + (b.map (·.1)).sum ∧ (syms (nmg a b)).length = (syms a).length + (syms b).length ∧ (nmg a b).length = a.length + b.length := by
  induction a, b using nmg.induct with
  | case1 p => simp [nmg, syms]
  | case2 a w => simp [nmg, syms]
  | case3 a w b p h ih =>
    rw [nmg, if_pos h]
    simp only [syms, List.map_cons, List.sum_cons, List.flatMap_cons, List.length_append, List.length_cons] at ih ⊢
    omega
  | case4 a w b p h ih =>
    rw [nmg, if_neg h]
    simp only [syms, List.map_cons, List.sum_cons, List.flatMap_cons, List.length_append, List.length_cons] at ih ⊢
    omega

theorem nrow_sum (W : List Nod) (k : Nat) : ((nrow W k).map (·.1)).sum ≤ k * (W.map (·.1)).sum ∧ (syms (nrow W k)).length ≤ k * (syms W).length ∧ (nrow W k).length ≤ 2 * W.length := by
  induction k with
  | zero => simp [nrow, syms]
  | succ k ih =>
    have h1 := nmg_sum W (npk (nrow W k))
    have h2 := npk_sum (nrow W k)
    rw [nrow, Nat.succ_mul, Nat.succ_mul]
    omega

/-- How often each symbol stands in a list. -/
def cof (A : List Nat) (s : Nat) : Nat := A.count s

theorem cof_step {n s : Nat} (A : List Nat) (h : s < n) : (hls n (cof A)).set s ((cof A s : Int) + 1) = hls n (cof (A ++ [s])) := by
  apply List.ext_getElem
  · rw [List.length_set, hls_len, hls_len]
  · intro i h1 h3
    have hel : ∀ (H : Nat → Nat) (h : i < (hls n H).length), (hls n H)[i] = (H i : Int) := fun H h => by simp [hls]
    rw [List.getElem_set, hel, hel]
    unfold cof
    rw [List.count_append]
    split
    · rename_i e
      subst e
      simp
    · rename_i e
      rw [List.count_eq_zero_of_not_mem (l := [s]) (by simp; omega)]
      simp

theorem cof_take {T : List Nat} (hn : T.Nodup) (c s : Nat) : (T.take c).count s = if s ∈ T ∧ T.idxOf s < c then 1 else 0 := by
  by_cases hs : s ∈ T
  · by_cases hc : T.idxOf s < c
    · rw [if_pos ⟨hs, hc⟩]
      have hmem : s ∈ T.take c := by
        have hlt := List.idxOf_lt_length_of_mem hs
        have e : (T.take c)[T.idxOf s]'(by rw [List.length_take]; omega) = s := by rw [List.getElem_take]; exact List.getElem_idxOf hlt
        rw [← e]
        exact List.getElem_mem _
      have h1 := List.nodup_iff_count.1 (hn.sublist (List.take_sublist c T)) s
      have h2 := List.count_pos_iff.2 hmem
      omega
    · rw [if_neg (fun h => hc h.2)]
      apply List.count_eq_zero_of_not_mem
      intro hm
      obtain ⟨i, hi, he⟩ := List.getElem_of_mem hm
      rw [List.length_take] at hi
      rw [List.getElem_take] at he
      have : T.idxOf s = i := by rw [← he]; exact hn.idxOf_getElem i (by omega)
      omega
  · rw [if_neg (fun h => hs h.1)]
    exact List.count_eq_zero_of_not_mem (fun hm => hs (List.mem_of_mem_take hm))

theorem leafs_take (f : Nat → Nat) (T : List Nat) (c : Nat) : syms ((leafs f T).take c) = T.take c := by
  rw [← syms_leafs f (T.take c)]
  simp [leafs]

theorem cof_sel {T : List Nat} (hn : T.Nodup) (f : Nat → Nat) (cs : List Nat) (s : Nat) : (cs.flatMap fun c => syms ((leafs f T).take c)).count s = if s ∈ T then ct cs (T.idxOf s) else 0 := by
  induction cs with
  | nil => simp [ct]
  | cons c cs ih =>
    rw [List.flatMap_cons, List.count_append, ih, leafs_take, cof_take hn, ct_cons]
    by_cases hs : s ∈ T
    · simp [hs]
    · simp [hs]

/-- What the lengths are in the end. -/
theorem cof_lm {l : List Int} {L : Nat} (h1 : (us6 l).length ≠ 1) (hm : 2 * (us6 l).length - 2 ≤ (nrow (leafs (fq l) (srl l)) L).length) (s : Nat) : cof (syms ((nrow (leafs (fq l) (srl l)) L).take (2 * (us6 l).length - 2))) s = lm l L s := by
  unfold cof
  have hp := sel_syms (leafs (fq l) (srl l)) L (2 * (us6 l).length - 2) hm
  rw [hp.count_eq, cof_sel (srl_nodup l)]
  unfold lm
  rw [if_neg h1]
  have e : (leafs (fq l) (srl l)).map (·.1) = lws l := by unfold leafs lws; rw [List.map_map]; rfl
  rw [e]
  by_cases hs : s ∈ us6 l
  · rw [if_pos (srl_mem.2 hs), if_pos hs]
  · rw [if_neg (fun q => hs (srl_mem.1 q)), if_neg hs]
end Go.Proofs.YthngagciiidppaaDoor

namespace Go.Proofs.YthngagciiidppaaDoor
open Go.RowKit Go.Maps
set_option maxRecDepth 20000
set_option linter.unusedVariables false
set_option linter.unusedSimpArgs false

/-- Nothing of it lies between two places of memory. -/
structure Npt (B C : Nat) (u : Value) (R : List Mnd) : Prop where
  row : ∀ b, u.ownBlock = some b → b < B ∨ C ≤ b
  holds : ∀ p ∈ R, ∀ b, p.2.ownBlock = some b → b < B ∨ C ≤ b

structure Lst (w1 wo : World) (B C n : Nat) (lv : Value) (len : Nat → Nat) (W : World) : Prop where
  le : OI W B lv (hls n len)
  keep : ∀ b, b < B ∨ C ≤ b → W.heap[b]? = wo.heap[b]?
  bl : Below w1.heap.size w1 W

theorem Lst.bump {w1 wo W : World} {B C n gl c s : Nat} {A : List Nat} (h : Lst w1 wo B C n (.slice (some ⟨gl, 0, none⟩) n c) (cof A) W) (h1 : B ≤ gl) (h2 : gl < C) (hw : w1.heap.size ≤ B) (hs : s < n) :
    W.cell? ⟨gl, s, none⟩ = some (.int .i64 (cof A s : Int)) ∧ W.frozen? ⟨gl, s, none⟩ = false ∧ Lst w1 wo B C n (.slice (some ⟨gl, 0, none⟩) n c) (cof (A ++ [s])) (W.setCell ⟨gl, s, none⟩ (.int .i64 ((cof A s : Int) + 1))) := by
  have e1 := h.le.get (b := gl) rfl (i := s) (by rw [hls_len]; exact hs)
  rw [hls_get (cof A) hs] at e1
  refine ⟨e1, (h.le.putg (k := s) (by rw [hls_len]; exact hs) 0).2.1, ?_, fun b hb => ?_, h.bl.setCell (p := ⟨gl, s, none⟩) (by show w1.heap.size ≤ gl; omega) _⟩
  · have e2 := (h.le.putg (k := s) (by rw [hls_len]; exact hs) ((cof A s : Int) + 1)).2.2
    rw [cof_step A hs] at e2
    exact e2
  · rw [setCell_others _ _ _ _ b (by show b ≠ gl; omega)]
    exact h.keep b hb

theorem npk_in {l : List Nod} {s : Nat} (h : s ∈ syms (npk l)) : s ∈ syms l := by
  induction l using npk.induct with
  | case1 a b r ih =>
    rw [npk] at h
    simp only [syms, List.flatMap_cons, List.mem_append] at h ih ⊢
    rcases h with (h | h) | h
    · exact .inl h
    · exact .inr (.inl h)
    · exact .inr (.inr (ih h))
  | case2 l hl =>
    rw [npk.eq_2 _ hl] at h
    simp [syms] at h

theorem nmg_in {a b : List Nod} {s : Nat} (h : s ∈ syms (nmg a b)) : s ∈ syms a ∨ s ∈ syms b := by
  induction a, b using nmg.induct with
  | case1 p => rw [nmg] at h; exact .inr h
  | case2 a w => rw [nmg] at h; exact .inl h
  | case3 a w b p c ih =>
    rw [nmg, if_pos c] at h
    simp only [syms, List.flatMap_cons, List.mem_append] at h ih ⊢
    rcases h with h | h
    · exact .inl (.inl h)
    · rcases ih h with h | h
      · exact .inl (.inr h)
      · exact .inr h
  | case4 a w b p c ih =>
    rw [nmg, if_neg c] at h
    simp only [syms, List.flatMap_cons, List.mem_append] at h ih ⊢
    rcases h with h | h
    · exact .inr (.inl h)
    · rcases ih h with h | h
      · exact .inl h
      · exact .inr (.inr h)

theorem nrow_in {W : List Nod} {k s : Nat} (h : s ∈ syms (nrow W k)) : s ∈ syms W := by
  induction k with
  | zero => simp [nrow, syms] at h
  | succ k ih =>
    rcases nmg_in h with h | h
    · exact h
    · exact ih (npk_in h)

theorem syms_cut (R : List Nod) (i : Nat) : (syms (R.take i)).length ≤ (syms R).length := by
  have e : (syms R).length = (syms (R.take i)).length + (syms (R.drop i)).length := by
    rw [← List.length_append]
    unfold syms
    rw [← List.flatMap_append, List.take_append_drop]
  omega

theorem cof_le (A : List Nat) (s : Nat) : cof A s ≤ A.length := List.count_le_length

end Go.Proofs.YthngagciiidppaaDoor

