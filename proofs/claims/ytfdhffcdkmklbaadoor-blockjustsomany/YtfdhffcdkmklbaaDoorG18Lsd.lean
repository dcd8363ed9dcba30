import Derived.Test.YtfdhffcdkmklbaaDoorG17Xpk
import Derived.Test.YtfdhffcdkmklbaaDoorG15Rg6
import Derived.Test.YtfdhffcdkmklbaaDoorG16Nde
import Derived.Test.YtfdhffcdkmklbaaDoorG05Pks
namespace Go.Proofs.YtfdhffcdkmklbaaDoor
open Go.RowKit Go.Maps
set_option maxRecDepth 20000
set_option linter.unusedVariables false
set_option linter.unusedSimpArgs false

/-- One more symbol is put into its place. -/
theorem srt_put {l : List Int} {k a : Nat} {T : List Nat} (hk : k < (us6 l).length) (h : Srt l ((us6 l).take k) T) (ha : a ≤ T.length)
    (h1 : ∀ t ∈ T.drop a, l.getD ((us6 l).getD k 0) 0 < l.getD t 0) (h2 : a = 0 ∨ l.getD (T.getD (a - 1) 0) 0 ≤ l.getD ((us6 l).getD k 0) 0) :
    Srt l ((us6 l).take (k + 1)) (T.take a ++ (us6 l).getD k 0 :: T.drop a) := by
  have e : (us6 l).getD k 0 = (us6 l)[k] := by simp [hk]
  have htk : (us6 l).take (k + 1) = (us6 l).take k ++ [(us6 l).getD k 0] := by rw [List.take_succ_eq_append_getElem hk, e]
  have hT : T = T.take a ++ T.drop a := (List.take_append_drop a T).symm
  have hlt : ∀ t ∈ T, t < (us6 l).getD k 0 := fun t ht => by
    have hm := h.perm.subset ht
    obtain ⟨i, hi, rfl⟩ := List.getElem_of_mem hm
    rw [List.length_take] at hi
    rw [List.getElem_take, e]
    exact (List.pairwise_iff_getElem.1 (us_rise l)) i k (by omega) hk (by omega)
  have hp := h.rise
  rw [hT, List.pairwise_append] at hp
  refine ⟨?_, ?_⟩
  · rw [htk]
    have p1 : (T.take a ++ (us6 l).getD k 0 :: T.drop a).Perm ((us6 l).getD k 0 :: (T.take a ++ T.drop a)) := List.perm_middle
    refine p1.trans ?_
    rw [← hT]
    exact ((List.perm_cons _).2 h.perm).trans (by have := (List.perm_append_comm (l₁ := [(us6 l).getD k 0]) (l₂ := (us6 l).take k)); exact this)
  · rw [List.pairwise_append]
    refine ⟨hp.1, List.pairwise_cons.2 ⟨fun t ht => .inl (h1 t ht), hp.2.1⟩, fun t ht u hu => ?_⟩
    rcases List.mem_cons.1 hu with rfl | hu
    · have htT : t ∈ T := List.mem_of_mem_take ht
      have hle : l.getD t 0 ≤ l.getD ((us6 l).getD k 0) 0 := by
        rcases h2 with h0 | h2
        · rw [h0] at ht; simp at ht
        · obtain ⟨i, hi, rfl⟩ := List.getElem_of_mem ht
          rw [List.length_take] at hi
          rw [List.getElem_take]
          by_cases c : i = a - 1
          · have : T.getD (a - 1) 0 = T[i] := by
              subst c
              rw [List.getD_eq_getElem?_getD, List.getElem?_eq_getElem (by omega)]; rfl
            rw [← this]; exact h2
          · have hr := (List.pairwise_iff_getElem.1 h.rise) i (a - 1) (by omega) (by omega) (by omega)
            have : T.getD (a - 1) 0 = T[a - 1]'(by omega) := by rw [List.getD_eq_getElem?_getD, List.getElem?_eq_getElem (by omega)]; rfl
            rw [this] at h2
            unfold Lf at hr
            omega
      have := hlt t htT
      unfold Lf
      omega
    · exact hp.2.2 t ht u hu
end Go.Proofs.YtfdhffcdkmklbaaDoor

namespace Go.Proofs.YtfdhffcdkmklbaaDoor
open Go.RowKit Go.Maps
set_option maxRecDepth 20000
set_option linter.unusedVariables false
set_option linter.unusedSimpArgs false

theorem leafs_get (f : Nat → Nat) (T : List Nat) {i : Nat} (h : i < T.length) : (leafs f T).getD i nod0 = (f (T.getD i 0), [T.getD i 0]) := by
  simp [leafs, h]

end Go.Proofs.YtfdhffcdkmklbaaDoor

namespace Go.Proofs.YtfdhffcdkmklbaaDoor
open Go.RowKit Go.Maps
set_option maxRecDepth 20000
set_option linter.unusedVariables false
set_option linter.unusedSimpArgs false

theorem nmg_nil (W : List Nod) : nmg W [] = W := by cases W <;> simp [nmg]
theorem nrow_one (W : List Nod) : nrow W 1 = W := by
  show nmg W (npk []) = W
  rw [show npk [] = [] by simp [npk]]
  exact nmg_nil W

theorem npk_sum (l : List Nod) : ((npk l).map (·.1)).sum ≤ (l.map (·.1)).sum ∧ (syms (npk l)).length ≤ (syms l).length ∧ (npk l).length ≤ l.length / 2 := by
  induction l using npk.induct with
  | case1 a b r ih =>
    rw [npk]
    simp only [syms, List.map_cons, List.sum_cons, List.flatMap_cons, List.length_append, List.length_cons] at ih ⊢
    omega
  | case2 l h =>
    rw [npk.eq_2 _ h]
    simp [syms]

theorem nmg_sum (a b : List Nod) : ((nmg a b).map (·.1)).sum = (a.map (·.1)).sum + (b.map (·.1)).sum ∧ (syms (nmg a b)).length = (syms a).length + (syms b).length ∧ (nmg a b).length = a.length + b.length := by
  induction a, b using nmg.induct with
  | case1 p => simp [nmg, syms]
  | case2 a w => simp [nmg, syms]
  | case3 a w b p h ih =>
    rw [nmg, if_pos h]
    simp only [syms, List.map_cons, List.sum_cons, List.flatMap_cons, List.length_append, List.length_cons] at ih ⊢
    omega
  | case4 a w b p h ih =>
    rw [nmg, if_neg h]
    simp only [syms, List.map_cons, List.sum_cons, List.flatMap_cons, List.length_append, List.length_cons] at ih ⊢
    omega

theorem nrow_sum (W : List Nod) (k : Nat) : ((nrow W k).map (·.1)).sum ≤ k * (W.map (·.1)).sum ∧ (syms (nrow W k)).length ≤ k * (syms W).length ∧ (nrow W k).length ≤ 2 * W.length := by
  induction k with
  | zero => simp [nrow, syms]
  | succ k ih =>
    have h1 := nmg_sum W (npk (nrow W k))
    have h2 := npk_sum (nrow W k)
    rw [nrow, Nat.succ_mul, Nat.succ_mul]
    omega

/-- How often each symbol stands in a list. -/
def cof (A : List Nat) (s : Nat) : Nat := A.count s

theorem cof_step {n s : Nat} (A : List Nat) (h : s < n) : (hls n (cof A)).set s ((cof A s : Int) + 1) = hls n (cof (A ++ [s])) := by
  apply List.ext_getElem
  · rw [List.length_set, hls_len, hls_len]
  · intro i h1 h3
    have hel : ∀ (H : Nat → Nat) (h : i < (hls n H).length), (hls n H)[i] = (H i : Int) := fun H h => by simp [hls]
    rw [List.getElem_set, hel, hel]
    unfold cof
    rw [List.count_append]
    split
    · rename_i e
      subst e
      simp
    · rename_i e
      rw [List.count_eq_zero_of_not_mem (l := [s]) (by simp; omega)]
      simp

theorem cof_take {T : List Nat} (hn : T.Nodup) (c s : Nat) : (T.take c).count s = if s ∈ T ∧ T.idxOf s < c then 1 else 0 := by
  by_cases hs : s ∈ T
  · by_cases hc : T.idxOf s < c
    · rw [if_pos ⟨hs, hc⟩]
      have hmem : s ∈ T.take c := by
        have hlt := List.idxOf_lt_length_of_mem hs
        have e : (T.take c)[T.idxOf s]'(by rw [List.length_take]; omega) = s := by rw [List.getElem_take]; exact List.getElem_idxOf hlt
        rw [← e]
        exact List.getElem_mem _
      have h1 := List.nodup_iff_count.1 (hn.sublist (List.take_sublist c T)) s
      have h2 := List.count_pos_iff.2 hmem
      omega
    · rw [if_neg (fun h => hc h.2)]
      apply List.count_eq_zero_of_not_mem
      intro hm
      obtain ⟨i, hi, he⟩ := List.getElem_of_mem hm
      rw [List.length_take] at hi
      rw [List.getElem_take] at he
      have : T.idxOf s = i := by rw [← he]; exact hn.idxOf_getElem i (by omega)
      omega
  · rw [if_neg (fun h => hs h.1)]
    exact List.count_eq_zero_of_not_mem (fun hm => hs (List.mem_of_mem_take hm))

theorem leafs_take (f : Nat → Nat) (T : List Nat) (c : Nat) : syms ((leafs f T).take c) = T.take c := by
  rw [← syms_leafs f (T.take c)]
  simp [leafs]

theorem cof_sel {T : List Nat} (hn : T.Nodup) (f : Nat → Nat) (cs : List Nat) (s : Nat) : (cs.flatMap fun c => syms ((leafs f T).take c)).count s = if s ∈ T then ct cs (T.idxOf s) else 0 := by
  induction cs with
  | nil => simp [ct]
  | cons c cs ih =>
    rw [List.flatMap_cons, List.count_append, ih, leafs_take, cof_take hn, ct_cons]
    by_cases hs : s ∈ T
    · simp [hs]
    · simp [hs]

/-- What the lengths are in the end. -/
theorem cof_lm {l : List Int} {L : Nat} (h1 : (us6 l).length ≠ 1) (hm : 2 * (us6 l).length - 2 ≤ (nrow (leafs (fq l) (srl l)) L).length) (s : Nat) : cof (syms ((nrow (leafs (fq l) (srl l)) L).take (2 * (us6 l).length - 2))) s = lm l L s := by
  unfold cof
  have hp := sel_syms (leafs (fq l) (srl l)) L (2 * (us6 l).length - 2) hm
  rw [hp.count_eq, cof_sel (srl_nodup l)]
  unfold lm
  rw [if_neg h1]
  have e : (leafs (fq l) (srl l)).map (·.1) = lws l := by unfold leafs lws; rw [List.map_map]; rfl
  rw [e]
  by_cases hs : s ∈ us6 l
  · rw [if_pos (srl_mem.2 hs), if_pos hs]
  · rw [if_neg (fun q => hs (srl_mem.1 q)), if_neg hs]
end Go.Proofs.YtfdhffcdkmklbaaDoor

namespace Go.Proofs.YtfdhffcdkmklbaaDoor
open Go.RowKit Go.Maps
set_option maxRecDepth 20000
set_option linter.unusedVariables false
set_option linter.unusedSimpArgs false

/-- Nothing of it lies between two places of memory. -/
structure Npt (B C : Nat) (u : Value) (R : List Mnd) : Prop where
  row : ∀ b, u.ownBlock = some b → b < B ∨ C ≤ b
  holds : ∀ p ∈ R, ∀ b, p.2.ownBlock = some b → b < B ∨ C ≤ b

structure Lst (w1 wo : World) (B C n : Nat) (lv : Value) (len : Nat → Nat) (W : World) : Prop where
  le : OI W B lv (hls n len)
  keep : ∀ b, b < B ∨ C ≤ b → W.heap[b]? = wo.heap[b]?
  bl : Below w1.heap.size w1 W

theorem Lst.bump {w1 wo W : World} {B C n gl c s : Nat} {A : List Nat} (h : Lst w1 wo B C n (.slice (some ⟨gl, 0, none⟩) n c) (cof A) W) (h1 : B ≤ gl) (h2 : gl < C) (hw : w1.heap.size ≤ B) (hs : s < n) :
    W.cell? ⟨gl, s, none⟩ = some (.int .i64 (cof A s : Int)) ∧ W.frozen? ⟨gl, s, none⟩ = false ∧ Lst w1 wo B C n (.slice (some ⟨gl, 0, none⟩) n c) (cof (A ++ [s])) (W.setCell ⟨gl, s, none⟩ (.int .i64 ((cof A s : Int) + 1))) := by
  have e1 := h.le.get (b := gl) rfl (i := s) (by rw [hls_len]; exact hs)
  rw [hls_get (cof A) hs] at e1
  refine ⟨e1, (h.le.putg (k := s) (by rw [hls_len]; exact hs) 0).2.1, ?_, fun b hb => ?_, h.bl.setCell (p := ⟨gl, s, none⟩) (by show w1.heap.size ≤ gl; omega) _⟩
  · have e2 := (h.le.putg (k := s) (by rw [hls_len]; exact hs) ((cof A s : Int) + 1)).2.2
    rw [cof_step A hs] at e2
    exact e2
  · rw [setCell_others _ _ _ _ b (by show b ≠ gl; omega)]
    exact h.keep b hb

theorem npk_in {l : List Nod} {s : Nat} (h : s ∈ syms (npk l)) : s ∈ syms l := by
  induction l using npk.induct with
  | case1 a b r ih =>
    rw [npk] at h
    simp only [syms, List.flatMap_cons, List.mem_append] at h ih ⊢
    rcases h with (h | h) | h
    · exact .inl h
    · exact .inr (.inl h)
    · exact .inr (.inr (ih h))
  | case2 l hl =>
    rw [npk.eq_2 _ hl] at h
    simp [syms] at h

theorem nmg_in {a b : List Nod} {s : Nat} (h : s ∈ syms (nmg a b)) : s ∈ syms a ∨ s ∈ syms b := by
  induction a, b using nmg.induct with
  | case1 p => rw [nmg] at h; exact .inr h
  | case2 a w => rw [nmg] at h; exact .inl h
  | case3 a w b p c ih =>
    rw [nmg, if_pos c] at h
    simp only [syms, List.flatMap_cons, List.mem_append] at h ih ⊢
    rcases h with h | h
    · exact .inl (.inl h)
    · rcases ih h with h | h
      · exact .inl (.inr h)
      · exact .inr h
  | case4 a w b p c ih =>
    rw [nmg, if_neg c] at h
    simp only [syms, List.flatMap_cons, List.mem_append] at h ih ⊢
    rcases h with h | h
    · exact .inr (.inl h)
    · rcases ih h with h | h
      · exact .inl h
      · exact .inr (.inr h)

theorem nrow_in {W : List Nod} {k s : Nat} (h : s ∈ syms (nrow W k)) : s ∈ syms W := by
  induction k with
  | zero => simp [nrow, syms] at h
  | succ k ih =>
    rcases nmg_in h with h | h
    · exact h
    · exact ih (npk_in h)

theorem syms_cut (R : List Nod) (i : Nat) : (syms (R.take i)).length ≤ (syms R).length := by
  have e : (syms R).length = (syms (R.take i)).length + (syms (R.drop i)).length := by
    rw [← List.length_append]
    unfold syms
    rw [← List.flatMap_append, List.take_append_drop]
  omega

theorem cof_le (A : List Nat) (s : Nat) : cof A s ≤ A.length := List.count_le_length

end Go.Proofs.YtfdhffcdkmklbaaDoor

namespace Go.Proofs.YtfdhffcdkmklbaaDoor
open Go.RowKit Go.Maps
set_option maxRecDepth 20000
set_option linter.unusedVariables false

theorem otrees_any (al ad : Option Addr) (nl cl nd cd : Nat) (L D : List Int) (w : World) (h1 : SI w (.slice al nl cl) L) (h2 : SI w (.slice ad nd cd) D) (k1 : ∀ k, (Value.slice al nl cl).ownBlock = some k → k < w.heap.size) (k2 : ∀ k, (Value.slice ad nd cd).ownBlock = some k → k < w.heap.size) :
    Calls Tryd.prog 36 #[.agg #[.slice al nl cl, .slice ad nd cd]] w fun e w' => ∃ a1 c1 a2 c2, e = .returned (.agg #[.slice a1 (lmL L 15).length c1, .slice a2 (lmL D 15).length c2]) ∧ OI w' w.heap.size (.slice a1 (lmL L 15).length c1) (lmL L 15) ∧ OI w' w.heap.size (.slice a2 (lmL D 15).length c2) (lmL D 15) ∧
      (∀ k, (Value.slice a1 (lmL L 15).length c1).ownBlock = some k → (Value.slice a2 (lmL D 15).length c2).ownBlock ≠ some k) ∧ Below w.heap.size w w' := by
  obtain ⟨wb, hwb⟩ : ∃ wb, w.alloc (.cells #[.slice al nl cl, .slice ad nd cd] 49) = wb := ⟨_, rfl⟩
  obtain ⟨wr, hwr⟩ : ∃ wr, wb.alloc (.cells #[.slice none 0 0, .slice none 0 0] 49) = wr := ⟨_, rfl⟩
  have HB1 : Hid (Below w.heap.size w wb) := by rw [← hwb]; exact (Below.refl _ _).alloc (Nat.le_refl _) _
  have HB2 : Hid (Below w.heap.size w wr) := by rw [← hwr]; exact HB1.out.alloc HB1.out.size _
  have sb : wb.heap.size = w.heap.size + 1 := by rw [← hwb]; simp
  have sr : wr.heap.size = w.heap.size + 1 + 1 := by rw [← hwr]; simp [sb]
  have n1 : wr.heap[w.heap.size]? = some (.cells #[.slice al nl cl, .slice ad nd cd] 49 (0, 0)) := by rw [← hwr, alloc_at, if_neg (by omega), ← hwb, alloc_at, if_pos rfl]
  have n2 : wr.heap[w.heap.size + 1]? = some (.cells #[.slice none 0 0, .slice none 0 0] 49 (0, 0)) := by rw [← hwr, alloc_at, if_pos sb.symm]
  have c0 : wr.cell? ⟨w.heap.size, 0, none⟩ = some (.slice al nl cl) := by unfold World.cell?; rw [n1]; rfl
  have c1 : wr.cell? ⟨w.heap.size, 1, none⟩ = some (.slice ad nd cd) := by unfold World.cell?; rw [n1]; rfl
  have HL1 := hide (limited_any _ L 15 wr (h1.below HB2.out) (fun k hk => by have := k1 k hk; omega) (by decide))
  have HL2 : Hid (∀ w2, Below wr.heap.size wr w2 → Calls Tryd.prog 49 #[.slice ad nd cd, .int .i64 15] w2 fun e w' => ∃ a c, e = .returned (.tuple #[.slice a (lmL D 15).length c, .int .i64 (lmE D 15)]) ∧ OI w' w2.heap.size (.slice a (lmL D 15).length c) (lmL D 15) ∧ Below w2.heap.size w2 w') :=
    fun w2 b2 => limited_any _ D 15 w2 ((h2.below HB2.out).below b2) (fun k hk => by have := k2 k hk; have := b2.size; omega) (by decide)
  have HN1 := hide n1
  have HN2 := hide n2
  have HSR := hide sr
  obtain ⟨r, hr⟩ : ∃ r, w.heap.size + 1 = r := ⟨_, rfl⟩
  have HRL : Hid (r < wr.heap.size) := by show _ < _; omega
  rw [hr] at HN2 sb
  clear h1 h2 k1 k2 n1 n2 sr
  go_enter Tryd.func36, Tryd.ntmps36
  go_wp2_with fail
  refine HL1.out.mono ?_
  rintro e w3 ⟨a1, c1', rfl, o3, b3⟩
  have z1 : w3.cell? ⟨w.heap.size, 1, none⟩ = some (.slice ad nd cd) := (b3.cell (World.block_lt_of_cell? _ _ c1)).trans c1
  have HC2 := hide (HL2.out w3 b3)
  have HO3 := hide o3
  have HB3 := hide (HB2.out.trans (b3.mono HB2.out.size))
  have HN3 := hide ((b3.block r HRL.out).trans HN2.out)
  have HS3 := hide b3.size
  clear HL1 HL2 c0 c1 o3 b3 HN1 HN2
  go_wp2_with fail
  refine HC2.out.mono ?_
  rintro e w4 ⟨a2, c2', rfl, o4, b4⟩
  have HB4 := hide (HB3.out.trans (b4.mono HB3.out.size))
  have HN4 := hide ((b4.block r (lt_of_block HN3.out)).trans HN3.out)
  have HO4 := hide o4
  have HP4 := hide (HO3.out.move fun k hk => b4.block k (HO3.out.lt k hk).2)
  have hap : ∀ k, (Value.slice a1 (lmL L 15).length c1').ownBlock = some k → k ≠ r ∧ w.heap.size ≤ k ∧ k < w3.heap.size := fun k hk => by
    have := HO3.out.lt k hk
    have := HSR.out
    omega
  have hap2 : ∀ k, (Value.slice a2 (lmL D 15).length c2').ownBlock = some k → k ≠ r ∧ w.heap.size ≤ k ∧ w3.heap.size ≤ k := fun k hk => by
    have := HO4.out.lt k hk
    have := HSR.out
    have := HS3.out
    omega
  have HA1 := hide hap
  have HA2 := hide hap2
  have r0 : w4.cell? ⟨r, 0, none⟩ = some (.slice none 0 0) := by unfold World.cell?; rw [HN4.out]; rfl
  have r1 : w4.cell? ⟨r, 1, none⟩ = some (.slice none 0 0) := by unfold World.cell?; rw [HN4.out]; rfl
  have r2 : w4.frozen? ⟨r, 0, none⟩ = false := frozen_of_row _ _ _ _ _ HN4.out
  have r3 : w4.frozen? ⟨r, 1, none⟩ = false := frozen_of_row _ _ _ _ _ HN4.out
  clear z1 HC2 o4 b4 hap hap2 HN3 HO3 HS3
  obtain ⟨n1, HM1⟩ : ∃ n, Hid (n = (lmL L 15).length) := ⟨_, rfl⟩
  obtain ⟨n2, HM2⟩ : ∃ n, Hid (n = (lmL D 15).length) := ⟨_, rfl⟩
  rw [← HM1.out] at HP4 HA1 ⊢
  rw [← HM2.out] at HO4 HA2 ⊢
  obtain ⟨wf, hwf⟩ : ∃ wf, (w4.setCell ⟨r, 0, none⟩ (.slice a1 n1 c1')).setCell ⟨r, 1, none⟩ (.slice a2 n2 c2') = wf := ⟨_, rfl⟩
  have hoth : ∀ k, k ≠ r → wf.heap[k]? = w4.heap[k]? := fun k hk => by rw [← hwf, setCell_others _ _ _ _ _ hk, setCell_others _ _ _ _ _ hk]
  have HBF : Hid (Below w.heap.size w wf) := by rw [← hwf]; exact (HB4.out.setCell (p := ⟨r, 0, none⟩) (by show _ ≤ r; omega) _).setCell (p := ⟨r, 1, none⟩) (by show _ ≤ r; omega) _
  have HLF : Hid (OI wf w.heap.size (.slice a1 n1 c1') (lmL L 15)) := (HP4.out.base (by have := HSR.out; omega)).move fun k hk => hoth k (HA1.out k hk).1
  have HDF : Hid (OI wf w.heap.size (.slice a2 n2 c2') (lmL D 15)) := (HO4.out.base (by have := HB3.out.size; omega)).move fun k hk => hoth k (HA2.out k hk).1
  have hfb : wf.heap[r]? = some (.cells #[.slice a1 n1 c1', .slice a2 n2 c2'] 49 (0, 0)) := by
    have h1 := heap_setCell_same w4 r 0 _ _ (.slice a1 n1 c1') HN4.out
    have h2 := heap_setCell_same _ r 1 _ _ (.slice a2 n2 c2') h1
    rw [hwf] at h2
    simpa using h2
  have f0 : wf.cell? ⟨r, 0, none⟩ = some (.slice a1 n1 c1') := by unfold World.cell?; rw [hfb]; rfl
  have f1 : wf.cell? ⟨r, 1, none⟩ = some (.slice a2 n2 c2') := by unfold World.cell?; rw [hfb]; rfl
  clear hoth hfb
  go_wp2
  refine bodyPost_ret (v := .agg #[.slice a1 n1 c1', .slice a2 n2 c2']) (by simp [results, Tryd.results36, go_sem, f0, f1]) rfl ?_
  have e1 := HM1.out
  have e2 := HM2.out
  subst e1 e2
  refine ⟨_, _, _, _, rfl, HLF.out, HDF.out, fun k hk e => ?_, HBF.out⟩
  have q1 := HA1.out k hk
  have q2 := HA2.out k e
  omega

/-- What Trees answers. -/
noncomputable def trL (R : List Tk) : List Int := if ctE R = 0 then lmL (ctL R) 15 else []
noncomputable def trD (R : List Tk) : List Int := if ctE R = 0 then lmL (ctD R) 15 else []

def Tra (B : Nat) (R : List Tk) (e : Ending) (w w' : World) : Prop :=
  ∃ vl vd, e = .returned (.tuple #[vl, vd, .int .i64 (ctE R)]) ∧ OI w' B vl (trL R) ∧ OI w' B vd (trD R) ∧ (∀ k, vl.ownBlock = some k → vd.ownBlock ≠ some k) ∧ Below B w w'

theorem tra_no {R : List Tk} {B : Nat} {w w' : World} (hE : ctE R ≠ 0) (hb : Below B w w') : Tra B R (.returned (.tuple #[.slice none 0 0, .slice none 0 0, .int .i64 (ctE R)])) w w' := by
  have h1 : trL R = [] := by unfold trL; rw [if_neg hE]
  have h2 : trD R = [] := by unfold trD; rw [if_neg hE]
  refine ⟨_, _, rfl, by rw [h1]; exact oi_nil10 _ _, by rw [h2]; exact oi_nil10 _ _, fun k hk => by simp [Value.ownBlock] at hk, hb⟩

end Go.Proofs.YtfdhffcdkmklbaaDoor

namespace Go.Proofs.YtfdhffcdkmklbaaDoor
open Go.RowKit Go.Maps
set_option maxRecDepth 20000
set_option linter.unusedVariables false

/-- How many bytes the tokens say. -/
def lsayT (t : Tk) : Int := if t.1 = 0 then 1 else t.1
def lsay (R : List Tk) : Int := (R.map lsayT).sum

theorem lsay_snoc (R : List Tk) (t : Tk) : lsay (R ++ [t]) = lsay R + lsayT t := by simp [lsay]

theorem lsay_in : ∀ A : List Tk, asnd A = true → 0 ≤ lsay A ∧ lsay A ≤ 258 * (A.length : Int)
  | [], _ => by simp [lsay]
  | t :: A, h => by
    have h0 : sndb t = true ∧ asnd A = true := by simpa [asnd] using h
    have h2 := lsay_in A h0.2
    have h1 : 0 ≤ lsayT t ∧ lsayT t ≤ 258 := by
      have := of_decide_eq_true (show decide (Snd t) = true from h0.1)
      unfold Snd at this
      unfold lsayT
      by_cases e : t.1 = 0
      · rw [if_pos e]; omega
      · rw [if_neg e] at this ⊢; omega
    have e : lsay (t :: A) = lsayT t + lsay A := by simp [lsay]
    rw [e]
    simp only [List.length_cons]
    omega

/-- What the law's sound answers. -/
def Lsa (R : List Tk) (e : Ending) : Prop := ∃ near, e = .returned (.tuple #[.int .i64 (if asnd R then lsay R else 0), .bool (asnd R), .bool near])

set_option maxHeartbeats 1000000 in
theorem lsound_any (v : Value) (R : List Tk) (w : World) (h : SK w v R) (hn : R.length ≤ 5864062014800) :
    Calls Tryd.prog 26 #[v, .int .i64 0] w fun e w' => Lsa R e ∧ Below w.heap.size w w' := by
  have HS := hide h
  obtain ⟨ao, cap, rfl, hlc, hcm⟩ := h.open
  clear h
  have hmx : R.length ≤ 9223372036854775807 := by omega
  go_enter Tryd.func26, Tryd.ntmps26
  go_wp2
  go_loopw [7, 8, 9] (fun s b t wr => ∃ (k : Nat) (nr : Bool), k ≤ R.length ∧ t = .int .i64 (k : Int) ∧ s = .int .i64 (lsay (R.take k)) ∧ b = .bool nr ∧ Hid (asnd (R.take k) = true) ∧ Hid (Below w.heap.size w wr)) (fun _ _ t _ => R.length - (intOf t).toNat)
  case atStart => exact ⟨0, true, Nat.zero_le _, rfl, rfl, rfl, rfl, Below.refl _ _⟩
  case round =>
    obtain ⟨k, nr, hk, rfl, rfl, rfl, HA, HB⟩ := hrel
    by_cases hlt : k < R.length
    · have hlt' : (k : Int) < (R.length : Int) := by omega
      obtain ⟨b, o, rfl, c0, c1, c2⟩ := HS.out.get HB.out hlt
      have HSN := hide (asnd_snoc hlt)
      have HBD := hide (asnd_bad hlt)
      have hsy := lsay_in _ HA.out
      rw [List.length_take, Nat.min_eq_left (Nat.le_of_lt hlt)] at hsy
      have HNX : Hid (lsay (R.take (k + 1)) = lsay (R.take k) + lsayT (R.getD k tk0)) := by show _ = _; rw [tk_snoc hlt, lsay_snoc]
      obtain ⟨⟨t1, t2, t3⟩, ht⟩ : ∃ t, R.getD k tk0 = t := ⟨_, rfl⟩
      rw [ht] at c0 c1 c2 HSN HBD HNX
      simp only at c0 c1 c2
      obtain ⟨N, hN⟩ : ∃ N, lsay (R.take k) = N := ⟨_, rfl⟩
      rw [hN] at hsy HNX ⊢
      obtain ⟨w6, hw6⟩ : ∃ w6, wr.alloc (.cells #[.int .i64 t1, .int .i64 t2, .int .u8 t3] 65) = w6 := ⟨_, rfl⟩
      have HN6 : Hid (w6.heap[wr.heap.size]? = some (.cells #[.int .i64 t1, .int .i64 t2, .int .u8 t3] 65 (0, 0))) := by rw [← hw6]; exact heap_alloc_new wr _
      have HB6 : Hid (Below w.heap.size w w6) := by rw [← hw6]; exact HB.out.alloc HB.out.size _
      obtain ⟨q, hq⟩ : ∃ q, wr.heap.size = q := ⟨_, rfl⟩
      rw [hq] at HN6
      have y0 : w6.cell? ⟨q, 0, none⟩ = some (.int .i64 t1) := by unfold World.cell?; rw [HN6.out]; rfl
      have y1 : w6.cell? ⟨q, 1, none⟩ = some (.int .i64 t2) := by unfold World.cell?; rw [HN6.out]; rfl
      have y2 : w6.cell? ⟨q, 2, none⟩ = some (.int .u8 t3) := by unfold World.cell?; rw [HN6.out]; rfl
      have HSC := hide (snd_cpy t1 t2 t3)
      clear ht hN HB HN6
      by_cases hs : sndb (t1, t2, t3) = true
      · have HN : Hid (asnd (R.take (k + 1)) = true) := by show _ = _; rw [HSN.out, HA.out, hs]; rfl
        by_cases h0 : t1 = 0
        · have h2 : t2 = 0 := by
            have := of_decide_eq_true (show decide (Snd (t1, t2, t3)) = true from hs)
            unfold Snd at this
            rw [if_pos h0] at this
            exact this
          have hv : lsayT (t1, t2, t3) = 1 := by unfold lsayT; rw [if_pos h0]
          rw [hv] at HNX
          have hw1 : wrap64 (N + 1) = N + 1 := by unfold wrap64; omega
          rw [h0] at y0
          rw [h2] at y1
          clear h0 h2 hs hv HSC HSN HBD
          go_wp2
          go_roundw
          case rel => exact ⟨k + 1, nr, by omega, by go_num, by rw [HNX.out], rfl, HN, HB6⟩
          case measure => simp [intOf]; omega
        · have hc : 3 ≤ t1 ∧ t1 ≤ 258 ∧ 1 ≤ t2 ∧ t2 ≤ 32768 ∧ t3 = 0 := by
            have := of_decide_eq_true (show decide (Snd (t1, t2, t3)) = true from hs)
            unfold Snd at this
            rw [if_neg h0] at this
            exact this
          obtain ⟨d1, d2, d3, d4, d5⟩ := hc
          have hv : lsayT (t1, t2, t3) = t1 := by unfold lsayT; rw [if_neg h0]
          rw [hv] at HNX
          have hw1 : wrap64 (N + t1) = N + t1 := by unfold wrap64; omega
          have g0 : (t1 == 0) = false := by simpa using h0
          have g1 : ¬ t1 < 3 := by omega
          have g2 : ¬ (258 : Int) < t1 := by omega
          have g3 : ¬ t2 < 1 := by omega
          have g4 : ¬ (32768 : Int) < t2 := by omega
          have hw0 : wrap64 N = N := by unfold wrap64; omega
          rw [d5] at y2
          clear h0 hs hv HSC HSN HBD d1 d2 d3 d4 d5
          cases nr with
          | true =>
            by_cases hd : t2 ≤ N
            · go_wp2
              go_roundw
              case rel => exact ⟨k + 1, _, by omega, by go_num, by rw [HNX.out], rfl, HN, HB6⟩
              case measure => simp [intOf]; omega
            · go_wp2
              go_roundw
              case rel => exact ⟨k + 1, _, by omega, by go_num, by rw [HNX.out], rfl, HN, HB6⟩
              case measure => simp [intOf]; omega
          | false =>
            go_wp2
            go_roundw
            case rel => exact ⟨k + 1, _, by omega, by go_num, by rw [HNX.out], rfl, HN, HB6⟩
            case measure => simp [intOf]; omega
      · have hs' : sndb (t1, t2, t3) = false := by simpa using hs
        have HR := hide (HBD.out hs')
        have hno : ¬ Cpy (t1, t2, t3) ∧ ¬ (t1 = 0 ∧ t2 = 0) := by
          rw [HSC.out] at hs'
          simp at hs'
          exact ⟨hs'.1, fun q => hs'.2 q.1 q.2⟩
        obtain ⟨n1, n2⟩ := hno
        unfold Cpy at n1
        simp only at n1
        clear hs hs' HSC HSN HBD hsy HNX
        by_cases h0 : t1 = 0
        · have h2 : ¬ t2 = 0 := fun e => n2 ⟨h0, e⟩
          have z2 : (t2 == 0) = false := by simpa using h2
          rw [h0] at y0
          clear n1 n2 h2 h0
          go_wp2
          refine bodyPost_ret (results_tmp3 rfl _ _ _) rfl ?_
          exact ⟨⟨_, by rw [HR.out]; rfl⟩, HB6.out⟩
        · have z1 : (t1 == 0) = false := by simpa using h0
          clear n2 h0
          by_cases h1 : t1 < 3
          · go_wp2
            refine bodyPost_ret (results_tmp3 rfl _ _ _) rfl ?_
            exact ⟨⟨_, by rw [HR.out]; rfl⟩, HB6.out⟩
          · by_cases h2 : (258 : Int) < t1
            · go_wp2
              refine bodyPost_ret (results_tmp3 rfl _ _ _) rfl ?_
              exact ⟨⟨_, by rw [HR.out]; rfl⟩, HB6.out⟩
            · by_cases h3 : t2 < 1
              · go_wp2
                refine bodyPost_ret (results_tmp3 rfl _ _ _) rfl ?_
                exact ⟨⟨_, by rw [HR.out]; rfl⟩, HB6.out⟩
              · by_cases h4 : (32768 : Int) < t2
                · go_wp2
                  refine bodyPost_ret (results_tmp3 rfl _ _ _) rfl ?_
                  exact ⟨⟨_, by rw [HR.out]; rfl⟩, HB6.out⟩
                · have h5 : ¬ t3 = 0 := fun e => n1 ⟨by omega, by omega, by omega, by omega, e⟩
                  have z3 : (t3 != 0) = true := by simpa using h5
                  clear n1 h5
                  go_wp2
                  refine bodyPost_ret (results_tmp3 rfl _ _ _) rfl ?_
                  exact ⟨⟨_, by rw [HR.out]; rfl⟩, HB6.out⟩
    · obtain rfl : k = R.length := by omega
      have hlt' : ¬ (R.length : Int) < (R.length : Int) := by omega
      have HN : Hid (asnd R = true) := by have := HA.out; rw [List.take_of_length_le (Nat.le_refl _)] at this; exact this
      rw [List.take_of_length_le (Nat.le_refl _)]
      go_wp2
      refine bodyPost_ret (results_tmp3 rfl _ _ _) rfl ?_
      exact ⟨⟨_, by rw [HN.out]; rfl⟩, HB.out⟩
end Go.Proofs.YtfdhffcdkmklbaaDoor

