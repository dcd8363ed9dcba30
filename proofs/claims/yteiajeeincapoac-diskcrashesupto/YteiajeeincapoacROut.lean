import Derived.Test.YteiajeeincapoacROutP
import Derived.Deep.RegionHeld3
namespace Go.Proofs.Yteiajeeincapoac
open Go.RowKit Go.Maps
set_option linter.unusedSimpArgs false

theorem rkept_any {w : World} {vsec : Value} {sec : List Int} (size rest : Int) (s : Nat) (hs : SI w vsec sec) :
    Calls Try.prog 54 #[.agg #[.int .i64 size, vsec, .int .i64 rest], .int .i64 s] w fun e w' => e = .returned (.int .i64 (wantedN sec rest s)) ∧ Below w.heap.size w w' := by
  obtain ⟨asec, csec, hv, hsl, hsc, hsn, hscell⟩ := hs
  subst hv
  unfold maxLen at hsc
  have hb0 : Below w.heap.size w (w.alloc (.cells #[.int .i64 size, .slice asec sec.length csec, .int .i64 rest] 26)) := (Below.refl _ _).alloc (Nat.le_refl _) _
  have hbx0 : (w.alloc (.cells #[.int .i64 size, .slice asec sec.length csec, .int .i64 rest] 26)).heap[w.heap.size]? = some (.cells #[.int .i64 size, .slice asec sec.length csec, .int .i64 rest] 26 (0, 0)) := heap_alloc_new _ _
  have x1 : (w.alloc (.cells #[.int .i64 size, .slice asec sec.length csec, .int .i64 rest] 26)).cell? ⟨w.heap.size, 1, none⟩ = some (.slice asec sec.length csec) := by unfold World.cell?; simp only [hbx0]; rfl
  have x2 : (w.alloc (.cells #[.int .i64 size, .slice asec sec.length csec, .int .i64 rest] 26)).cell? ⟨w.heap.size, 2, none⟩ = some (.int .i64 rest) := by unfold World.cell?; simp only [hbx0]; rfl
  have HB0 := hide hb0
  clear hbx0 hb0
  by_cases hk : s < sec.length
  · have hk' : (s : Int) < (sec.length : Int) := by omega
    have HE : Hid (wantedN sec rest s = sec.getD s 0) := by show _ = _; unfold wantedN; rw [if_pos hk]
    cases asec with
    | none => have := hsn rfl; omega
    | some x =>
      obtain ⟨b, o, rfl⟩ := addr_lit (hscell x rfl 0 (by omega))
      obtain ⟨xv, hc, HXV⟩ : ∃ xv, (w.alloc (.cells #[.int .i64 size, .slice (some ⟨b, o, none⟩) sec.length csec, .int .i64 rest] 26)).cell? ⟨b, o + s, none⟩ = some (.int .i64 xv) ∧ Hid (xv = sec.getD s 0) := by
        refine ⟨_, ?_, rfl⟩
        have h := hscell _ rfl s hk
        rw [Addr.add_lit] at h
        rw [HB0.out.cell (World.block_lt_of_cell? _ _ h), h]
      clear hscell hsn
      go_enter Try.func54, Try.ntmps54
      go_wp2
      go_ret
      rw [HE.out, ← HXV.out]
      exact ⟨rfl, HB0.out⟩
  · have hk' : ¬ (s : Int) < (sec.length : Int) := by omega
    have HE : Hid (wantedN sec rest s = rest) := by show _ = _; unfold wantedN; rw [if_neg hk]
    clear hscell hsn
    go_enter Try.func54, Try.ntmps54
    go_wp2
    go_ret
    rw [HE.out]
    exact ⟨rfl, HB0.out⟩


theorem seenOf_snoc (ps : List (Nat × Nat × List Int)) (p : Nat × Nat × List Int) (s : Nat) : seenOf (ps ++ [p]) s = if p.1 = s then seenOf ps s + 1 else seenOf ps s := by
  unfold seenOf
  rw [List.filter_append, List.length_append]
  by_cases h : p.1 = s
  · rw [if_pos h]
    simp [h]
  · rw [if_neg h]
    simp [h]

theorem seen_step (ps : List (Nat × Nat × List Int)) (p : Nat × Nat × List Int) (n sn : Nat) (hs : sn = seenOf ps p.1) :
    ((List.range n).map (fun s => Value.int .i64 (seenOf ps s))).toArray.setIfInBounds p.1 (.int .i64 ((sn : Int) + 1)) = ((List.range n).map (fun s => Value.int .i64 (seenOf (ps ++ [p]) s))).toArray := by
  apply Array.ext'
  simp only [Array.toList_setIfInBounds]
  apply List.ext_getElem
  · simp
  · intro i h1 h2
    rw [List.getElem_set]
    simp only [List.getElem_map, List.getElem_range, seenOf_snoc]
    by_cases e : p.1 = i
    · rw [if_pos e, if_pos e, hs, e]
      simp
    · rw [if_neg e, if_neg e]

theorem set_block {w : World} {g k : Nat} {cur : Array Value} {t : TypeId} (u : Value) (h : w.heap[g]? = some (.cells cur t (0, 0))) : (w.setCell ⟨g, k, none⟩ u).heap[g]? = some (.cells (cur.setIfInBounds k u) t (0, 0)) := by
  simp [World.setCell, Array.getElem?_modify, h]

theorem splice_set (l d : List Int) (a j : Nat) (hj : j < d.length) (ha : a + j < l.length) :
    ((splice l a (d.take j)).map (Value.int .u8)).toArray.setIfInBounds (a + j) (.int .u8 (d.getD j 0)) = ((splice l a (d.take (j + 1))).map (Value.int .u8)).toArray := by
  apply Array.ext'
  simp only [Array.toList_setIfInBounds]
  apply List.ext_getElem
  · simp only [List.length_set, List.length_map]
    rw [length_splice _ _ _ (by simp; omega), length_splice _ _ _ (by simp; omega)]
  · intro i h1 h2
    simp only [List.length_set, List.length_map] at h1
    rw [length_splice _ _ _ (by simp; omega)] at h1
    have g1 := getD_splice l (d.take j) a i (by simp; omega) h1
    have g2 := getD_splice l (d.take (j + 1)) a i (by simp; omega) h1
    rw [List.getElem_set]
    simp only [List.getElem_map]
    have e1 : (splice l a (d.take j))[i]'(by rw [length_splice _ _ _ (by simp; omega)]; exact h1) = (splice l a (d.take j)).getD i 0 := by simp [List.getD, length_splice _ _ _ (show a + (d.take j).length ≤ l.length by simp; omega), h1]
    have e2 : (splice l a (d.take (j + 1)))[i]'(by rw [length_splice _ _ _ (by simp; omega)]; exact h1) = (splice l a (d.take (j + 1))).getD i 0 := by simp [List.getD, length_splice _ _ _ (show a + (d.take (j + 1)).length ≤ l.length by simp; omega), h1]
    rw [e1, e2, g1, g2]
    simp only [List.length_take]
    by_cases h3 : a + j = i
    · subst h3
      rw [if_pos rfl, if_pos (by omega), show a + j - a = j by omega]
      simp [List.getD, hj]
    · rw [if_neg h3]
      congr 1
      by_cases h4 : a ≤ i ∧ i < a + min j d.length
      · rw [if_pos h4, if_pos (by omega)]
        simp only [List.getD]
        rw [List.getElem?_take, List.getElem?_take, if_pos (by omega), if_pos (by omega)]
      · rw [if_neg h4, if_neg (by omega)]

theorem paint_end (l d : List Int) (a j : Nat) (hj1 : j ≤ d.length) (hj2 : j = 0 ∨ a + j ≤ l.length) (hend : ¬ (j < d.length ∧ a + j < l.length)) : paintL l (a, 0, d) = splice l a (d.take j) := by
  unfold paintL
  simp only [List.replicate_zero, List.nil_append]
  by_cases h : l.length ≤ a
  · rw [if_pos h, show j = 0 by omega]
    simp [splice]
  · rw [if_neg h]
    by_cases h1 : j < d.length
    · rw [show l.length - a = j by omega]
    · rw [List.take_of_length_le (show d.length ≤ l.length - a by omega), List.take_of_length_le (show d.length ≤ j by omega)]

def rbehind (st : RSt) (k : Int) : Nat := if 0 < keptN k st.sizes.length then st.sizes.getD (keptN k st.sizes.length - 1) 0 else st.dur.length
end Go.Proofs.Yteiajeeincapoac
