import Derived.Test.YtjjepgkcgbbmhaaGExn
import Derived.Test.YtjjepgkcgbbmhaaGOpenL
namespace Go.Proofs.Ytjjepgkcgbbmhaa
open Go.ChangeShapes Go.WideShapes Go.ChangeAt Go.RowKit Go.Joins Go.Deep
set_option maxRecDepth 20000
set_option linter.unusedVariables false
set_option linter.unusedSimpArgs false

theorem exists_list {α : Type} (P : Nat → α → Prop) : ∀ n, (∀ i, i < n → ∃ a, P i a) → ∃ l : List α, l.length = n ∧ ∀ i a, l[i]? = some a → P i a
  | 0, _ => ⟨[], rfl, fun i a h => by simp at h⟩
  | n + 1, h => by
    obtain ⟨l, hl, hp⟩ := exists_list P n fun i hi => h i (by omega)
    obtain ⟨a, ha⟩ := h n (by omega)
    refine ⟨l ++ [a], by simp [hl], fun i x hx => ?_⟩
    by_cases hi : i < l.length
    · rw [List.getElem?_append_left hi] at hx
      exact hp i x hx
    · rw [List.getElem?_append_right (by omega)] at hx
      have : i - l.length = 0 := by
        by_cases e : i - l.length = 0
        · exact e
        · rw [List.getElem?_eq_none (by simp; omega)] at hx; cases hx
      rw [this] at hx
      simp at hx
      rw [← hx, show i = n by omega]
      exact ha

theorem cellsExtra : Try.prog.cellsOf 36 = 2 := by kernel_rfl
theorem bytesExtra : Try.prog.bytesOf 36 = 24 := by kernel_rfl

theorem list2x {α : Type} {l : List α} (h : l.length = 2) : ∃ a b, l = [a, b] := by
  match l, h with
  | [a, b], _ => exact ⟨a, b, rfl⟩

theorem open_extC {H : Type} {enc : TypeId × Value → H} {W : World} {n : Nat} {cs : List Value} {y : DataW H × List MemPlace} (h : DataW.trod enc Try.prog W 0 (fun _ => true) true n 36 cs = some y) :
    ∃ l : Xf, cs = (csX l).toList ∧ Ok64 l.1 ∧ l.2.size ≤ 9223372036854775807 := by
  obtain ⟨xs, m, _, rfl, hl, hxl, hf⟩ := DataW.trod_struct Try.underlying36 h
  rw [cellsExtra] at hl
  obtain ⟨c0, c1, rfl⟩ := list2x hl
  obtain ⟨y0, y1, rfl⟩ := list2x hxl
  have h0 : DataW.trod enc Try.prog W 0 (fun _ => true) true m 3 (([c0, c1].drop 0).take (Try.prog.cellsOf 3)) = some y0 := hf 0 _ rfl
  have h1 : DataW.trod enc Try.prog W 0 (fun _ => true) true m 9 (([c0, c1].drop 1).take (Try.prog.cellsOf 9)) = some y1 := hf 1 _ rfl
  rw [show Try.prog.cellsOf 3 = 1 by kernel_rfl] at h0
  rw [show Try.prog.cellsOf 9 = 1 by kernel_rfl] at h1
  simp only [List.drop, List.take] at h0 h1
  obtain ⟨k0, e0, _, q0⟩ := DataW.trod_int Try.underlying3 h0
  obtain ⟨k1, e1, q1, m1⟩ := DataW.trod_string Try.underlying9 h1
  simp at e0 e1
  subst e0 e1
  unfold maxLen at m1
  exact ⟨(k0, k1), rfl, i64_in q0, m1⟩

/-- A list of fields that is handed in. -/
theorem open_extras {H : Type} {enc : TypeId × Value → H} {W : World} {ao : Option Addr} {len cap : Nat} {d : DataW H} {ps : List MemPlace}
    (h : DataW.Trod enc Try.prog W 0 (fun _ => true) true 34 (.slice ao len cap) d ps) : ∃ R : List Xf, SR 2 W (.slice ao len cap) (R.map csX) ∧ ((∀ l ∈ R, Ok64 l.1 ∧ l.2.size ≤ 9223372036854775807) ∧ (R = [] ∨ ∃ elems spare, d = .slice elems spare ∧ elems.length = R.length)) := by
  obtain ⟨fuel, hf⟩ := h
  rcases open_slice Try.underlying34 hf with ⟨hcs, _⟩ | ⟨a, ln, cp, m, n, D, Pl, hcs, _, hl, hm, hmm, hx, hel⟩
  · simp [Value.cells] at hcs
    obtain ⟨rfl, rfl, rfl⟩ := hcs
    exact ⟨[], ⟨none, 0, rfl, Nat.le_refl _, Nat.zero_le _, fun h => absurd h (by simp)⟩, (fun (l : Xf) (hl : l ∈ ([] : List Xf)) => absurd hl (by simp)), Or.inl rfl⟩
  · simp [Value.cells] at hcs
    obtain ⟨rfl, rfl, rfl⟩ := hcs
    simp only [if_true] at hmm
    unfold maxLen at hm
    by_cases h0 : len = 0
    · subst h0
      exact ⟨[], ⟨some a, cap, rfl, Nat.zero_le _, hm, fun h => absurd h (by simp)⟩, (fun (l : Xf) (hl : l ∈ ([] : List Xf)) => absurd hl (by simp)), Or.inl rfl⟩
    have hab' : ∃ b' of', a = ⟨b', of', none⟩ ∧ b' < W.heap.size := by
      obtain ⟨cs0, hc0, ht0⟩ := hel 0 (by omega)
      rw [cellsExtra] at hc0
      obtain ⟨_, hl0, hcell0⟩ := World.cells?_some hc0
      have h0 := hcell0 0 (by omega)
      rw [List.getElem?_eq_getElem (show 0 < cs0.length by omega), show (a.add (0 * 2)).add 0 = a.add 0 by simp [Addr.add]] at h0
      obtain ⟨b', of', rfl⟩ := addr_lit h0
      refine ⟨b', of', rfl, ?_⟩
      have := World.block_lt_of_cell? _ _ h0
      rw [Addr.add_lit] at this
      exact this
    obtain ⟨b', of', rfl, hbl⟩ := hab'
    obtain ⟨R, hlo, hR⟩ := exists_list (fun i (l : Xf) => W.rangeAt b' (of' + i * 2) (csX l).toList ∧ Ok64 l.1 ∧ l.2.size ≤ 9223372036854775807) len (fun i hi => by
      obtain ⟨cs', hc, ht⟩ := hel i (by omega)
      obtain ⟨l, rfl, hd⟩ := open_extC ht
      rw [cellsExtra] at hc
      obtain ⟨_, _, hcell⟩ := World.cells?_some hc
      refine ⟨l, fun j u hu => ?_, hd⟩
      have hj : j < 2 := (List.getElem?_eq_some_iff.1 hu).1
      have := hcell j hj
      rw [Addr.add_lit, Addr.add_lit] at this
      rw [this]
      exact hu)
    simp only [Prod.mk.injEq] at hx
    refine ⟨R, ⟨some ⟨b', of', none⟩, cap, by rw [List.length_map, hlo], by rw [List.length_map]; omega, hm, fun _ => ⟨b', of', rfl, hbl, fun i hi => ?_⟩⟩, fun l hl => ?_, .inr ⟨_, _, hx.1, by simp [hlo]⟩⟩
    · rw [List.length_map] at hi
      have := (hR i R[i] (by simp [hi])).1
      simpa [List.getD, hi] using this
    · obtain ⟨i, hi, rfl⟩ := List.getElem_of_mem hl
      exact (hR i _ (by simp [hi])).2

theorem reach_extras {H : Type} {ts : List TypeId} {ds : List (DataW H)} {j : Nat} {R : List Xf} {d : DataW H} (h : (DataW.weightsEach Try.prog ts ds).all (· ≤ reachBytes) = true) (ht : ts[j]? = some 34) (hd : ds[j]? = some d)
    (hl : (∀ l ∈ R, Ok64 l.1 ∧ l.2.size ≤ 9223372036854775807) ∧ (R = [] ∨ ∃ elems spare, d = .slice elems spare ∧ elems.length = R.length)) : R.length ≤ 5864062014700 := by
  rcases hl.2 with rfl | ⟨elems, spare, rfl, hl⟩
  · simp
  · have := sized_slice h ht hd Try.underlying34
    rw [bytesExtra] at this
    simp only [reachBytes] at this
    omega

theorem open_str12 {H : Type} {enc : TypeId × Value → H} {W : World} {r : Reach} {b0 : Nat} {v : Value} {d : DataW H} {ps : List MemPlace}
    (hv : Value.okWide Try.prog W r b0 9 v) (h : DataW.Trod enc Try.prog W 0 (fun _ => true) true 9 v d ps) : ∃ s, v = .string s ∧ d = .lit (.string s.data.toList) := by
  obtain ⟨s, rfl⟩ := okWide_string Try.underlying9 hv
  obtain ⟨fuel, hf⟩ := h
  obtain ⟨s', hs, hx, _⟩ := DataW.trod_string Try.underlying9 hf
  simp [Value.cells] at hs
  subst hs
  simp only [Prod.mk.injEq] at hx
  exact ⟨s, rfl, hx.1⟩

theorem reach_str12 {H : Type} {ts : List TypeId} {ds : List (DataW H)} {j : Nat} {s : ByteArray} {d : DataW H} (h : (DataW.weightsEach Try.prog ts ds).all (· ≤ reachBytes) = true) (ht : ts[j]? = some 9) (hd : ds[j]? = some d) (hl : d = .lit (.string s.data.toList)) : s.size ≤ 140737488351232 := by
  subst hl
  have m1 := List.all_eq_true.1 h _ (DataW.weights_mem_each ht hd _ (weigh_str s _))
  have m1' : s.size ≤ reachBytes := of_decide_eq_true m1
  unfold reachBytes at m1'
  omega
end Go.Proofs.Ytjjepgkcgbbmhaa

