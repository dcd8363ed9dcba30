import Derived.Test.YtjmjjjpanioifaaGSrw
import Derived.Test.YtjmjjjpanioifaaGOpenL
import Derived.Test.YtjmjjjpanioifaaGOpenC
import Derived.Test.YtjmjjjpanioifaaGOpenU
namespace Go.Proofs.Ytjmjjjpanioifaa
open Go.ChangeShapes Go.WideShapes Go.ChangeAt Go.RowKit Go.Joins Go.Deep
set_option maxRecDepth 20000
set_option linter.unusedVariables false
set_option linter.unusedSimpArgs false

theorem exists_list {α : Type} (P : Nat → α → Prop) : ∀ n, (∀ i, i < n → ∃ a, P i a) → ∃ l : List α, l.length = n ∧ ∀ i a, l[i]? = some a → P i a
  | 0, _ => ⟨[], rfl, fun i a h => by simp at h⟩
  | n + 1, h => by
    obtain ⟨l, hl, hp⟩ := exists_list P n fun i hi => h i (by omega)
    obtain ⟨a, ha⟩ := h n (by omega)
    refine ⟨l ++ [a], by simp [hl], fun i x hx => ?_⟩
    by_cases hi : i < l.length
    · rw [List.getElem?_append_left hi] at hx
      exact hp i x hx
    · rw [List.getElem?_append_right (by omega)] at hx
      have : i - l.length = 0 := by
        by_cases e : i - l.length = 0
        · exact e
        · rw [List.getElem?_eq_none (by simp; omega)] at hx; cases hx
      rw [this] at hx
      simp at hx
      rw [← hx, show i = n by omega]
      exact ha

theorem bulk_str {H : Type} (s : ByteArray) : s.size ≤ Rows.uptoBulk (DataW.lit (.string s.data.toList) : DataW H) := by
  rw [← str_size]
  simp [Rows.uptoBulk]

theorem bulk_locals {H : Type} {ds : List (DataW H)} {d : DataW H} {R : List Loc} (hk : Rows.uptoSmall H ds = true) (hd : d ∈ ds) (hl : R = [] ∨ ∃ elems spare, d = .slice elems spare ∧ elems.length = R.length ∧ ∀ l ∈ R, ∃ y ∈ elems, LocD l y) : R.length ≤ 1048576 ∧ ∀ l ∈ R, l.Ok := by
  rcases hl with rfl | ⟨e, s, rfl, h, hy⟩
  · exact ⟨Nat.zero_le _, fun l hl => by cases hl⟩
  · have h0 : Rows.uptoBulkAll ds ≤ 1048576 := of_decide_eq_true hk
    have h3 := bulk_mem hd
    have h1 := bulk_count e
    simp only [Rows.uptoBulk] at h3
    refine ⟨by omega, fun l hl => ?_⟩
    obtain ⟨y, hye, hD⟩ := hy l hl
    have h4 := bulk_mem hye
    obtain ⟨x0, x1, x2, x3, x4, x5, x6, x7, rfl⟩ := hD.d
    have s1 := bulk_str (H := H) l.name
    have s2 := bulk_str (H := H) l.extra
    simp only [Rows.uptoBulk, Rows.uptoBulkAll] at h4 s1 s2
    exact ⟨hD.need, hD.flags, hD.method, hD.clock, hD.date, hD.sum0, hD.sum1, hD.packed, hD.size, by omega, by omega⟩

/-- A list of Central that is handed in. -/
theorem open_centrals {H : Type} {enc : TypeId × Value → H} {W : World} {ao : Option Addr} {len cap : Nat} {d : DataW H} {ps : List MemPlace}
    (h : DataW.Trod enc Try.prog W 0 (fun _ => true) true 54 (.slice ao len cap) d ps) : ∃ R : List Cen, SR 16 W (.slice ao len cap) (R.map Cen.cs) ∧ (R = [] ∨ ∃ elems spare, d = .slice elems spare ∧ elems.length = R.length ∧ ∀ l ∈ R, ∃ y ∈ elems, CenD l y) := by
  obtain ⟨fuel, hf⟩ := h
  rcases open_slice Try.underlying54 hf with ⟨hcs, _⟩ | ⟨a, ln, cp, m, n, D, Pl, hcs, _, hl, hm, hmm, hx, hel⟩
  · simp [Value.cells] at hcs
    obtain ⟨rfl, rfl, rfl⟩ := hcs
    exact ⟨[], ⟨none, 0, rfl, Nat.le_refl _, Nat.zero_le _, fun h => absurd h (by simp)⟩, .inl rfl⟩
  · simp [Value.cells] at hcs
    obtain ⟨rfl, rfl, rfl⟩ := hcs
    simp only [if_true] at hmm
    unfold maxLen at hm
    by_cases h0 : len = 0
    · subst h0
      exact ⟨[], ⟨some a, cap, rfl, Nat.zero_le _, hm, fun h => absurd h (by simp)⟩, .inl rfl⟩
    have hab' : ∃ b' of', a = ⟨b', of', none⟩ ∧ b' < W.heap.size := by
      obtain ⟨cs0, hc0, ht0⟩ := hel 0 (by omega)
      rw [cellsCentral] at hc0
      obtain ⟨_, hl0, hcell0⟩ := World.cells?_some hc0
      have h0 := hcell0 0 (by omega)
      rw [List.getElem?_eq_getElem (show 0 < cs0.length by omega), show (a.add (0 * 16)).add 0 = a.add 0 by simp [Addr.add]] at h0
      obtain ⟨b', of', rfl⟩ := addr_lit h0
      refine ⟨b', of', rfl, ?_⟩
      have := World.block_lt_of_cell? _ _ h0
      rw [Addr.add_lit] at this
      exact this
    obtain ⟨b', of', rfl, hbl⟩ := hab'
    obtain ⟨R, hlo, hR⟩ := exists_list (fun i (l : Cen) => W.rangeAt b' (of' + i * 16) l.cs.toList ∧ CenD l (D i)) len (fun i hi => by
      obtain ⟨cs', hc, ht⟩ := hel i (by omega)
      obtain ⟨l, rfl, hd⟩ := open_centralC ht
      rw [cellsCentral] at hc
      obtain ⟨_, _, hcell⟩ := World.cells?_some hc
      refine ⟨l, fun j u hu => ?_, hd⟩
      have hj : j < 16 := by
        have := (List.getElem?_eq_some_iff.1 hu).1
        rw [Array.length_toList] at this
        exact this
      have := hcell j hj
      rw [Addr.add_lit, Addr.add_lit] at this
      rw [this]
      exact hu)
    simp only [Prod.mk.injEq] at hx
    refine ⟨R, ⟨some ⟨b', of', none⟩, cap, by rw [List.length_map, hlo], by rw [List.length_map]; omega, hm, fun _ => ⟨b', of', rfl, hbl, fun i hi => ?_⟩⟩, .inr ⟨_, _, hx.1, by simp [hlo], fun l hl => ?_⟩⟩
    · rw [List.length_map] at hi
      have := (hR i R[i] (by simp [hi])).1
      simpa [List.getD, hi] using this
    · obtain ⟨i, hi, rfl⟩ := List.getElem_of_mem hl
      exact ⟨D i, by simp; exact ⟨i, by omega, rfl⟩, (hR i _ (by simp [hi])).2⟩

theorem bulk_centrals {H : Type} {ds : List (DataW H)} {d : DataW H} {R : List Cen} (hk : Rows.uptoSmall H ds = true) (hd : d ∈ ds) (hl : R = [] ∨ ∃ elems spare, d = .slice elems spare ∧ elems.length = R.length ∧ ∀ l ∈ R, ∃ y ∈ elems, CenD l y) : R.length ≤ 1048576 ∧ ∀ l ∈ R, l.Ok := by
  rcases hl with rfl | ⟨e, s, rfl, h, hy⟩
  · exact ⟨Nat.zero_le _, fun l hl => by cases hl⟩
  · have h0 : Rows.uptoBulkAll ds ≤ 1048576 := of_decide_eq_true hk
    have h3 := bulk_mem hd
    have h1 := bulk_count e
    simp only [Rows.uptoBulk] at h3
    refine ⟨by omega, fun l hl => ?_⟩
    obtain ⟨y, hye, hD⟩ := hy l hl
    have h4 := bulk_mem hye
    obtain ⟨x0, x1, x2, x3, x4, x5, hl0, rfl⟩ := hD.d
    obtain ⟨y0, y1, y2, y3, y4, y5, y6, y7, rfl⟩ := hl0.d
    have s1 := bulk_str (H := H) l.loc.name
    have s2 := bulk_str (H := H) l.loc.extra
    have s3 := bulk_str (H := H) l.comment
    simp only [Rows.uptoBulk, Rows.uptoBulkAll] at h4 s1 s2 s3
    exact ⟨⟨hl0.need, hl0.flags, hl0.method, hl0.clock, hl0.date, hl0.sum0, hl0.sum1, hl0.packed, hl0.size, by omega, by omega⟩, hD.made, hD.disk, hD.internal, hD.external, hD.at', by omega⟩

end Go.Proofs.Ytjmjjjpanioifaa

