import Derived.Test.YtmbgjkghcpkoiaaGRe
namespace Go.Proofs.Ytmbgjkghcpkoiaa
open Go.RowKit Go.Maps
set_option maxRecDepth 20000
set_option linter.unusedVariables false

theorem SB.open11 {w : World} {v : Value} {l : List Int} (h : SB w v l) : ∃ ao cap, v = .slice ao l.length cap ∧ l.length ≤ cap ∧ cap ≤ 9223372036854775807 ∧ (0 < l.length → ∃ b o, ao = some ⟨b, o, none⟩) := by
  obtain ⟨ao, cap, rfl, h1, h2, h3, h4⟩ := h
  unfold maxLen at h2
  refine ⟨ao, cap, rfl, h1, by omega, fun hp => ?_⟩
  cases ao with
  | none => have := h3 rfl; omega
  | some x =>
    obtain ⟨b, o, rfl⟩ := addr_lit (h4 x rfl 0 hp)
    exact ⟨b, o, rfl⟩

theorem SB.first11 {w : World} {b o c : Nat} {l : List Int} (h : SB w (.slice (some ⟨b, o, none⟩) l.length c) l) {n : Nat} (hn : n ≤ l.length) : SB w (.slice (some ⟨b, o, none⟩) n c) (l.take n) := by
  obtain ⟨ao, cap, he, h1, h2, h3, h4⟩ := h
  simp only [Value.slice.injEq] at he
  obtain ⟨rfl, -, rfl⟩ := he
  refine ⟨_, c, by simp [Nat.min_eq_left hn], by simp; omega, h2, h3, fun x hx i hi => ?_⟩
  have hi' : i < n := by simp at hi; omega
  rw [h4 x hx i (by omega)]
  simp [List.getD_eq_getElem?_getD, hi']

theorem SB.rest11 {w : World} {b o c : Nat} {l : List Int} (h : SB w (.slice (some ⟨b, o, none⟩) l.length c) l) {n : Nat} (hn : n ≤ l.length) : SB w (.slice (some ⟨b, o + n, none⟩) (l.length - n) (c - n)) (l.drop n) := by
  obtain ⟨ao, cap, he, h1, h2, h3, h4⟩ := h
  simp only [Value.slice.injEq] at he
  obtain ⟨rfl, -, rfl⟩ := he
  refine ⟨some ⟨b, o + n, none⟩, c - n, by rw [List.length_drop], by rw [List.length_drop]; omega, by omega, (fun hx => by cases hx), fun x hx i hi => ?_⟩
  cases hx
  have hi' : n + i < l.length := by simp at hi; omega
  have := h4 ⟨b, o, none⟩ rfl (n + i) hi'
  rw [Addr.add_lit] at this
  rw [Addr.add_lit, Nat.add_assoc, this]
  simp [List.getD_eq_getElem?_getD, List.getElem?_drop]

theorem SB.cap {W : World} {ao : Option Addr} {cap : Nat} {l : List Int} (h : SB W (.slice ao l.length cap) l) : l.length ≤ cap ∧ cap ≤ 9223372036854775807 := by
  obtain ⟨ao', cap', hue, hc1, hc2, _⟩ := h
  simp only [Value.slice.injEq] at hue
  obtain ⟨-, -, rfl⟩ := hue
  unfold maxLen at hc2
  exact ⟨hc1, hc2⟩

theorem SB.len {w : World} {u : Value} {l : List Int} (h : SB w u l) : ∃ a c, u = .slice a l.length c := by
  obtain ⟨a, c, h, _⟩ := h
  exact ⟨a, c, h⟩

theorem built_sb (w : World) (cs : List Int) (hm : cs.length ≤ maxLen) : SB (w.alloc (.cells (cs.map (Value.int .u8)).toArray 5)) (.slice (some ⟨w.heap.size, 0, none⟩) cs.length cs.length) cs := by
  refine ⟨_, _, rfl, Nat.le_refl _, hm, (fun h => by cases h), fun x hx i hi => ?_⟩
  cases hx
  rw [Addr.add_lit]
  have e := heap_alloc_new w (.cells (cs.map (Value.int .u8)).toArray 5)
  unfold World.cell?
  simp only [e]
  simp [hi]

theorem OB.get {w : World} {base : Nat} {v : Value} {l : List Int} (h : OB w base v l) {b : Nat} (hv : v.ownBlock = Option.some b) {i : Nat} (hi : i < l.length) : w.cell? ⟨b, i, none⟩ = Option.some (.int .u8 (l.getD i 0)) := by
  have hc := @World.ownsRow.cells _ _ _ _ _ _ _ h
  rcases h.2 with ⟨rfl, _⟩ | ⟨g, cap, cur, rfl, _⟩
  · simp [Value.ownBlock] at hv
  · simp [Value.ownBlock] at hv
    subst hv
    have := hc (g := g) rfl i (.int .u8 (l.getD i 0)) (by simp [hi])
    rw [Addr.add_lit] at this
    simpa using this

theorem SB.byte {W w : World} {ao : Option Addr} {cap : Nat} {l : List Int} (h : SB W (.slice ao l.length cap) l) (hb : Below W.heap.size W w) {k : Nat} (hk : k < l.length) : ∃ b o, ao = some ⟨b, o, none⟩ ∧ w.cell? ⟨b, o + k, none⟩ = some (.int .u8 (l.getD k 0)) := by
  obtain ⟨ao', cap', hue, hc1, hc2, hc3, hc4⟩ := h
  simp only [Value.slice.injEq] at hue
  obtain ⟨rfl, -, rfl⟩ := hue
  cases ao with
  | none => have := hc3 rfl; omega
  | some x0 =>
    obtain ⟨b, o, rfl⟩ := addr_lit (hc4 x0 rfl 0 (by omega))
    have hc := hc4 _ rfl k hk
    have hbl := World.block_lt_of_cell? _ _ hc
    rw [Addr.add_lit] at hc hbl
    exact ⟨b, o, rfl, (hb.cell hbl).trans hc⟩

end Go.Proofs.Ytmbgjkghcpkoiaa

