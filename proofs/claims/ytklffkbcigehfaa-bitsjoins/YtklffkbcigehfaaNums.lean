import Derived.Test.YtklffkbcigehfaaOpenA
namespace Go.Proofs.Ytklffkbcigehfaa
open Go.ChangeShapes Go.WideShapes Go.ChangeAt Go.RowKit Go.Joins Go.Deep

/-- A slice of numbers. -/
def SN (k : IntKind) (w : World) (v : Value) (l : List Int) : Prop :=
  ∃ ao cap, v = .slice ao l.length cap ∧ l.length ≤ cap ∧ cap ≤ maxLen ∧ ∀ i, i < l.length → ∃ b o, ao = some ⟨b, o, none⟩ ∧ w.cell? ⟨b, o + i, none⟩ = some (.int k (l.getD i 0))

theorem open_u32s {H : Type} {enc : TypeId × Value → H} {W : World} {ao : Option Addr} {len cap : Nat} {d : DataW H} {ps : List MemPlace}
    (h : DataW.Trod enc Try.prog W 0 (fun _ => true) true 30 (.slice ao len cap) d ps) :
    ∃ l, SN .u32 W (.slice ao len cap) l ∧ (∀ i, 0 ≤ l.getD i 0 ∧ l.getD i 0 < 4294967296) ∧ (l = [] ∨ ∃ elems spare, d = .slice elems spare ∧ l.length ≤ elems.length + spare.length) := by
  obtain ⟨fuel, hf⟩ := h
  rcases open_ints Try.underlying30 Try.underlying22 (by kernel_rfl) hf with ⟨hcs, _⟩ | ⟨x, ll, c, zs, hcs, _, hl, hm, hz, hx, hcell, hwz⟩
  · simp [Value.cells] at hcs
    obtain ⟨rfl, rfl, rfl⟩ := hcs
    exact ⟨[], ⟨none, 0, rfl, Nat.le_refl _, Nat.zero_le _, fun i hi => absurd hi (Nat.not_lt_zero _)⟩, (fun i => by simp), .inl rfl⟩
  · simp [Value.cells] at hcs
    obtain ⟨rfl, rfl, rfl⟩ := hcs
    simp only [if_true] at hz
    have e : (zs.take len).length = len := by rw [List.length_take]; omega
    simp only [Prod.mk.injEq] at hx
    refine ⟨zs.take len, ⟨some x, cap, by rw [e], by omega, hm, fun i hi => ?_⟩, fun i => ?_, .inr ⟨_, _, hx.1, by simp [lits]⟩⟩
    · rw [e] at hi
      have h0 := hcell 0 (by omega)
      obtain ⟨b, o, rfl⟩ := addr_lit h0
      refine ⟨b, o, rfl, ?_⟩
      have := hcell i (by omega)
      rw [Addr.add_lit] at this
      rw [this]
      simp [List.getD, hi]
    · by_cases hi : i < len
      · have hi2 : i < zs.length := by omega
        have : (zs.take len).getD i 0 = zs[i] := by simp [List.getD, hi, hi2]
        rw [this]
        exact u32_in (hwz _ (List.getElem_mem hi2))
      · have : (zs.take len).getD i 0 = 0 := by
          have e2 : (zs.take len)[i]? = none := List.getElem?_eq_none (by omega)
          simp [List.getD, e2]
        rw [this]; decide

theorem bytesU32 : Try.prog.bytesOf 22 = 4 := by kernel_rfl

theorem reach_u32s {H : Type} {ts : List TypeId} {ds : List (DataW H)} {j : Nat} {l : List Int} {d : DataW H} (h : (DataW.weightsEach Try.prog ts ds).all (· ≤ reachBytes) = true) (ht : ts[j]? = some 30) (hd : ds[j]? = some d)
    (hl : l = [] ∨ ∃ elems spare, d = .slice elems spare ∧ l.length ≤ elems.length + spare.length) : l.length ≤ 140737488351232 := by
  rcases hl with rfl | ⟨elems, spare, rfl, hl⟩
  · simp
  · have := sized_slice h ht hd Try.underlying30
    rw [bytesU32] at this
    simp only [reachBytes] at this
    omega

theorem open_ints' {H : Type} {enc : TypeId × Value → H} {W : World} {ao : Option Addr} {len cap : Nat} {d : DataW H} {ps : List MemPlace}
    (h : DataW.Trod enc Try.prog W 0 (fun _ => true) true 41 (.slice ao len cap) d ps) : ∃ l, SN .i64 W (.slice ao len cap) l := by
  obtain ⟨fuel, hf⟩ := h
  rcases open_ints Try.underlying41 Try.underlying3 (by kernel_rfl) hf with ⟨hcs, _⟩ | ⟨x, ll, c, zs, hcs, _, hl, hm, hz, hx, hcell, hwz⟩
  · simp [Value.cells] at hcs
    obtain ⟨rfl, rfl, rfl⟩ := hcs
    exact ⟨[], ⟨none, 0, rfl, Nat.le_refl _, Nat.zero_le _, fun i hi => absurd hi (Nat.not_lt_zero _)⟩⟩
  · simp [Value.cells] at hcs
    obtain ⟨rfl, rfl, rfl⟩ := hcs
    simp only [if_true] at hz
    have e : (zs.take len).length = len := by rw [List.length_take]; omega
    refine ⟨zs.take len, ⟨some x, cap, by rw [e], by omega, hm, fun i hi => ?_⟩⟩
    rw [e] at hi
    have h0 := hcell 0 (by omega)
    obtain ⟨b, o, rfl⟩ := addr_lit h0
    refine ⟨b, o, rfl, ?_⟩
    have := hcell i (by omega)
    rw [Addr.add_lit] at this
    rw [this]
    simp [List.getD, hi]

theorem SN.num {k : IntKind} {W w : World} {ao : Option Addr} {cap : Nat} {l : List Int} (h : SN k W (.slice ao l.length cap) l) (hb : Below W.heap.size W w) {i : Nat} (hi : i < l.length) : ∃ b o, ao = some ⟨b, o, none⟩ ∧ w.cell? ⟨b, o + i, none⟩ = some (.int k (l.getD i 0)) := by
  obtain ⟨ao', cap', hue, hc1, hc2, hc3⟩ := h
  simp only [Value.slice.injEq] at hue
  obtain ⟨rfl, -, rfl⟩ := hue
  obtain ⟨b, o, rfl, hc⟩ := hc3 i hi
  exact ⟨b, o, rfl, (hb.cell (World.block_lt_of_cell? _ _ hc)).trans hc⟩

theorem SN.len {k : IntKind} {w : World} {v : Value} {l : List Int} (h : SN k w v l) : ∃ a c, v = .slice a l.length c ∧ l.length ≤ c ∧ c ≤ 9223372036854775807 := by
  obtain ⟨a, c, h, h1, h2, _⟩ := h
  unfold maxLen at h2
  exact ⟨a, c, h, h1, h2⟩

end Go.Proofs.Ytklffkbcigehfaa
