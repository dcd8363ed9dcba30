import Derived.Test.YtiabhmdefaabgaaDoorGQr2
namespace Go.Proofs.YtiabhmdefaabgaaDoor
open Go.RowKit Go.Maps
set_option maxRecDepth 20000

theorem pad_self {row : List Int} (h : row.length % 8 = 0) : pad row = row := by
  unfold pad
  rw [show (row.length + 7) / 8 * 8 - row.length = 0 by omega]
  simp

/-- The bytes that come off, one by one. -/
theorem rraw_get {row : List Int} (hb : Bit row) {p n : Nat} (hl : p + 8 * n ≤ row.length) :
    (pack ((row.drop p).take (8 * n))).length = n ∧ Byt (pack ((row.drop p).take (8 * n))) ∧ ∀ k, k < n → ahead row (p + 8 * k) 8 = (pack ((row.drop p).take (8 * n))).getD k 0 := by
  have hX : Bit ((row.drop p).take (8 * n)) := (hb.drop p).take _
  have hXl : ((row.drop p).take (8 * n)).length = 8 * n := by rw [List.length_take, List.length_drop]; omega
  obtain ⟨hu, hB⟩ := unpack_pack hX
  rw [pad_self (by omega)] at hu
  have hlen : (pack ((row.drop p).take (8 * n))).length = n := by rw [length_pack hX, hXl]; omega
  refine ⟨hlen, hB, fun k hk => ?_⟩
  obtain ⟨L, HL⟩ : ∃ L, L = pack ((row.drop p).take (8 * n)) := ⟨_, rfl⟩
  rw [← HL] at hu hB hlen ⊢
  have e1 : (row.drop (p + 8 * k)).take 8 = ((unpack L).drop (8 * k)).take 8 := by
    rw [hu, List.drop_take, List.drop_drop, List.take_take, Nat.min_eq_left (by omega)]
  unfold ahead
  rw [e1, ← unpack_drop, List.drop_eq_getElem_cons (by omega), unpack_cons, List.take_append_of_le_length (by rw [length_bts]; exact Nat.le_refl _), List.take_of_length_le (by rw [length_bts]; exact Nat.le_refl _)]
  have hk2 : k < L.length := by omega
  have hg : L.getD k 0 = L[k] := by simp [List.getD, hk2]
  have hb2 := hB k
  rw [hg] at hb2 ⊢
  exact val_bts_in hb2.1 (by omega)

theorem peek_in8 {row : List Int} {p : Nat} : peekV row p 8 = ahead row p 8 := by
  have hc : Cnt 8 := ⟨by omega, by omega⟩
  unfold peekV; rw [if_pos hc]; rfl

end Go.Proofs.YtiabhmdefaabgaaDoor

