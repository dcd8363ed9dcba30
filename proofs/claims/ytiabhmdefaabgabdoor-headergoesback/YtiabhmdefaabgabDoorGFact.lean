import Derived.Test.YtiabhmdefaabgabDoorG3r
namespace Go.Proofs.YtiabhmdefaabgabDoor
open Go.RowKit Go.Maps
set_option maxRecDepth 20000

theorem putOk_of {row : List Int} {v : Int} {n : Nat} (h1 : v < 2 ^ n) (h2 : n ≤ 32) (h3 : row.length + n ≤ 268435456) : putOk row v n := ⟨⟨⟨by omega, by omega⟩, by simpa using h1⟩, by omega⟩

theorem putE_ok {row : List Int} {v : Int} {n : Nat} (h : putOk row v n) : putE row v n = 0 ∧ putRow row v n = row ++ bts v n := ⟨if_pos h, by unfold putRow; rw [if_pos h]; rfl⟩

theorem takeOk_of {row : List Int} {p n : Nat} (h1 : n ≤ 32) (h2 : p + n ≤ row.length) : takeOk row p n := ⟨⟨by omega, by omega⟩, by omega⟩

theorem take_ok {row : List Int} {p n : Nat} (h : takeOk row p n) : takeE row p n = 0 ∧ takeV row p n = ahead row p n ∧ takeP row p n = p + n :=
  ⟨by unfold takeE; rw [if_pos h.1, if_pos h.2], by unfold takeV; rw [if_pos h]; rfl, by unfold takeP; rw [if_pos h]; rfl⟩

theorem skip_ok {row : List Int} {p n : Nat} (h : p + n ≤ row.length) : skipE row p n = 0 ∧ skipP row p n = p + n :=
  ⟨by unfold skipE; rw [if_neg (by omega), if_pos (by omega)], by unfold skipP; rw [if_neg (by omega), if_pos (by omega)]; rfl⟩

theorem ahead_at {row : List Int} {p n : Nat} {x y : List Int} (h : row.drop p = x ++ y) (hx : x.length = n) : ahead row p n = val x := by
  unfold ahead
  rw [h, List.take_append_of_le_length (by omega), List.take_of_length_le (by omega)]

/-- A number within n bits. -/
theorem low_in (v : Int) {n : Nat} (hn : n ≤ 32) : 0 ≤ v % 2 ^ n ∧ v % 2 ^ n < 2 ^ n ∧ v % 2 ^ n < 4294967296 := by
  have hp32 : (2 : Int) ^ n ≤ 2 ^ 32 := pow_le hn
  have hpn := pow_pos n
  have h1 : 0 ≤ v % 2 ^ n := Int.emod_nonneg _ (by omega)
  have h2 : v % 2 ^ n < 2 ^ n := Int.emod_lt_of_pos _ hpn
  exact ⟨h1, h2, by omega⟩

theorem bts_get (v : Int) {n j : Nat} (h : j < n) : (bts v n)[j]? = some (v / 2 ^ j % 2) := by
  have hs := bts_split v j (n - j)
  rw [show j + (n - j) = n by omega] at hs
  rw [hs, List.getElem?_append_right (by rw [length_bts]; omega), length_bts, Nat.sub_self]
  obtain ⟨m, hm⟩ : ∃ m, n - j = m + 1 := ⟨n - j - 1, by omega⟩
  rw [hm]
  rfl

theorem unpack_get {l : List Int} {k j : Nat} {b : Int} (hk : l[k]? = some b) (hj : j < 8) : (unpack l)[8 * k + j]? = some (b / 2 ^ j % 2) := by
  obtain ⟨hkl, rfl⟩ := List.getElem?_eq_some_iff.1 hk
  have e : unpack l = unpack (l.take k) ++ (bts l[k] 8 ++ unpack (l.drop (k + 1))) := by
    conv => lhs; rw [← List.take_append_drop k l]
    rw [unpack_append, List.drop_eq_getElem_cons hkl, unpack_cons]
  have hl : (unpack (l.take k)).length = 8 * k := by rw [length_unpack, List.length_take]; omega
  rw [e, List.getElem?_append_right (by omega), hl, show 8 * k + j - 8 * k = j by omega, List.getElem?_append_left (by rw [length_bts]; exact hj)]
  exact bts_get _ hj

theorem ahead_one {U : List Int} {p : Nat} {x : Int} (h : U[p]? = some x) : ahead U p 1 = x := by
  obtain ⟨hp, rfl⟩ := List.getElem?_eq_some_iff.1 h
  rw [ahead_at (n := 1) (x := [U[p]]) (y := U.drop (p + 1)) (by rw [List.drop_eq_getElem_cons hp]; rfl) rfl]
  simp [val]

theorem take_one {U : List Int} {p : Nat} {x : Int} (h : U[p]? = some x) : U.take (p + 1) = U.take p ++ [x] := by
  obtain ⟨hp, rfl⟩ := List.getElem?_eq_some_iff.1 h
  exact List.take_succ_eq_append_getElem hp

/-- A byte of a list that was there. -/
theorem SB.byte {W w : World} {ao : Option Addr} {cap : Nat} {l : List Int} (h : SB W (.slice ao l.length cap) l) (hb : Below W.heap.size W w) {k : Nat} (hk : k < l.length) : ∃ b o, ao = some ⟨b, o, none⟩ ∧ w.cell? ⟨b, o + k, none⟩ = some (.int .u8 (l.getD k 0)) := by
  obtain ⟨ao', cap', hue, hc1, hc2, hc3, hc4⟩ := h
  simp only [Value.slice.injEq] at hue
  obtain ⟨rfl, -, rfl⟩ := hue
  cases ao with
  | none => have := hc3 rfl; omega
  | some x0 =>
    obtain ⟨b, o, rfl⟩ := addr_lit (hc4 x0 rfl 0 (by omega))
    have hc := hc4 _ rfl k hk
    have hbl := World.block_lt_of_cell? _ _ hc
    rw [Addr.add_lit] at hc hbl
    exact ⟨b, o, rfl, (hb.cell hbl).trans hc⟩

theorem SB.cap {W : World} {ao : Option Addr} {cap : Nat} {l : List Int} (h : SB W (.slice ao l.length cap) l) : l.length ≤ cap ∧ cap ≤ 9223372036854775807 := by
  obtain ⟨ao', cap', hue, hc1, hc2, _⟩ := h
  simp only [Value.slice.injEq] at hue
  obtain ⟨-, -, rfl⟩ := hue
  unfold maxLen at hc2
  exact ⟨hc1, hc2⟩

end Go.Proofs.YtiabhmdefaabgabDoor

