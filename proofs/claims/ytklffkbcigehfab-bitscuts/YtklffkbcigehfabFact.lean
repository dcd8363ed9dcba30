import Derived.Test.YtklffkbcigehfabHerd
namespace Go.Proofs.Ytklffkbcigehfab
open Go.RowKit Go.Maps
set_option maxRecDepth 20000

theorem putOk_of {row : List Int} {v : Int} {n : Nat} (h1 : v < 2 ^ n) (h2 : n ≤ 32) (h3 : row.length + n ≤ 268435456) : putOk row v n := ⟨⟨⟨by omega, by omega⟩, by simpa using h1⟩, by omega⟩

theorem putE_ok {row : List Int} {v : Int} {n : Nat} (h : putOk row v n) : putE row v n = 0 ∧ putRow row v n = row ++ bts v n := ⟨if_pos h, by unfold putRow; rw [if_pos h]; rfl⟩

theorem takeOk_of {row : List Int} {p n : Nat} (h1 : n ≤ 32) (h2 : p + n ≤ row.length) : takeOk row p n := ⟨⟨by omega, by omega⟩, by omega⟩

theorem take_ok {row : List Int} {p n : Nat} (h : takeOk row p n) : takeE row p n = 0 ∧ takeV row p n = ahead row p n ∧ takeP row p n = p + n :=
  ⟨by unfold takeE; rw [if_pos h.1, if_pos h.2], by unfold takeV; rw [if_pos h]; rfl, by unfold takeP; rw [if_pos h]; rfl⟩

theorem skip_ok {row : List Int} {p n : Nat} (h : p + n ≤ row.length) : skipE row p n = 0 ∧ skipP row p n = p + n :=
  ⟨by unfold skipE; rw [if_neg (by omega), if_pos (by omega)], by unfold skipP; rw [if_neg (by omega), if_pos (by omega)]; rfl⟩

theorem ahead_at {row : List Int} {p n : Nat} {x y : List Int} (h : row.drop p = x ++ y) (hx : x.length = n) : ahead row p n = val x := by
  unfold ahead
  rw [h, List.take_append_of_le_length (by omega), List.take_of_length_le (by omega)]

/-- A number within n bits. -/
theorem low_in (v : Int) {n : Nat} (hn : n ≤ 32) : 0 ≤ v % 2 ^ n ∧ v % 2 ^ n < 2 ^ n ∧ v % 2 ^ n < 4294967296 := by
  have hp32 : (2 : Int) ^ n ≤ 2 ^ 32 := pow_le hn
  have hpn := pow_pos n
  have h1 : 0 ≤ v % 2 ^ n := Int.emod_nonneg _ (by omega)
  have h2 : v % 2 ^ n < 2 ^ n := Int.emod_lt_of_pos _ hpn
  exact ⟨h1, h2, by omega⟩

end Go.Proofs.Ytklffkbcigehfab
