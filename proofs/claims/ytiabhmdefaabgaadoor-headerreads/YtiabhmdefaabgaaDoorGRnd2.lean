import Derived.Test.YtiabhmdefaabgaaDoorGRnd
namespace Go.Proofs.YtiabhmdefaabgaaDoor
open Go.RowKit Go.Maps
set_option maxRecDepth 20000

/-- Where the bits of the next item lie. -/
theorem drop_at {U a b c : List Int} (h : U = a ++ (b ++ c)) : U.drop a.length = b ++ c := by
  rw [h, List.drop_left' rfl]

theorem rraw_ok {U : List Int} {p n : Nat} (hp : p ≤ U.length) (h8 : p % 8 = 0) {l rest : List Int} (hl : l.length = n) (hB : Byt l) (hd : U.drop p = unpack l ++ rest) : rrawE U p n = 0 ∧ rrawL U p n = l ∧ rrawP U p n = p + 8 * n := by
  have hlen : U.length - p = 8 * n + rest.length := by
    have := congrArg List.length hd
    rwa [List.length_drop, List.length_append, length_unpack, hl] at this
  have he : rrawE U p n = 0 := by
    unfold rrawE
    rw [if_neg (by omega), if_neg (by omega)]
    rw [if_pos (by omega)]
  refine ⟨he, ?_, by unfold rrawP; rw [if_pos he]; rfl⟩
  unfold rrawL
  rw [if_pos he, hd, Int.toNat_natCast, List.take_append_of_le_length (by rw [length_unpack, hl]; exact Nat.le_refl _), List.take_of_length_le (by rw [length_unpack, hl]; exact Nat.le_refl _), pack_unpack hB]

theorem Herd.only {W w : World} {xs : List ((Nat → Nat) × Thing)} (h : Herd W w xs) (i : Nat) {d : (Nat → Nat) × Thing} (hi : xs[i]? = some d) : Herd W w [d] := by
  have e : ∀ (j : Nat) (d' : (Nat → Nat) × Thing), [d][j]? = some d' → j = 0 ∧ d' = d := fun j d' h => by
    cases j with
    | zero => simp at h; exact ⟨rfl, h.symm⟩
    | succ j => simp at h
  refine ⟨h.bel, fun j d' hd => ?_, fun j d' hd => ?_, fun j j' d' e' hd he hne => ?_⟩
  · obtain ⟨_, rfl⟩ := e j d' hd; exact h.rep i _ hi
  · obtain ⟨_, rfl⟩ := e j d' hd; exact h.up i _ hi
  · have := (e j d' hd).1; have := (e j' e' he).1; omega

/-- The row behind an item. -/
theorem row_at {ops : List It} {U rest : List Int} (hU : U = layRow ops ++ rest) {k : Nat} {o : It} (ho : ops[k]? = some o) : ∃ s, U = layStep (layRow (ops.take k)) o ++ s := by
  obtain ⟨s, hs⟩ := layRow_ext ops (k + 1)
  rw [layRow_snoc ho] at hs
  exact ⟨s ++ rest, by rw [hU, hs, List.append_assoc]⟩

end Go.Proofs.YtiabhmdefaabgaaDoor

