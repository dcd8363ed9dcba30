import Derived.Test.YtippppcdongahaaDoorG21Ibl
import Derived.Test.YtippppcdongahaaDoorG22Icb
namespace Go.Proofs.YtippppcdongahaaDoor
open Go.RowKit Go.Maps Go.Shelf
set_option maxRecDepth 20000
set_option linter.unusedVariables false
set_option linter.unusedSimpArgs false

theorem slice_none (wx : World) : (Instr.slice 22 (.slice none 0 0) (some (.int .i64 ((0 : Nat) : Int))) (some (.int .i64 ((0 : Nat) : Int))) none).run Tryd.prog wx = .ok (.slice none 0 0) wx := by
  go_simp

theorem slice_some (b N M cc : Nat) (h1 : N ≤ M) (h2 : M ≤ cc) (h3 : cc ≤ 9223372036854775807) (wx : World) :
    (Instr.slice 22 (.slice (some ⟨b, 0, none⟩) M cc) (some (.int .i64 (N : Int))) (some (.int .i64 (M : Int))) none).run Tryd.prog wx = .ok (.slice (some ⟨b, if cc = N then 0 else N, none⟩) (M - N) (cc - N)) wx := by
  have x1 : ¬ ((cc : Int) < (M : Int)) := by omega
  have x2 : ¬ ((M : Int) < (N : Int)) := by omega
  have x3 : (M : Int) ≤ (cc : Int) := by omega
  have x4 : (N : Int) ≤ (M : Int) := by omega
  by_cases h : cc = N
  · rw [if_pos h]
    go_simp
    intro hlt
    omega
  · rw [if_neg h]
    go_simp

theorem seg_copy {w2 : World} {ao : Option Addr} {cc : Nat} {out o o0 : List Int} {x : Pc} (hob : OB w2 0 (.slice ao o.length cc) o) (hs : ∃ s t, o = out ++ s ∧ o0 = o ++ t) (h0 : x.to0 = out.length) (h1 : x.to1 = o.length) (hL : o.length ≤ 16777216) :
    ∃ sp sc, (∀ wx : World, (Instr.slice 22 (.slice ao o.length cc) (some (.int .i64 (out.length : Int))) (some (.int .i64 (o.length : Int))) none).run Tryd.prog wx = .ok (.slice sp (o.length - out.length) sc) wx) ∧
      Calls Tryd.prog 22 #[.slice sp (o.length - out.length) sc] w2.drew fun e w' => ∃ u, e = .returned u ∧ OB w' w2.heap.size u (sg o0 x) ∧ Below w2.heap.size w2 w' := by
  obtain ⟨s, t, rfl, rfl⟩ := hs
  have hse : sg (out ++ s ++ t) x = s := sg_at h0 h1
  rw [hse]
  have hln : (out ++ s).length - out.length = s.length := by simp
  have key : ∀ sp sc, SB w2 (.slice sp s.length sc) s → Calls Tryd.prog 22 #[.slice sp s.length sc] w2.drew fun e w' => ∃ u, e = .returned u ∧ OB w' w2.heap.size u s ∧ Below w2.heap.size w2 w' := fun sp sc hsb => by
    refine (bclone_any _ s w2.drew (hsb.heap rfl) (by rw [List.length_append] at hL; omega)).mono ?_
    rintro e w' ⟨u, rfl, ho, hb⟩
    exact ⟨u, rfl, ho, (Below.refl _ _).drew.trans hb⟩
  rw [hln]
  rcases hob.2 with ⟨e, h2⟩ | ⟨g, cap, cur, e, h2, h3, h4, h5, h6, h7⟩
  · simp only [Value.slice.injEq] at e
    obtain ⟨rfl, e1, rfl⟩ := e
    have hz : (out ++ s).length = 0 := e1
    rw [List.length_append] at hz
    obtain rfl : out = [] := List.length_eq_zero_iff.1 (by omega)
    obtain rfl : s = [] := List.length_eq_zero_iff.1 (by omega)
    exact ⟨none, 0, slice_none, key none 0 (World.ownsRow_nil w2 0 5 1 |> fun (q : OB w2 0 (.slice none 0 0) []) => q.sb)⟩
  · simp only [Value.slice.injEq, Option.some.injEq] at e
    obtain ⟨rfl, -, rfl⟩ := e
    have hcap : (out ++ s).length ≤ cc ∧ cc ≤ 9223372036854775807 := by
      obtain ⟨ao', cap', he, a1, a2, -⟩ := hob.sb
      simp only [Value.slice.injEq] at he
      obtain ⟨-, -, rfl⟩ := he
      unfold maxLen at a2
      exact ⟨a1, by omega⟩
    refine ⟨some ⟨g, if cc = out.length then 0 else out.length, none⟩, cc - out.length, fun wx => ?_, ?_⟩
    · have := slice_some g out.length (out ++ s).length cc (by simp) hcap.1 hcap.2 wx
      rw [hln] at this
      exact this
    · by_cases hz : cc = out.length
      · have h8 := hcap.1
        rw [List.length_append] at h8
        obtain rfl : s = [] := List.length_eq_zero_iff.1 (by omega)
        exact key _ _ ⟨_, _, rfl, Nat.zero_le _, by unfold maxLen; omega, (fun q => by cases q), fun x _ i hi => by simp at hi⟩
      · rw [if_neg hz]
        have h9 := hob.sb.part8 (at' := out.length) (n := s.length) (by rw [List.length_append]; exact Nat.le_refl _)
        rw [Nat.zero_add, List.drop_left, List.take_length] at h9
        exact key _ _ h9
end Go.Proofs.YtippppcdongahaaDoor

