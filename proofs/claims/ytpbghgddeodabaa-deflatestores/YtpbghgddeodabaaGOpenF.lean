import Derived.Test.YtpbghgddeodabaaGSlw
import Derived.Lib.SmallJoins
import Derived.Deep.Slices
import Derived.SizedLaws
namespace Go.Proofs.Ytpbghgddeodabaa
open Go.ChangeShapes Go.WideShapes Go.ChangeAt Go.RowKit Go.Joins Go.Deep
set_option maxRecDepth 20000
set_option linter.unusedVariables false
set_option linter.unusedSimpArgs false

theorem own : ownKnob Try.prog.godebug = none := by kernel_rfl
theorem laidOut : laidOutB Try.prog = true := by kernel_rfl
def Ok64 (n : Int) : Prop := -9223372036854775808 ≤ n ∧ n ≤ 9223372036854775807
theorem i64_in {n : Int} (h : (Lit.int .i64 n).wf = true) : Ok64 n := by
  simp [Lit.wf, IntKind.min, IntKind.max, IntKind.signed, IntKind.bits] at h
  unfold Ok64
  omega

def Lens (l : List Int) {H : Type} (d : DataW H) : Prop := l = [] ∨ ∃ elems spare, d = .slice elems spare ∧ l.length ≤ elems.length + spare.length

theorem byte_wf {n : Int} (h : (Lit.int .u8 n).wf = true) : 0 ≤ n ∧ n < 256 := by
  simp [Lit.wf, IntKind.min, IntKind.max, IntKind.signed, IntKind.bits] at h
  omega
theorem open_bytes_cell {H : Type} {enc : TypeId × Value → H} {W : World} {n : Nat} {v : Value} {y : DataW H × List MemPlace} (h : DataW.trod enc Try.prog W 0 (fun _ => true) true n 22 [v] = some y) :
    ∃ a c l, v = .slice a l.length c ∧ SB W (.slice a l.length c) l ∧ Byt l ∧ Lens l y.1 := by
  rcases open_ints Try.underlying22 Try.underlying5 (by kernel_rfl) h with ⟨hcs, hx⟩ | ⟨x, ll, c, zs, hcs, _, hl, hm, hz, hx, hcell, hwz⟩
  · simp at hcs
    subst hcs
    exact ⟨none, 0, [], rfl, ⟨none, 0, rfl, Nat.le_refl _, Nat.zero_le _, fun _ => rfl, fun x hx => by cases hx⟩, (fun i => by simp), .inl rfl⟩
  · simp at hcs
    subst hcs
    simp only [if_true] at hz
    have e : (zs.take ll).length = ll := by rw [List.length_take]; omega
    subst hx
    refine ⟨some x, c, zs.take ll, by rw [e], ⟨some x, c, rfl, by omega, hm, (fun h => by cases h), fun y hy i hi => ?_⟩, fun i => ?_, .inr ⟨_, _, rfl, ?_⟩⟩
    · cases hy
      rw [e] at hi
      rw [hcell i (by omega)]
      simp [List.getD, hi]
    · by_cases hi : i < (zs.take ll).length
      · rw [List.getD, List.getElem?_eq_getElem hi]
        exact byte_wf (hwz _ (List.mem_of_mem_take (List.getElem_mem hi)))
      · have : (zs.take ll).getD i 0 = 0 := by simp only [List.getD, List.getElem?_eq_none (Nat.le_of_not_lt hi)]; rfl
        rw [this]; decide
    · simp [lits]

theorem bytesBy : Try.prog.bytesOf 5 = 1 := by kernel_rfl
theorem reach_bytes {H : Type} {ts : List TypeId} {ds : List (DataW H)} {j : Nat} {l : List Int} {d : DataW H} (h : (DataW.weightsEach Try.prog ts ds).all (· ≤ reachBytes) = true) (ht : ts[j]? = some 22) (hd : ds[j]? = some d) (hl : Lens l d) : l.length ≤ 140737488351232 := by
  rcases hl with rfl | ⟨es, sp, rfl, hL⟩
  · exact Nat.zero_le _
  · have h1 := sized_slice h ht hd Try.underlying22
    rw [bytesBy] at h1
    simp only [reachBytes] at h1
    omega

theorem open_bytes {H : Type} {enc : TypeId × Value → H} {W : World} {ao : Option Addr} {len cap : Nat} {d : DataW H} {ps : List MemPlace}
    (h : DataW.Trod enc Try.prog W 0 (fun _ => true) true 22 (.slice ao len cap) d ps) : ∃ l, SB W (.slice ao len cap) l ∧ Byt l ∧ Lens l d := by
  obtain ⟨fuel, hf⟩ := h
  obtain ⟨a, c, l, hv, hs, hb, hl⟩ := open_bytes_cell hf
  rw [hv]
  exact ⟨l, hs, hb, hl⟩
end Go.Proofs.Ytpbghgddeodabaa

