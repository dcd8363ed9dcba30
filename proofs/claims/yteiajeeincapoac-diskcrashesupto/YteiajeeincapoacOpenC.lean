import Derived.Test.YteiajeeincapoacOpen
import Derived.Test.YteiajeeincapoacOutcome
import Derived.Lib.SmallJoins
namespace Go.Proofs.Yteiajeeincapoac
open Go.ChangeShapes Go.WideShapes Go.ChangeAt Go.RowKit Go.Joins

theorem cellsChoice : Try.prog.cellsOf 26 = 3 := by kernel_rfl
theorem bytesInt : Try.prog.bytesOf 3 = 8 := by kernel_rfl

theorem open_choice {H : Type} {enc : TypeId × Value → H} {W : World} {r : Reach} {b0 : Nat} {v : Value} {d : DataW H} {ps : List MemPlace} (hv : Value.okWide Try.prog W r b0 26 v)
    (h : DataW.Trod enc Try.prog W 0 (fun _ => true) true 26 v d ps) :
    ∃ a vsec b sec, v = .agg #[.int .i64 a, vsec, .int .i64 b] ∧ SI W vsec sec ∧ ∃ x y z, d = .agg [x, y, z] ∧ (sec = [] ∨ ∃ elems spare, y = .slice elems spare ∧ sec.length ≤ elems.length + spare.length) := by
  obtain ⟨c0, c1, c2, y0, y1, y2, m, rfl, hd, rfl, h0, h1, h2⟩ := open_agg3 Try.underlying26 (by kernel_rfl) cellsChoice hv h
  obtain ⟨a, e0, rfl, _⟩ := DataW.trod_int Try.underlying3 h0
  obtain ⟨b, e2, rfl, _⟩ := DataW.trod_int Try.underlying3 h2
  simp at e0 e2
  subst e0 e2
  rcases open_ints Try.underlying24 Try.underlying3 (by kernel_rfl) h1 with ⟨hcs, hx⟩ | ⟨x, ll, c, zs, hcs, _, hl, hm, hz, hx, hcell, hwz⟩
  · simp at hcs
    subst hcs
    exact ⟨a, _, b, [], rfl, ⟨none, 0, rfl, Nat.le_refl _, Nat.zero_le _, fun _ => rfl, fun x hx => by cases hx⟩, _, _, _, hd, .inl rfl⟩
  · simp at hcs
    subst hcs
    simp only [if_true] at hz
    have e : (zs.take ll).length = ll := by rw [List.length_take]; omega
    subst hx
    refine ⟨a, _, b, zs.take ll, rfl, ⟨some x, c, by rw [e], by omega, hm, (fun h => by cases h), fun y hy i hi => ?_⟩, _, _, _, hd, .inr ⟨_, _, rfl, ?_⟩⟩
    · cases hy
      rw [e] at hi
      rw [hcell i (by omega)]
      simp [List.getD, hi]
    · simp [lits]

theorem reach_choice {H : Type} {ts : List TypeId} {ds : List (DataW H)} {j : Nat} {sec : List Int} {d : DataW H} (h : (DataW.weightsEach Try.prog ts ds).all (· ≤ reachBytes) = true) (ht : ts[j]? = some 26) (hd : ds[j]? = some d)
    (hl : ∃ x y z, d = .agg [x, y, z] ∧ (sec = [] ∨ ∃ elems spare, y = .slice elems spare ∧ sec.length ≤ elems.length + spare.length)) : sec.length ≤ 17592186043904 := by
  obtain ⟨x, y, z, rfl, rfl | ⟨elems, spare, rfl, hl⟩⟩ := hl
  · simp
  · have := List.all_eq_true.1 h _ (DataW.weights_mem_each ht hd ((elems.length + spare.length) * Try.prog.bytesOf 3) (by simp [DataW.weights, DataW.weightsEach, Try.underlying26, Try.underlying24]))
    rw [bytesInt] at this
    have h2 := of_decide_eq_true this
    simp only [reachBytes] at h2
    omega
end Go.Proofs.Yteiajeeincapoac
