import Derived.Test.YteiajeeincapoacOpenS
import Derived.Test.YteiajeeincapoacOpenC
namespace Go.Proofs.Yteiajeeincapoac
open Go.ChangeShapes Go.WideShapes Go.ChangeAt Go.RowKit Go.Joins Go.Deep

theorem op_wf {H : Type} {enc : TypeId × Value → H} {W : World} {n : Nat} {cs : List Value} {y : DataW H × List MemPlace} (h : DataW.trod enc Try.prog W 0 (fun _ => true) true n 33 cs = some y) : ∀ a, cs[1]? = some (.int .i64 a) → (Lit.int .i64 a).wf = true := by
  intro a ha
  obtain ⟨xs, m, _, rfl, hl, hxl, hf⟩ := DataW.trod_struct Try.underlying33 h
  rw [cellsOp] at hl
  obtain ⟨c0, c1, c2, c3, c4, c5, c6, rfl⟩ := list7 hl
  obtain ⟨y0, y1, y2, y3, y4, rfl⟩ := list5 hxl
  have h1 : DataW.trod enc Try.prog W 0 (fun _ => true) true m 3 (([c0, c1, c2, c3, c4, c5, c6].drop 1).take (Try.prog.cellsOf 3)) = some y1 := hf 1 _ rfl
  rw [show Try.prog.cellsOf 3 = 1 by kernel_rfl] at h1
  simp only [List.drop, List.take] at h1
  obtain ⟨k1, e1, _, hw⟩ := DataW.trod_int Try.underlying3 h1
  simp at e1 ha
  rw [e1] at ha
  simp only [Value.int.injEq, true_and] at ha
  rw [← ha]
  exact hw

theorem wf_le {a : Int} (h : (Lit.int .i64 a).wf = true) : a ≤ 9223372036854775807 := by
  have := bounds_i64 h
  omega

theorem ops_wf {H : Type} {enc : TypeId × Value → H} {W : World} {ao : Option Addr} {len cap : Nat} {d : DataW H} {ps : List MemPlace} {ops : List OpP}
    (h : DataW.Trod enc Try.prog W 0 (fun _ => true) true 23 (.slice ao len cap) d ps) (ho : SO W (.slice ao len cap) ops) : ∀ o ∈ ops, (Lit.int .i64 o.a).wf = true := by
  obtain ⟨fuel, hf⟩ := h
  obtain ⟨ao', cap', he, _, _, hops⟩ := ho
  simp only [Value.slice.injEq] at he
  obtain ⟨rfl, hlen, rfl⟩ := he
  intro o hmem
  obtain ⟨i, hi, rfl⟩ := List.getElem_of_mem hmem
  obtain ⟨b, of, av, cv, asec, csec, rfl, hat⟩ := hops i _ (List.getElem?_eq_getElem hi)
  rcases open_slice Try.underlying23 hf with ⟨hcs, _⟩ | ⟨a, ln, cp, m, n, D, Pl, hcs, _, hl, hm, hmm, hx, hel⟩
  · simp [Value.cells] at hcs
  · simp [Value.cells] at hcs
    obtain ⟨rfl, rfl, rfl⟩ := hcs
    simp only [if_true] at hmm
    obtain ⟨cs', hc, ht⟩ := hel i (by omega)
    rw [cellsOp] at hc
    obtain ⟨_, hcl, hcell⟩ := World.cells?_some hc
    refine op_wf ht _ ?_
    have h1 := hcell 1 (by omega)
    rw [Addr.add_lit, Addr.add_lit] at h1
    rw [← h1]
    exact hat.c1
end Go.Proofs.Yteiajeeincapoac
