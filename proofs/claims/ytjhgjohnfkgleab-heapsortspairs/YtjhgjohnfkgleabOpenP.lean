import Derived.Test.YtjhgjohnfkgleabOpenN
import Derived.Test.YtjhgjohnfkgleabPrs
namespace Go.Proofs.Ytjhgjohnfkgleab
open Go.ChangeShapes Go.WideShapes Go.ChangeAt Go.RowKit Go.Joins Go.Deep
set_option maxRecDepth 20000

theorem bytesInt : Try.prog.bytesOf 3 = 8 := by kernel_rfl

theorem bytesPair : Try.prog.bytesOf 52 = 24 := by kernel_rfl

theorem cellsPair : Try.prog.cellsOf 52 = 2 := by kernel_rfl

theorem reach_ints4 {H : Type} {ts : List TypeId} {ds : List (DataW H)} {j : Nat} {l : List Int} {d : DataW H} (h : (DataW.weightsEach Try.prog ts ds).all (· ≤ reachBytes) = true) (ht : ts[j]? = some 22) (hd : ds[j]? = some d)
    (hl : l = [] ∨ ∃ elems spare, d = .slice elems spare ∧ l.length ≤ elems.length + spare.length) : l.length ≤ 17592186044416 := by
  rcases hl with rfl | ⟨elems, spare, rfl, hl⟩
  · simp
  · have := sized_slice h ht hd Try.underlying22
    rw [bytesInt] at this
    simp only [reachBytes] at this
    omega

theorem list2 {α : Type} {l : List α} (h : l.length = 2) : ∃ a b, l = [a, b] := by
  match l, h with
  | [a, b], _ => exact ⟨a, b, rfl⟩

theorem open_pair {H : Type} {enc : TypeId × Value → H} {W : World} {n : Nat} {cs : List Value} {y : DataW H × List MemPlace} (h : DataW.trod enc Try.prog W 0 (fun _ => true) true n 52 cs = some y) :
    ∃ o : Pr, cs = cellsP o := by
  obtain ⟨xs, m, _, rfl, hl, hxl, hf⟩ := DataW.trod_struct Try.underlying52 h
  rw [cellsPair] at hl
  obtain ⟨c0, c1, rfl⟩ := list2 hl
  obtain ⟨y0, y1, rfl⟩ := list2 hxl
  have h0 : DataW.trod enc Try.prog W 0 (fun _ => true) true m 9 (([c0, c1].drop 0).take (Try.prog.cellsOf 9)) = some y0 := hf 0 _ rfl
  have h1 : DataW.trod enc Try.prog W 0 (fun _ => true) true m 3 (([c0, c1].drop 1).take (Try.prog.cellsOf 3)) = some y1 := hf 1 _ rfl
  rw [show Try.prog.cellsOf 9 = 1 by kernel_rfl] at h0
  rw [show Try.prog.cellsOf 3 = 1 by kernel_rfl] at h1
  simp only [List.drop, List.take] at h0 h1
  obtain ⟨k0, e0, _, _⟩ := DataW.trod_string Try.underlying9 h0
  obtain ⟨k1, e1, _, _⟩ := DataW.trod_int Try.underlying3 h1
  simp at e0 e1
  subst e0 e1
  exact ⟨⟨k0, k1⟩, rfl⟩

theorem open_pairs {H : Type} {enc : TypeId × Value → H} {W : World} {ao : Option Addr} {len cap : Nat} {d : DataW H} {ps : List MemPlace}
    (h : DataW.Trod enc Try.prog W 0 (fun _ => true) true 48 (.slice ao len cap) d ps) :
    ∃ ops, SP W (.slice ao len cap) ops ∧ (ops = [] ∨ ∃ elems spare, d = .slice elems spare ∧ elems.length = ops.length) := by
  obtain ⟨fuel, hf⟩ := h
  rcases open_slice Try.underlying48 hf with ⟨hcs, _⟩ | ⟨a, ln, cp, m, n, D, Pl, hcs, _, hl, hm, hmm, hx, hel⟩
  · simp [Value.cells] at hcs
    obtain ⟨rfl, rfl, rfl⟩ := hcs
    exact ⟨[], ⟨none, 0, rfl, Nat.le_refl _, Nat.zero_le _, fun _ => rfl, fun x hx => by cases hx⟩, .inl rfl⟩
  · simp [Value.cells] at hcs
    obtain ⟨rfl, rfl, rfl⟩ := hcs
    simp only [if_true] at hmm
    obtain ⟨ops, hlo, hops⟩ := exists_list (fun i (o : Pr) => ∀ j, j < 2 → W.cell? (a.add (i * 2 + j)) = (cellsP o)[j]?) len (fun i hi => by
      obtain ⟨cs', hc, ht⟩ := hel i (by omega)
      obtain ⟨o, rfl⟩ := open_pair ht
      rw [cellsPair] at hc
      obtain ⟨_, _, hcell⟩ := World.cells?_some hc
      have hab' : ∃ b' of', a = ⟨b', of', none⟩ := by
        obtain ⟨cs0, hc0, ht0⟩ := hel 0 (by omega)
        rw [cellsPair] at hc0
        obtain ⟨_, hl0, hcell0⟩ := World.cells?_some hc0
        have h0 := hcell0 0 (by omega)
        rw [List.getElem?_eq_getElem (show 0 < cs0.length by omega), show (a.add (0 * 2)).add 0 = a.add 0 by simp [Addr.add]] at h0
        exact addr_lit h0
      obtain ⟨b', of', rfl⟩ := hab'
      refine ⟨o, fun j hj => ?_⟩
      have := hcell j hj
      rw [Addr.add_lit, Addr.add_lit] at this
      rw [Addr.add_lit, ← Nat.add_assoc]
      exact this)
    simp only [Prod.mk.injEq] at hx
    refine ⟨ops, ⟨some a, cap, by rw [hlo], by omega, hm, (fun h => by cases h), fun x hx2 j u hj => ?_⟩, .inr ⟨_, _, hx.1, by simp [hlo]⟩⟩
    cases hx2
    have hjl := (List.getElem?_eq_some_iff.1 hj).1
    rw [flatP_length] at hjl
    have hi : j / 2 < ops.length := by omega
    have e := flatP_get (pp_get hi) (j % 2) (by omega)
    rw [show j / 2 * 2 + j % 2 = j by omega, hj] at e
    have := hops (j / 2) _ (pp_get hi) (j % 2) (by omega)
    rw [show j / 2 * 2 + j % 2 = j by omega] at this
    rw [this, ← e]

theorem reach_pairs {H : Type} {ts : List TypeId} {ds : List (DataW H)} {j : Nat} {ops : List Pr} {d : DataW H} (h : (DataW.weightsEach Try.prog ts ds).all (· ≤ reachBytes) = true) (ht : ts[j]? = some 48) (hd : ds[j]? = some d)
    (hl : ops = [] ∨ ∃ elems spare, d = .slice elems spare ∧ elems.length = ops.length) : ops.length ≤ 5864062014805 := by
  rcases hl with rfl | ⟨elems, spare, rfl, hl⟩
  · simp
  · have := sized_slice h ht hd Try.underlying48
    rw [bytesPair] at this
    simp only [reachBytes] at this
    omega

end Go.Proofs.Ytjhgjohnfkgleab
