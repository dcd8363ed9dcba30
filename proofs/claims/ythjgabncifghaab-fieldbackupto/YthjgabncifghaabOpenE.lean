import Derived.Test.YthjgabncifghaabOpenD
import Derived.Test.YthjgabncifghaabBackW
namespace Go.Proofs.Ythjgabncifghaab
open Go.ChangeShapes Go.WideShapes Go.ChangeAt Go.RowKit Go.Joins Go.Deep

theorem list3 {α : Type} {l : List α} (h : l.length = 3) : ∃ a b c, l = [a, b, c] := by
  match l, h with
  | [a, b, c], _ => exact ⟨a, b, c, rfl⟩

theorem cellsItem : Try.prog.cellsOf 24 = 3 := by kernel_rfl

theorem open_item {H : Type} {enc : TypeId × Value → H} {W : World} {n : Nat} {cs : List Value} {y : DataW H × List MemPlace} (h : DataW.trod enc Try.prog W 0 (fun _ => true) true n 24 cs = some y) :
    ∃ o : It, cs = [.int .i64 o.w, .int .i64 o.n, .string o.s] ∧ (Lit.int .i64 o.n).wf = true ∧ ∃ x0 x1, y.1 = .agg [x0, x1, .lit (.string o.s.data.toList)] := by
  obtain ⟨xs, m, _, rfl, hl, hxl, hf⟩ := DataW.trod_struct Try.underlying24 h
  rw [cellsItem] at hl
  obtain ⟨c0, c1, c2, rfl⟩ := list3 hl
  obtain ⟨y0, y1, y2, rfl⟩ := list3 hxl
  have h0 : DataW.trod enc Try.prog W 0 (fun _ => true) true m 3 (([c0, c1, c2].drop 0).take (Try.prog.cellsOf 3)) = some y0 := hf 0 _ rfl
  have h1 : DataW.trod enc Try.prog W 0 (fun _ => true) true m 3 (([c0, c1, c2].drop 1).take (Try.prog.cellsOf 3)) = some y1 := hf 1 _ rfl
  have h2 : DataW.trod enc Try.prog W 0 (fun _ => true) true m 9 (([c0, c1, c2].drop 2).take (Try.prog.cellsOf 9)) = some y2 := hf 2 _ rfl
  rw [show Try.prog.cellsOf 3 = 1 by kernel_rfl] at h0 h1
  rw [show Try.prog.cellsOf 9 = 1 by kernel_rfl] at h2
  simp only [List.drop, List.take] at h0 h1 h2
  obtain ⟨k0, e0, _, _⟩ := DataW.trod_int Try.underlying3 h0
  obtain ⟨k1, e1, _, hw⟩ := DataW.trod_int Try.underlying3 h1
  obtain ⟨s, e3, hx, _⟩ := DataW.trod_string Try.underlying9 h2
  simp at e0 e1 e3
  subst e0 e1 e3
  refine ⟨⟨k0, k1, s⟩, rfl, hw, y0.1, y1.1, ?_⟩
  rw [hx]
  rfl

theorem open_items {H : Type} {enc : TypeId × Value → H} {W : World} {ao : Option Addr} {len cap : Nat} {d : DataW H} {ps : List MemPlace}
    (h : DataW.Trod enc Try.prog W 0 (fun _ => true) true 22 (.slice ao len cap) d ps) :
    ∃ ops, IS W (.slice ao len cap) ops ∧ (ops = [] ∨ ∃ elems spare, d = .slice elems spare ∧ elems.length = ops.length ∧ ∀ (i : Nat) (o : It), ops[i]? = some o → (Lit.int .i64 o.n).wf = true ∧ ∃ x0 x1, elems[i]? = some (.agg [x0, x1, .lit (.string o.s.data.toList)])) := by
  obtain ⟨fuel, hf⟩ := h
  rcases open_slice Try.underlying22 hf with ⟨hcs, _⟩ | ⟨a, ln, cp, m, n, D, Pl, hcs, _, hl, hm, hmm, hx, hel⟩
  · simp [Value.cells] at hcs
    obtain ⟨rfl, rfl, rfl⟩ := hcs
    exact ⟨[], ⟨none, 0, rfl, Nat.le_refl _, Nat.zero_le _, fun i o ho => by simp at ho⟩, .inl rfl⟩
  · simp [Value.cells] at hcs
    obtain ⟨rfl, rfl, rfl⟩ := hcs
    simp only [if_true] at hmm
    obtain ⟨ops, hlo, hops⟩ := exists_list (fun i (o : It) => (∃ b of, (some a : Option Addr) = some ⟨b, of, none⟩ ∧ W.cell? ⟨b, of + i * 3, none⟩ = some (.int .i64 o.w) ∧ W.cell? ⟨b, of + i * 3 + 1, none⟩ = some (.int .i64 o.n) ∧ W.cell? ⟨b, of + i * 3 + 2, none⟩ = some (.string o.s)) ∧ (Lit.int .i64 o.n).wf = true ∧ ∃ x0 x1, D i = .agg [x0, x1, .lit (.string o.s.data.toList)]) len (fun i hi => by
      obtain ⟨cs', hc, ht⟩ := hel i (by omega)
      obtain ⟨o, rfl, hw, hd⟩ := open_item ht
      rw [cellsItem] at hc
      obtain ⟨_, _, hcell⟩ := World.cells?_some hc
      have hab' : ∃ b' of', a = ⟨b', of', none⟩ := by
        obtain ⟨cs0, hc0, ht0⟩ := hel 0 (by omega)
        rw [cellsItem] at hc0
        obtain ⟨_, hl0, hcell0⟩ := World.cells?_some hc0
        have h0 := hcell0 0 (by omega)
        rw [List.getElem?_eq_getElem (show 0 < cs0.length by omega), show (a.add (0 * 3)).add 0 = a.add 0 by simp [Addr.add]] at h0
        exact addr_lit h0
      obtain ⟨b', of', rfl⟩ := hab'
      have hc' : ∀ j, j < 3 → W.cell? ⟨b', of' + i * 3 + j, none⟩ = [Value.int .i64 o.w, .int .i64 o.n, .string o.s][j]? := fun j hj => by
        have := hcell j hj
        rw [Addr.add_lit, Addr.add_lit] at this
        exact this
      exact ⟨o, ⟨b', of', rfl, hc' 0 (by omega), hc' 1 (by omega), hc' 2 (by omega)⟩, hw, hd⟩)
    simp only [Prod.mk.injEq] at hx
    refine ⟨ops, ⟨some a, cap, by rw [hlo], by omega, hm, fun i o ho => (hops i o ho).1⟩, .inr ⟨_, _, hx.1, by simp [hlo], fun i o ho => ⟨(hops i o ho).2.1, ?_⟩⟩⟩
    obtain ⟨x0, x1, hd⟩ := (hops i o ho).2.2
    refine ⟨x0, x1, ?_⟩
    have : i < ops.length := (List.getElem?_eq_some_iff.1 ho).1
    rw [← hd]
    simp [List.getElem?_range (show i < len by omega)]

theorem bulk_items {H : Type} {ds : List (DataW H)} {d : DataW H} {ops : List It} (hk : Rows.uptoSmall H ds = true) (hd : d ∈ ds)
    (hl : ops = [] ∨ ∃ elems spare, d = .slice elems spare ∧ elems.length = ops.length ∧ ∀ (i : Nat) (o : It), ops[i]? = some o → (Lit.int .i64 o.n).wf = true ∧ ∃ x0 x1, elems[i]? = some (.agg [x0, x1, .lit (.string o.s.data.toList)])) : ops.length ≤ 1048576 ∧ IOk ops := by
  rcases hl with rfl | ⟨elems, spare, rfl, hlen, hel⟩
  · exact ⟨Nat.zero_le _, fun o ho => by cases ho⟩
  · have h1 : Rows.uptoBulkAll ds ≤ 1048576 := of_decide_eq_true hk
    have h2 := bulk_mem hd
    have h3 := bulk_count elems
    simp only [Rows.uptoBulk] at h2
    refine ⟨by omega, fun o ho => ?_⟩
    obtain ⟨i, hi⟩ := List.mem_iff_getElem?.1 ho
    obtain ⟨hw, x0, x1, he⟩ := hel i o hi
    have h4 := bulk_mem (List.mem_of_getElem? he)
    simp only [Rows.uptoBulk, Rows.uptoBulkAll] at h4
    have h5 := i64_in hw
    have h6 : o.s.data.toList.length = o.s.size := by rw [Array.length_toList]; rfl
    exact ⟨h5.1, h5.2, by omega⟩
end Go.Proofs.Ythjgabncifghaab
