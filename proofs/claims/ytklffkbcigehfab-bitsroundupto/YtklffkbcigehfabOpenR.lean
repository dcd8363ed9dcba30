import Derived.Test.YtklffkbcigehfabOpenN
import Derived.Test.YtklffkbcigehfabRnd
namespace Go.Proofs.Ytklffkbcigehfab
open Go.ChangeShapes Go.WideShapes Go.ChangeAt Go.RowKit Go.Joins Go.Deep
set_option maxRecDepth 20000

theorem cellsItem : Try.prog.cellsOf 97 = 4 := by kernel_rfl

def IDat {H : Type} (W : World) (o : It) (d : DataW H) : Prop := (0 ≤ o.v ∧ o.v < 4294967296) ∧ SB W o.d o.l ∧ Byt o.l ∧ o.l.length ≤ Rows.uptoBulk d

theorem open_item {H : Type} {enc : TypeId × Value → H} {W : World} {n : Nat} {cs : List Value} {y : DataW H × List MemPlace} (h : DataW.trod enc Try.prog W 0 (fun _ => true) true n 97 cs = some y) :
    ∃ o : It, cs = [.int .i64 o.kind, .int .u32 o.v, .int .i64 o.n, o.d] ∧ IDat W o y.1 := by
  obtain ⟨xs, m, _, rfl, hl, hxl, hf⟩ := DataW.trod_struct Try.underlying97 h
  rw [cellsItem] at hl
  obtain ⟨c0, c1, c2, c3, rfl⟩ := list4 hl
  obtain ⟨y0, y1, y2, y3, rfl⟩ := list4 hxl
  have h0 : DataW.trod enc Try.prog W 0 (fun _ => true) true m 3 (([c0, c1, c2, c3].drop 0).take (Try.prog.cellsOf 3)) = some y0 := hf 0 _ rfl
  have h1 : DataW.trod enc Try.prog W 0 (fun _ => true) true m 43 (([c0, c1, c2, c3].drop 1).take (Try.prog.cellsOf 43)) = some y1 := hf 1 _ rfl
  have h2 : DataW.trod enc Try.prog W 0 (fun _ => true) true m 3 (([c0, c1, c2, c3].drop 2).take (Try.prog.cellsOf 3)) = some y2 := hf 2 _ rfl
  have h3 : DataW.trod enc Try.prog W 0 (fun _ => true) true m 25 (([c0, c1, c2, c3].drop 3).take (Try.prog.cellsOf 25)) = some y3 := hf 3 _ rfl
  rw [show Try.prog.cellsOf 3 = 1 by kernel_rfl] at h0 h2
  rw [show Try.prog.cellsOf 43 = 1 by kernel_rfl] at h1
  rw [show Try.prog.cellsOf 25 = 1 by kernel_rfl] at h3
  simp only [List.drop, List.take] at h0 h1 h2 h3
  obtain ⟨k0, e0, _, _⟩ := DataW.trod_int Try.underlying3 h0
  obtain ⟨k1, e1, _, hw⟩ := DataW.trod_int Try.underlying43 h1
  obtain ⟨k2, e2, _, _⟩ := DataW.trod_int Try.underlying3 h2
  obtain ⟨l, hs, hb, hbl⟩ := open_bytes1 h3
  simp at e0 e1 e2
  subst e0 e1 e2
  refine ⟨⟨k0, k1, k2, c3, l⟩, rfl, u32_in hw, hs, hb, ?_⟩
  have := bulk_bytes hbl
  simp only [List.map, Rows.uptoBulk, Rows.uptoBulkAll]
  omega

theorem open_items {H : Type} {enc : TypeId × Value → H} {W : World} {ao : Option Addr} {len cap : Nat} {d : DataW H} {ps : List MemPlace}
    (h : DataW.Trod enc Try.prog W 0 (fun _ => true) true 59 (.slice ao len cap) d ps) :
    ∃ ops, ISc W (.slice ao len cap) ops ∧ (ops = [] ∨ ∃ elems spare, d = .slice elems spare ∧ elems.length = ops.length ∧ ∀ (i : Nat) (o : It), ops[i]? = some o → ∃ x, elems[i]? = some x ∧ IDat W o x) := by
  obtain ⟨fuel, hf⟩ := h
  rcases open_slice Try.underlying59 hf with ⟨hcs, _⟩ | ⟨a, ln, cp, m, n, D, Pl, hcs, _, hl, hm, hmm, hx, hel⟩
  · simp [Value.cells] at hcs
    obtain ⟨rfl, rfl, rfl⟩ := hcs
    exact ⟨[], ⟨none, 0, rfl, Nat.le_refl _, Nat.zero_le _, fun i o ho => by simp at ho⟩, .inl rfl⟩
  · simp [Value.cells] at hcs
    obtain ⟨rfl, rfl, rfl⟩ := hcs
    simp only [if_true] at hmm
    obtain ⟨ops, hlo, hops⟩ := exists_list (fun i (o : It) => (∃ b of, (some a : Option Addr) = some ⟨b, of, none⟩ ∧ W.cell? ⟨b, of + i * 4, none⟩ = some (.int .i64 o.kind) ∧ W.cell? ⟨b, of + i * 4 + 1, none⟩ = some (.int .u32 o.v) ∧ W.cell? ⟨b, of + i * 4 + 2, none⟩ = some (.int .i64 o.n) ∧ W.cell? ⟨b, of + i * 4 + 3, none⟩ = some o.d) ∧ IDat W o (D i)) len (fun i hi => by
      obtain ⟨cs', hc, ht⟩ := hel i (by omega)
      obtain ⟨o, rfl, hd⟩ := open_item ht
      rw [cellsItem] at hc
      obtain ⟨_, _, hcell⟩ := World.cells?_some hc
      have hab' : ∃ b' of', a = ⟨b', of', none⟩ := by
        obtain ⟨cs0, hc0, ht0⟩ := hel 0 (by omega)
        rw [cellsItem] at hc0
        obtain ⟨_, hl0, hcell0⟩ := World.cells?_some hc0
        have h0 := hcell0 0 (by omega)
        rw [List.getElem?_eq_getElem (show 0 < cs0.length by omega), show (a.add (0 * 4)).add 0 = a.add 0 by simp [Addr.add]] at h0
        exact addr_lit h0
      obtain ⟨b', of', rfl⟩ := hab'
      have hc' : ∀ j, j < 4 → W.cell? ⟨b', of' + i * 4 + j, none⟩ = [Value.int .i64 o.kind, .int .u32 o.v, .int .i64 o.n, o.d][j]? := fun j hj => by
        have := hcell j hj
        rw [Addr.add_lit, Addr.add_lit] at this
        exact this
      exact ⟨o, ⟨b', of', rfl, hc' 0 (by omega), hc' 1 (by omega), hc' 2 (by omega), hc' 3 (by omega)⟩, hd⟩)
    simp only [Prod.mk.injEq] at hx
    refine ⟨ops, ⟨some a, cap, by rw [hlo], by omega, hm, fun i o ho => (hops i o ho).1⟩, .inr ⟨_, _, hx.1, by simp [hlo], fun i o ho => ⟨D i, ?_, (hops i o ho).2⟩⟩⟩
    have : i < ops.length := (List.getElem?_eq_some_iff.1 ho).1
    simp [List.getElem?_range (show i < len by omega)]

theorem bulk_items {H : Type} {W : World} {ds : List (DataW H)} {d : DataW H} {ops : List It} (hk : Rows.uptoSmall H ds = true) (hd : d ∈ ds)
    (hl : ops = [] ∨ ∃ elems spare, d = .slice elems spare ∧ elems.length = ops.length ∧ ∀ (i : Nat) (o : It), ops[i]? = some o → ∃ x, elems[i]? = some x ∧ IDat W o x) : ops.length ≤ 1048576 ∧ IOk W ops := by
  rcases hl with rfl | ⟨elems, spare, rfl, hlen, hel⟩
  · exact ⟨Nat.zero_le _, fun o ho => by cases ho⟩
  · have h1 : Rows.uptoBulkAll ds ≤ 1048576 := of_decide_eq_true hk
    have h2 := bulk_mem hd
    have h3 := bulk_count elems
    simp only [Rows.uptoBulk] at h2
    refine ⟨by omega, fun o ho => ?_⟩
    obtain ⟨i, hi⟩ := List.mem_iff_getElem?.1 ho
    obtain ⟨x, he, hv, hs, hb, hx⟩ := hel i o hi
    have h4 := bulk_mem (List.mem_of_getElem? he)
    exact ⟨hv, hs, hb, by omega⟩
end Go.Proofs.Ytklffkbcigehfab
