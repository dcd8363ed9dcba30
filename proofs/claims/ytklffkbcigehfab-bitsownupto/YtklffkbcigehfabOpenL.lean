import Derived.Test.YtklffkbcigehfabOpenN
import Derived.Test.YtklffkbcigehfabOwn4
namespace Go.Proofs.Ytklffkbcigehfab
open Go.ChangeShapes Go.WideShapes Go.ChangeAt Go.RowKit Go.Joins Go.Deep
set_option maxRecDepth 20000

theorem cellsBytes : Try.prog.cellsOf 25 = 1 := by kernel_rfl

def LDat {H : Type} (W : World) (p : Value × List Int) (d : DataW H) : Prop := SB W p.1 p.2 ∧ Byt p.2 ∧ p.2.length ≤ Rows.uptoBulk d

theorem open_lists {H : Type} {enc : TypeId × Value → H} {W : World} {ao : Option Addr} {len cap : Nat} {d : DataW H} {qs : List MemPlace}
    (h : DataW.Trod enc Try.prog W 0 (fun _ => true) true 22 (.slice ao len cap) d qs) :
    ∃ ps, LSc W (.slice ao len cap) ps ∧ (ps = [] ∨ ∃ elems spare, d = .slice elems spare ∧ elems.length = ps.length ∧ ∀ (i : Nat) (p : Value × List Int), ps[i]? = some p → ∃ x, elems[i]? = some x ∧ LDat W p x) := by
  obtain ⟨fuel, hf⟩ := h
  rcases open_slice Try.underlying22 hf with ⟨hcs, _⟩ | ⟨a, ln, cp, m, n, D, Pl, hcs, _, hl, hm, hmm, hx, hel⟩
  · simp [Value.cells] at hcs
    obtain ⟨rfl, rfl, rfl⟩ := hcs
    exact ⟨[], ⟨none, 0, rfl, Nat.le_refl _, Nat.zero_le _, fun i o ho => by simp at ho⟩, .inl rfl⟩
  · simp [Value.cells] at hcs
    obtain ⟨rfl, rfl, rfl⟩ := hcs
    simp only [if_true] at hmm
    obtain ⟨ps, hlo, hps⟩ := exists_list (fun i (p : Value × List Int) => (∃ b of, (some a : Option Addr) = some ⟨b, of, none⟩ ∧ W.cell? ⟨b, of + i, none⟩ = some p.1) ∧ LDat W p (D i)) len (fun i hi => by
      obtain ⟨cs', hc, ht⟩ := hel i (by omega)
      rw [cellsBytes] at hc
      obtain ⟨_, hcl, hcell⟩ := World.cells?_some hc
      obtain ⟨c, rfl⟩ : ∃ c, cs' = [c] := by
        match cs', hcl with
        | [c], _ => exact ⟨c, rfl⟩
      obtain ⟨l, hs, hb, hbl⟩ := open_bytes1 ht
      have hab' : ∃ b' of', a = ⟨b', of', none⟩ := by
        obtain ⟨cs0, hc0, ht0⟩ := hel 0 (by omega)
        rw [cellsBytes] at hc0
        obtain ⟨_, hl0, hcell0⟩ := World.cells?_some hc0
        have h0 := hcell0 0 (by omega)
        rw [List.getElem?_eq_getElem (show 0 < cs0.length by omega), show (a.add (0 * 1)).add 0 = a.add 0 by simp [Addr.add]] at h0
        exact addr_lit h0
      obtain ⟨b', of', rfl⟩ := hab'
      have h0 := hcell 0 (by omega)
      rw [Addr.add_lit, Addr.add_lit, Nat.mul_one, Nat.add_zero] at h0
      exact ⟨(c, l), ⟨b', of', rfl, h0⟩, hs, hb, bulk_bytes hbl⟩)
    simp only [Prod.mk.injEq] at hx
    refine ⟨ps, ⟨some a, cap, by rw [hlo], by omega, hm, fun i o ho => (hps i o ho).1⟩, .inr ⟨_, _, hx.1, by simp [hlo], fun i o ho => ⟨D i, ?_, (hps i o ho).2⟩⟩⟩
    have : i < ps.length := (List.getElem?_eq_some_iff.1 ho).1
    simp [List.getElem?_range (show i < len by omega)]

theorem bulk_lists {H : Type} {W : World} {ds : List (DataW H)} {d : DataW H} {ps : List (Value × List Int)} (hk : Rows.uptoSmall H ds = true) (hd : d ∈ ds)
    (hl : ps = [] ∨ ∃ elems spare, d = .slice elems spare ∧ elems.length = ps.length ∧ ∀ (i : Nat) (p : Value × List Int), ps[i]? = some p → ∃ x, elems[i]? = some x ∧ LDat W p x) : ps.length ≤ 1048576 ∧ LOk W ps := by
  rcases hl with rfl | ⟨elems, spare, rfl, hlen, hel⟩
  · exact ⟨Nat.zero_le _, fun o ho => by cases ho⟩
  · have h1 : Rows.uptoBulkAll ds ≤ 1048576 := of_decide_eq_true hk
    have h2 := bulk_mem hd
    have h3 := bulk_count elems
    simp only [Rows.uptoBulk] at h2
    refine ⟨by omega, fun o ho => ?_⟩
    obtain ⟨i, hi⟩ := List.mem_iff_getElem?.1 ho
    obtain ⟨x, he, hs, hb, hx⟩ := hel i o hi
    have h4 := bulk_mem (List.mem_of_getElem? he)
    exact ⟨hs, hb, by omega⟩
end Go.Proofs.Ytklffkbcigehfab
