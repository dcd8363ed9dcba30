import Derived.Test.YthjgabncifghaabOpenB
import Derived.Test.YthjgabncifghaabBTwo
namespace Go.Proofs.Ythjgabncifghaab
open Go.ChangeShapes Go.WideShapes Go.ChangeAt Go.RowKit Go.Joins Go.Deep

theorem bulk_pos {H : Type} : ∀ d : DataW H, 0 < Rows.uptoBulk d
  | .lit l => by cases l <;> simp [Rows.uptoBulk]
  | .nil => by simp [Rows.uptoBulk]
  | .ptr _ => by simp [Rows.uptoBulk]
  | .slice _ _ => by simp [Rows.uptoBulk]
  | .agg _ => by simp [Rows.uptoBulk]
  | .iface _ _ => by simp [Rows.uptoBulk]
  | .map _ => by simp [Rows.uptoBulk]
  | .held _ => by simp [Rows.uptoBulk]

theorem bulk_count {H : Type} : ∀ l : List (DataW H), l.length ≤ Rows.uptoBulkAll l
  | [] => Nat.zero_le _
  | d :: r => by
    have h1 := bulk_pos d
    have h2 := bulk_count r
    simp only [Rows.uptoBulkAll, List.length_cons]
    omega

theorem bulk_mem {H : Type} {d : DataW H} : ∀ {l : List (DataW H)}, d ∈ l → Rows.uptoBulk d ≤ Rows.uptoBulkAll l
  | x :: r, h => by
    simp only [Rows.uptoBulkAll]
    rcases List.mem_cons.1 h with e | e
    · rw [e]; omega
    · have := bulk_mem e; omega

theorem list4 {α : Type} {l : List α} (h : l.length = 4) : ∃ a b c d, l = [a, b, c, d] := by
  match l, h with
  | [a, b, c, d], _ => exact ⟨a, b, c, d, rfl⟩

theorem cellsBufOp : Try.prog.cellsOf 48 = 4 := by kernel_rfl

theorem open_bufop {H : Type} {enc : TypeId × Value → H} {W : World} {n : Nat} {cs : List Value} {y : DataW H × List MemPlace} (h : DataW.trod enc Try.prog W 0 (fun _ => true) true n 48 cs = some y) :
    ∃ o : BOp, cs = [.int .i64 o.kind, .int .i64 o.n, .int .i64 o.at', .string o.s] ∧ (Lit.int .i64 o.n).wf = true ∧ ∃ x0 x1 x2, y.1 = .agg [x0, x1, x2, .lit (.string o.s.data.toList)] := by
  obtain ⟨xs, m, _, rfl, hl, hxl, hf⟩ := DataW.trod_struct Try.underlying48 h
  rw [cellsBufOp] at hl
  obtain ⟨c0, c1, c2, c3, rfl⟩ := list4 hl
  obtain ⟨y0, y1, y2, y3, rfl⟩ := list4 hxl
  have h0 : DataW.trod enc Try.prog W 0 (fun _ => true) true m 3 (([c0, c1, c2, c3].drop 0).take (Try.prog.cellsOf 3)) = some y0 := hf 0 _ rfl
  have h1 : DataW.trod enc Try.prog W 0 (fun _ => true) true m 3 (([c0, c1, c2, c3].drop 1).take (Try.prog.cellsOf 3)) = some y1 := hf 1 _ rfl
  have h2 : DataW.trod enc Try.prog W 0 (fun _ => true) true m 3 (([c0, c1, c2, c3].drop 2).take (Try.prog.cellsOf 3)) = some y2 := hf 2 _ rfl
  have h3 : DataW.trod enc Try.prog W 0 (fun _ => true) true m 9 (([c0, c1, c2, c3].drop 3).take (Try.prog.cellsOf 9)) = some y3 := hf 3 _ rfl
  rw [show Try.prog.cellsOf 3 = 1 by kernel_rfl] at h0 h1 h2
  rw [show Try.prog.cellsOf 9 = 1 by kernel_rfl] at h3
  simp only [List.drop, List.take] at h0 h1 h2 h3
  obtain ⟨k0, e0, _, _⟩ := DataW.trod_int Try.underlying3 h0
  obtain ⟨k1, e1, _, hw⟩ := DataW.trod_int Try.underlying3 h1
  obtain ⟨k2, e2, _, _⟩ := DataW.trod_int Try.underlying3 h2
  obtain ⟨s, e3, hx, _⟩ := DataW.trod_string Try.underlying9 h3
  simp at e0 e1 e2 e3
  subst e0 e1 e2 e3
  refine ⟨⟨k0, k1, k2, s⟩, rfl, hw, y0.1, y1.1, y2.1, ?_⟩
  rw [hx]
  rfl

theorem open_bufops {H : Type} {enc : TypeId × Value → H} {W : World} {ao : Option Addr} {len cap : Nat} {d : DataW H} {ps : List MemPlace}
    (h : DataW.Trod enc Try.prog W 0 (fun _ => true) true 43 (.slice ao len cap) d ps) :
    ∃ ops, BSc W (.slice ao len cap) ops ∧ (ops = [] ∨ ∃ elems spare, d = .slice elems spare ∧ elems.length = ops.length ∧ ∀ (i : Nat) (o : BOp), ops[i]? = some o → (Lit.int .i64 o.n).wf = true ∧ ∃ x0 x1 x2, elems[i]? = some (.agg [x0, x1, x2, .lit (.string o.s.data.toList)])) := by
  obtain ⟨fuel, hf⟩ := h
  rcases open_slice Try.underlying43 hf with ⟨hcs, _⟩ | ⟨a, ln, cp, m, n, D, Pl, hcs, _, hl, hm, hmm, hx, hel⟩
  · simp [Value.cells] at hcs
    obtain ⟨rfl, rfl, rfl⟩ := hcs
    exact ⟨[], ⟨none, 0, rfl, Nat.le_refl _, Nat.zero_le _, fun i o ho => by simp at ho⟩, .inl rfl⟩
  · simp [Value.cells] at hcs
    obtain ⟨rfl, rfl, rfl⟩ := hcs
    simp only [if_true] at hmm
    obtain ⟨ops, hlo, hops⟩ := exists_list (fun i (o : BOp) => (∃ b of, (some a : Option Addr) = some ⟨b, of, none⟩ ∧ W.cell? ⟨b, of + i * 4, none⟩ = some (.int .i64 o.kind) ∧ W.cell? ⟨b, of + i * 4 + 1, none⟩ = some (.int .i64 o.n) ∧ W.cell? ⟨b, of + i * 4 + 2, none⟩ = some (.int .i64 o.at') ∧ W.cell? ⟨b, of + i * 4 + 3, none⟩ = some (.string o.s)) ∧ (Lit.int .i64 o.n).wf = true ∧ ∃ x0 x1 x2, D i = .agg [x0, x1, x2, .lit (.string o.s.data.toList)]) len (fun i hi => by
      obtain ⟨cs', hc, ht⟩ := hel i (by omega)
      obtain ⟨o, rfl, hw, hd⟩ := open_bufop ht
      rw [cellsBufOp] at hc
      obtain ⟨_, _, hcell⟩ := World.cells?_some hc
      have hab' : ∃ b' of', a = ⟨b', of', none⟩ := by
        obtain ⟨cs0, hc0, ht0⟩ := hel 0 (by omega)
        rw [cellsBufOp] at hc0
        obtain ⟨_, hl0, hcell0⟩ := World.cells?_some hc0
        have h0 := hcell0 0 (by omega)
        rw [List.getElem?_eq_getElem (show 0 < cs0.length by omega), show (a.add (0 * 4)).add 0 = a.add 0 by simp [Addr.add]] at h0
        exact addr_lit h0
      obtain ⟨b', of', rfl⟩ := hab'
      have hc' : ∀ j, j < 4 → W.cell? ⟨b', of' + i * 4 + j, none⟩ = [Value.int .i64 o.kind, .int .i64 o.n, .int .i64 o.at', .string o.s][j]? := fun j hj => by
        have := hcell j hj
        rw [Addr.add_lit, Addr.add_lit] at this
        exact this
      exact ⟨o, ⟨b', of', rfl, hc' 0 (by omega), hc' 1 (by omega), hc' 2 (by omega), hc' 3 (by omega)⟩, hw, hd⟩)
    simp only [Prod.mk.injEq] at hx
    refine ⟨ops, ⟨some a, cap, by rw [hlo], by omega, hm, fun i o ho => (hops i o ho).1⟩, .inr ⟨_, _, hx.1, by simp [hlo], fun i o ho => ⟨(hops i o ho).2.1, ?_⟩⟩⟩
    obtain ⟨x0, x1, x2, hd⟩ := (hops i o ho).2.2
    refine ⟨x0, x1, x2, ?_⟩
    have : i < ops.length := (List.getElem?_eq_some_iff.1 ho).1
    rw [← hd]
    simp [List.getElem?_range (show i < len by omega)]

theorem bulk_bufops {H : Type} {ds : List (DataW H)} {d : DataW H} {ops : List BOp} (hk : Rows.uptoSmall H ds = true) (hd : d ∈ ds)
    (hl : ops = [] ∨ ∃ elems spare, d = .slice elems spare ∧ elems.length = ops.length ∧ ∀ (i : Nat) (o : BOp), ops[i]? = some o → (Lit.int .i64 o.n).wf = true ∧ ∃ x0 x1 x2, elems[i]? = some (.agg [x0, x1, x2, .lit (.string o.s.data.toList)])) : ops.length ≤ 1048576 ∧ BOk ops := by
  rcases hl with rfl | ⟨elems, spare, rfl, hlen, hel⟩
  · exact ⟨Nat.zero_le _, fun o ho => by cases ho⟩
  · have h1 : Rows.uptoBulkAll ds ≤ 1048576 := of_decide_eq_true hk
    have h2 := bulk_mem hd
    have h3 := bulk_count elems
    simp only [Rows.uptoBulk] at h2
    refine ⟨by omega, fun o ho => ?_⟩
    obtain ⟨i, hi⟩ := List.mem_iff_getElem?.1 ho
    obtain ⟨hw, x0, x1, x2, he⟩ := hel i o hi
    have h4 := bulk_mem (List.mem_of_getElem? he)
    simp only [Rows.uptoBulk, Rows.uptoBulkAll] at h4
    have h5 := i64_in hw
    have h6 : o.s.data.toList.length = o.s.size := by rw [Array.length_toList]; rfl
    exact ⟨h5.1, h5.2, by omega⟩
end Go.Proofs.Ythjgabncifghaab
