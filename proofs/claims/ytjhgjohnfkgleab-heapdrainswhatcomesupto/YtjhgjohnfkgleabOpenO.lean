import Derived.Test.YtjhgjohnfkgleabOpenN
import Derived.Test.YtjhgjohnfkgleabStp
namespace Go.Proofs.Ytjhgjohnfkgleab
open Go.ChangeShapes Go.WideShapes Go.ChangeAt Go.RowKit Go.Joins Go.Deep
set_option maxRecDepth 20000

/-- A script that is handed in. -/
def Sc (w : World) (v : Value) (ops : List Op4) : Prop :=
  ∃ a cap, v = .slice a ops.length cap ∧ ops.length ≤ cap ∧ cap ≤ maxLen ∧ ∀ (i : Nat) (o : Op4), ops[i]? = some o → ∃ b f, a = some ⟨b, f, none⟩ ∧ w.cell? ⟨b, f + i * 4, none⟩ = some (.int .i64 o.kind) ∧ w.cell? ⟨b, f + i * 4 + 1, none⟩ = some (.int .i64 o.key) ∧ w.cell? ⟨b, f + i * 4 + 2, none⟩ = some (.int .i64 o.val) ∧ w.cell? ⟨b, f + i * 4 + 3, none⟩ = some (.bool o.two)

theorem cellsOp : Try.prog.cellsOf 37 = 4 := by kernel_rfl

theorem open_op {H : Type} {enc : TypeId × Value → H} {W : World} {n : Nat} {cs : List Value} {y : DataW H × List MemPlace} (h : DataW.trod enc Try.prog W 0 (fun _ => true) true n 37 cs = some y) :
    ∃ o : Op4, cs = [.int .i64 o.kind, .int .i64 o.key, .int .i64 o.val, .bool o.two] := by
  obtain ⟨xs, m, _, rfl, hl, hxl, hf⟩ := DataW.trod_struct Try.underlying37 h
  rw [cellsOp] at hl
  obtain ⟨c0, c1, c2, c3, rfl⟩ := list4 hl
  obtain ⟨y0, y1, y2, y3, rfl⟩ := list4 hxl
  have h0 : DataW.trod enc Try.prog W 0 (fun _ => true) true m 3 (([c0, c1, c2, c3].drop 0).take (Try.prog.cellsOf 3)) = some y0 := hf 0 _ rfl
  have h1 : DataW.trod enc Try.prog W 0 (fun _ => true) true m 3 (([c0, c1, c2, c3].drop 1).take (Try.prog.cellsOf 3)) = some y1 := hf 1 _ rfl
  have h2 : DataW.trod enc Try.prog W 0 (fun _ => true) true m 3 (([c0, c1, c2, c3].drop 2).take (Try.prog.cellsOf 3)) = some y2 := hf 2 _ rfl
  have h3 : DataW.trod enc Try.prog W 0 (fun _ => true) true m 4 (([c0, c1, c2, c3].drop 3).take (Try.prog.cellsOf 4)) = some y3 := hf 3 _ rfl
  rw [show Try.prog.cellsOf 3 = 1 by kernel_rfl] at h0 h1 h2
  rw [show Try.prog.cellsOf 4 = 1 by kernel_rfl] at h3
  simp only [List.drop, List.take] at h0 h1 h2 h3
  obtain ⟨k0, e0, _, _⟩ := DataW.trod_int Try.underlying3 h0
  obtain ⟨k1, e1, _, _⟩ := DataW.trod_int Try.underlying3 h1
  obtain ⟨k2, e2, _, _⟩ := DataW.trod_int Try.underlying3 h2
  obtain ⟨k3, e3, _⟩ := DataW.trod_bool Try.underlying4 h3
  simp at e0 e1 e2 e3
  subst e0 e1 e2 e3
  exact ⟨⟨k0, k1, k2, k3⟩, rfl⟩

theorem open_ops {H : Type} {enc : TypeId × Value → H} {W : World} {ao : Option Addr} {len cap : Nat} {d : DataW H} {ps : List MemPlace}
    (h : DataW.Trod enc Try.prog W 0 (fun _ => true) true 35 (.slice ao len cap) d ps) :
    ∃ ops, Sc W (.slice ao len cap) ops ∧ (ops = [] ∨ ∃ elems spare, d = .slice elems spare ∧ elems.length = ops.length) := by
  obtain ⟨fuel, hf⟩ := h
  rcases open_slice Try.underlying35 hf with ⟨hcs, _⟩ | ⟨a, ln, cp, m, n, D, Pl, hcs, _, hl, hm, hmm, hx, hel⟩
  · simp [Value.cells] at hcs
    obtain ⟨rfl, rfl, rfl⟩ := hcs
    exact ⟨[], ⟨none, 0, rfl, Nat.le_refl _, Nat.zero_le _, fun i o ho => by simp at ho⟩, .inl rfl⟩
  · simp [Value.cells] at hcs
    obtain ⟨rfl, rfl, rfl⟩ := hcs
    simp only [if_true] at hmm
    obtain ⟨ops, hlo, hops⟩ := exists_list (fun i (o : Op4) => (∃ b of, (some a : Option Addr) = some ⟨b, of, none⟩ ∧ W.cell? ⟨b, of + i * 4, none⟩ = some (.int .i64 o.kind) ∧ W.cell? ⟨b, of + i * 4 + 1, none⟩ = some (.int .i64 o.key) ∧ W.cell? ⟨b, of + i * 4 + 2, none⟩ = some (.int .i64 o.val) ∧ W.cell? ⟨b, of + i * 4 + 3, none⟩ = some (.bool o.two))) len (fun i hi => by
      obtain ⟨cs', hc, ht⟩ := hel i (by omega)
      obtain ⟨o, rfl⟩ := open_op ht
      rw [cellsOp] at hc
      obtain ⟨_, _, hcell⟩ := World.cells?_some hc
      have hab' : ∃ b' of', a = ⟨b', of', none⟩ := by
        obtain ⟨cs0, hc0, ht0⟩ := hel 0 (by omega)
        rw [cellsOp] at hc0
        obtain ⟨_, hl0, hcell0⟩ := World.cells?_some hc0
        have h0 := hcell0 0 (by omega)
        rw [List.getElem?_eq_getElem (show 0 < cs0.length by omega), show (a.add (0 * 4)).add 0 = a.add 0 by simp [Addr.add]] at h0
        exact addr_lit h0
      obtain ⟨b', of', rfl⟩ := hab'
      have hc' : ∀ j, j < 4 → W.cell? ⟨b', of' + i * 4 + j, none⟩ = [Value.int .i64 o.kind, .int .i64 o.key, .int .i64 o.val, .bool o.two][j]? := fun j hj => by
        have := hcell j hj
        rw [Addr.add_lit, Addr.add_lit] at this
        exact this
      exact ⟨o, ⟨b', of', rfl, hc' 0 (by omega), hc' 1 (by omega), hc' 2 (by omega), hc' 3 (by omega)⟩⟩)
    simp only [Prod.mk.injEq] at hx
    exact ⟨ops, ⟨some a, cap, by rw [hlo], by omega, hm, fun i o ho => hops i o ho⟩, .inr ⟨_, _, hx.1, by simp [hlo]⟩⟩

theorem bytesOp : Try.prog.bytesOf 37 = 32 := by kernel_rfl

theorem reach_ops {H : Type} {ts : List TypeId} {ds : List (DataW H)} {j : Nat} {ops : List Op4} {d : DataW H} (h : (DataW.weightsEach Try.prog ts ds).all (· ≤ reachBytes) = true) (ht : ts[j]? = some 35) (hd : ds[j]? = some d)
    (hl : ops = [] ∨ ∃ elems spare, d = .slice elems spare ∧ elems.length = ops.length) : ops.length ≤ 4398046511104 := by
  rcases hl with rfl | ⟨elems, spare, rfl, hl⟩
  · simp
  · have := sized_slice h ht hd Try.underlying35
    rw [bytesOp] at this
    simp only [reachBytes] at this
    omega

theorem bulk_ops {H : Type} {ds : List (DataW H)} {d : DataW H} {ops : List Op4} (hk : Rows.uptoSmall H ds = true) (hd : d ∈ ds)
    (hl : ops = [] ∨ ∃ elems spare, d = .slice elems spare ∧ elems.length = ops.length) : ops.length ≤ 1048576 ∧ True := by
  rcases hl with rfl | ⟨elems, spare, rfl, hlen⟩
  · exact ⟨Nat.zero_le _, trivial⟩
  · have h1 : Rows.uptoBulkAll ds ≤ 1048576 := of_decide_eq_true hk
    have h2 := bulk_mem hd
    have h3 := bulk_count elems
    simp only [Rows.uptoBulk] at h2
    exact ⟨by omega, trivial⟩

end Go.Proofs.Ytjhgjohnfkgleab
