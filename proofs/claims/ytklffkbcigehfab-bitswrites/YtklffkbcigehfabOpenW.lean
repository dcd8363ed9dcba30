import Derived.Test.YtklffkbcigehfabOpenN
import Derived.Test.YtklffkbcigehfabWrs4
namespace Go.Proofs.Ytklffkbcigehfab
open Go.ChangeShapes Go.WideShapes Go.ChangeAt Go.RowKit Go.Joins Go.Deep
set_option maxRecDepth 20000

theorem cellsWriteOp : Try.prog.cellsOf 80 = 6 := by kernel_rfl

def WDat {H : Type} (W : World) (o : WOp) (d : DataW H) : Prop := (0 ≤ o.v ∧ o.v < 4294967296) ∧ SB W o.d o.l ∧ Byt o.l ∧ (o.l = [] ∨ ∃ x0 x1 x2 x3 x4 es ss, d = .agg [x0, x1, x2, x3, x4, .slice es ss] ∧ o.l.length ≤ es.length + ss.length)

theorem open_writeop {H : Type} {enc : TypeId × Value → H} {W : World} {n : Nat} {cs : List Value} {y : DataW H × List MemPlace} (h : DataW.trod enc Try.prog W 0 (fun _ => true) true n 80 cs = some y) :
    ∃ o : WOp, cs = [.int .i64 o.kind, .int .i64 o.on, .int .i64 o.other, .int .u32 o.v, .int .i64 o.n, o.d] ∧ WDat W o y.1 := by
  obtain ⟨xs, m, _, rfl, hl, hxl, hf⟩ := DataW.trod_struct Try.underlying80 h
  rw [cellsWriteOp] at hl
  obtain ⟨c0, c1, c2, c3, c4, c5, rfl⟩ := list6 hl
  obtain ⟨y0, y1, y2, y3, y4, y5, rfl⟩ := list6 hxl
  have h0 : DataW.trod enc Try.prog W 0 (fun _ => true) true m 3 (([c0, c1, c2, c3, c4, c5].drop 0).take (Try.prog.cellsOf 3)) = some y0 := hf 0 _ rfl
  have h1 : DataW.trod enc Try.prog W 0 (fun _ => true) true m 3 (([c0, c1, c2, c3, c4, c5].drop 1).take (Try.prog.cellsOf 3)) = some y1 := hf 1 _ rfl
  have h2 : DataW.trod enc Try.prog W 0 (fun _ => true) true m 3 (([c0, c1, c2, c3, c4, c5].drop 2).take (Try.prog.cellsOf 3)) = some y2 := hf 2 _ rfl
  have h3 : DataW.trod enc Try.prog W 0 (fun _ => true) true m 43 (([c0, c1, c2, c3, c4, c5].drop 3).take (Try.prog.cellsOf 43)) = some y3 := hf 3 _ rfl
  have h4 : DataW.trod enc Try.prog W 0 (fun _ => true) true m 3 (([c0, c1, c2, c3, c4, c5].drop 4).take (Try.prog.cellsOf 3)) = some y4 := hf 4 _ rfl
  have h5 : DataW.trod enc Try.prog W 0 (fun _ => true) true m 25 (([c0, c1, c2, c3, c4, c5].drop 5).take (Try.prog.cellsOf 25)) = some y5 := hf 5 _ rfl
  rw [show Try.prog.cellsOf 3 = 1 by kernel_rfl] at h0 h1 h2 h4
  rw [show Try.prog.cellsOf 43 = 1 by kernel_rfl] at h3
  rw [show Try.prog.cellsOf 25 = 1 by kernel_rfl] at h5
  simp only [List.drop, List.take] at h0 h1 h2 h3 h4 h5
  obtain ⟨k0, e0, _, _⟩ := DataW.trod_int Try.underlying3 h0
  obtain ⟨k1, e1, _, _⟩ := DataW.trod_int Try.underlying3 h1
  obtain ⟨k2, e2, _, _⟩ := DataW.trod_int Try.underlying3 h2
  obtain ⟨k3, e3, _, hw⟩ := DataW.trod_int Try.underlying43 h3
  obtain ⟨k4, e4, _, _⟩ := DataW.trod_int Try.underlying3 h4
  obtain ⟨l, hs, hb, hbl⟩ := open_bytes1 h5
  simp at e0 e1 e2 e3 e4
  subst e0 e1 e2 e3 e4
  refine ⟨⟨k0, k1, k2, k3, k4, c5, l⟩, rfl, u32_in hw, hs, hb, ?_⟩
  rcases hbl with hbl | ⟨es, ss, he, hle⟩
  · exact .inl hbl
  · exact .inr ⟨y0.1, y1.1, y2.1, y3.1, y4.1, es, ss, by rw [← he]; rfl, hle⟩

theorem open_writeops {H : Type} {enc : TypeId × Value → H} {W : World} {ao : Option Addr} {len cap : Nat} {d : DataW H} {ps : List MemPlace}
    (h : DataW.Trod enc Try.prog W 0 (fun _ => true) true 74 (.slice ao len cap) d ps) :
    ∃ ops, WSc W (.slice ao len cap) ops ∧ (ops = [] ∨ ∃ elems spare, d = .slice elems spare ∧ ∀ (i : Nat) (o : WOp), ops[i]? = some o → ∃ x, elems[i]? = some x ∧ WDat W o x) := by
  obtain ⟨fuel, hf⟩ := h
  rcases open_slice Try.underlying74 hf with ⟨hcs, _⟩ | ⟨a, ln, cp, m, n, D, Pl, hcs, _, hl, hm, hmm, hx, hel⟩
  · simp [Value.cells] at hcs
    obtain ⟨rfl, rfl, rfl⟩ := hcs
    exact ⟨[], ⟨none, 0, rfl, Nat.le_refl _, Nat.zero_le _, fun i o ho => by simp at ho⟩, .inl rfl⟩
  · simp [Value.cells] at hcs
    obtain ⟨rfl, rfl, rfl⟩ := hcs
    simp only [if_true] at hmm
    obtain ⟨ops, hlo, hops⟩ := exists_list (fun i (o : WOp) => (∃ b of, (some a : Option Addr) = some ⟨b, of, none⟩ ∧ W.cell? ⟨b, of + i * 6, none⟩ = some (.int .i64 o.kind) ∧ W.cell? ⟨b, of + i * 6 + 1, none⟩ = some (.int .i64 o.on) ∧ W.cell? ⟨b, of + i * 6 + 2, none⟩ = some (.int .i64 o.other) ∧ W.cell? ⟨b, of + i * 6 + 3, none⟩ = some (.int .u32 o.v) ∧ W.cell? ⟨b, of + i * 6 + 4, none⟩ = some (.int .i64 o.n) ∧ W.cell? ⟨b, of + i * 6 + 5, none⟩ = some o.d) ∧ WDat W o (D i)) len (fun i hi => by
      obtain ⟨cs', hc, ht⟩ := hel i (by omega)
      obtain ⟨o, rfl, hd⟩ := open_writeop ht
      rw [cellsWriteOp] at hc
      obtain ⟨_, _, hcell⟩ := World.cells?_some hc
      have hab' : ∃ b' of', a = ⟨b', of', none⟩ := by
        obtain ⟨cs0, hc0, ht0⟩ := hel 0 (by omega)
        rw [cellsWriteOp] at hc0
        obtain ⟨_, hl0, hcell0⟩ := World.cells?_some hc0
        have h0 := hcell0 0 (by omega)
        rw [List.getElem?_eq_getElem (show 0 < cs0.length by omega), show (a.add (0 * 6)).add 0 = a.add 0 by simp [Addr.add]] at h0
        exact addr_lit h0
      obtain ⟨b', of', rfl⟩ := hab'
      have hc' : ∀ j, j < 6 → W.cell? ⟨b', of' + i * 6 + j, none⟩ = [Value.int .i64 o.kind, .int .i64 o.on, .int .i64 o.other, .int .u32 o.v, .int .i64 o.n, o.d][j]? := fun j hj => by
        have := hcell j hj
        rw [Addr.add_lit, Addr.add_lit] at this
        exact this
      exact ⟨o, ⟨b', of', rfl, hc' 0 (by omega), hc' 1 (by omega), hc' 2 (by omega), hc' 3 (by omega), hc' 4 (by omega), hc' 5 (by omega)⟩, hd⟩)
    simp only [Prod.mk.injEq] at hx
    refine ⟨ops, ⟨some a, cap, by rw [hlo], by omega, hm, fun i o ho => (hops i o ho).1⟩, .inr ⟨_, _, hx.1, fun i o ho => ⟨D i, ?_, (hops i o ho).2⟩⟩⟩
    have : i < ops.length := (List.getElem?_eq_some_iff.1 ho).1
    simp [List.getElem?_range (show i < len by omega)]

theorem weights_all {H : Type} {e : TypeId} {x : DataW H} : ∀ {l : List (DataW H)}, x ∈ l → ∀ n ∈ x.weights Try.prog e, n ∈ DataW.weightsAll Try.prog e l
  | y :: r, h, n, hn => by
    rw [DataW.weightsAll]
    rcases List.mem_cons.1 h with rfl | h
    · exact List.mem_append_left _ hn
    · exact List.mem_append_right _ (weights_all h n hn)

theorem reach_writeops {H : Type} {W : World} {ts : List TypeId} {ds : List (DataW H)} {j : Nat} {ops : List WOp} {d : DataW H} (h : (DataW.weightsEach Try.prog ts ds).all (· ≤ reachBytes) = true) (ht : ts[j]? = some 74) (hd : ds[j]? = some d)
    (hl : ops = [] ∨ ∃ elems spare, d = .slice elems spare ∧ ∀ (i : Nat) (o : WOp), ops[i]? = some o → ∃ x, elems[i]? = some x ∧ WDat W o x) : WOk W ops := by
  rcases hl with rfl | ⟨elems, spare, rfl, hel⟩
  · intro o ho; cases ho
  · intro o ho
    obtain ⟨i, hi⟩ := List.mem_iff_getElem?.1 ho
    obtain ⟨x, hx, hv, hs, hb, hw⟩ := hel i o hi
    refine ⟨hv, hs, hb, ?_⟩
    rcases hw with hw | ⟨x0, x1, x2, x3, x4, es, ss, rfl, hle⟩
    · rw [hw]; exact Nat.zero_le _
    · have m1 : (es.length + ss.length) * Try.prog.bytesOf 5 ∈ (DataW.slice es ss).weights Try.prog 25 := by
        rw [DataW.weights, Try.underlying25]
        exact List.mem_cons_self
      have m2 : (es.length + ss.length) * Try.prog.bytesOf 5 ∈ (DataW.agg [x0, x1, x2, x3, x4, .slice es ss]).weights Try.prog 80 := by
        rw [DataW.weights, Try.underlying80]
        exact DataW.weights_mem_each (j := 5) (t := 25) (d := .slice es ss) rfl rfl _ m1
      have m3 : (es.length + ss.length) * Try.prog.bytesOf 5 ∈ (DataW.slice elems spare).weights Try.prog 74 := by
        rw [DataW.weights, Try.underlying74]
        exact List.mem_cons_of_mem _ (List.mem_append_left _ (weights_all (List.mem_of_getElem? hx) _ m2))
      have m4 := List.all_eq_true.1 h _ (DataW.weights_mem_each ht hd _ m3)
      have m5 : (es.length + ss.length) * Try.prog.bytesOf 5 ≤ reachBytes := by simpa using m4
      rw [bytesByte] at m5
      simp only [reachBytes] at m5
      omega
end Go.Proofs.Ytklffkbcigehfab
