import Derived.Test.YtijmmfimkibgbaaGRe
import Derived.Lib.SmallJoins
import Derived.Deep.Slices
import Derived.SizedLaws
namespace Go.Proofs.Ytijmmfimkibgbaa
open Go.ChangeShapes Go.WideShapes Go.ChangeAt Go.RowKit Go.Joins Go.Deep
set_option maxRecDepth 20000
set_option linter.unusedVariables false

theorem own : ownKnob Try.prog.godebug = none := by kernel_rfl
theorem laidOut : laidOutB Try.prog = true := by kernel_rfl
theorem bytesByte : Try.prog.bytesOf 5 = 1 := by kernel_rfl

theorem byte_wf {n : Int} (h : (Lit.int .u8 n).wf = true) : 0 ≤ n ∧ n < 256 := by
  simp [Lit.wf, IntKind.min, IntKind.max, IntKind.signed, IntKind.bits] at h
  omega

theorem i64_in {n : Int} (h : (Lit.int .i64 n).wf = true) : -9223372036854775808 ≤ n ∧ n ≤ 9223372036854775807 := by
  simp [Lit.wf, IntKind.min, IntKind.max, IntKind.signed, IntKind.bits] at h
  omega

theorem open_bytes {H : Type} {enc : TypeId × Value → H} {W : World} {ao : Option Addr} {len cap : Nat} {d : DataW H} {ps : List MemPlace}
    (h : DataW.Trod enc Try.prog W 0 (fun _ => true) true 31 (.slice ao len cap) d ps) :
    ∃ l, SB W (.slice ao len cap) l ∧ Byt l ∧ (l = [] ∨ ∃ elems spare, d = .slice elems spare ∧ l.length ≤ elems.length + spare.length) := by
  obtain ⟨fuel, hf⟩ := h
  rcases open_ints Try.underlying31 Try.underlying5 (by kernel_rfl) hf with ⟨hcs, _⟩ | ⟨x, ll, c, zs, hcs, _, hl, hm, hz, hx, hcell, hwz⟩
  · simp [Value.cells] at hcs
    obtain ⟨rfl, rfl, rfl⟩ := hcs
    exact ⟨[], ⟨none, 0, rfl, Nat.le_refl _, Nat.zero_le _, fun _ => rfl, fun x hx => by cases hx⟩, (fun i => by simp), .inl rfl⟩
  · simp [Value.cells] at hcs
    obtain ⟨rfl, rfl, rfl⟩ := hcs
    simp only [if_true] at hz
    have e : (zs.take len).length = len := by rw [List.length_take]; omega
    simp only [Prod.mk.injEq] at hx
    have hbz : Byt zs := by
      intro i
      by_cases hi : i < zs.length
      · have : zs.getD i 0 = zs[i] := by simp [hi]
        rw [this]
        exact byte_wf (hwz _ (List.getElem_mem hi))
      · have : zs.getD i 0 = 0 := by simp [hi]
        rw [this]; decide
    refine ⟨zs.take len, ⟨some x, cap, by rw [e], by omega, hm, (fun h => by cases h), fun y hy i hi => ?_⟩, byt_take hbz _, .inr ⟨_, _, hx.1, ?_⟩⟩
    · cases hy
      rw [e] at hi
      rw [hcell i (by omega)]
      simp [List.getD, hi]
    · simp [lits]

theorem reach_bytes {H : Type} {ts : List TypeId} {ds : List (DataW H)} {j : Nat} {l : List Int} {d : DataW H} (h : (DataW.weightsEach Try.prog ts ds).all (· ≤ reachBytes) = true) (ht : ts[j]? = some 31) (hd : ds[j]? = some d)
    (hl : l = [] ∨ ∃ elems spare, d = .slice elems spare ∧ l.length ≤ elems.length + spare.length) : l.length ≤ 140737488351232 := by
  rcases hl with rfl | ⟨elems, spare, rfl, hl⟩
  · simp
  · have := sized_slice h ht hd Try.underlying31
    rw [bytesByte] at this
    simp only [reachBytes] at this
    omega

theorem u32_in {n : Int} (h : (Lit.int .u32 n).wf = true) : 0 ≤ n ∧ n < 4294967296 := by
  simp [Lit.wf, IntKind.min, IntKind.max, IntKind.signed, IntKind.bits] at h
  omega

theorem list10 {α : Type} {l : List α} (h : l.length = 10) : ∃ a0 a1 a2 a3 a4 a5 a6 a7 a8 a9, l = [a0, a1, a2, a3, a4, a5, a6, a7, a8, a9] := by
  match l, h with
  | [a0, a1, a2, a3, a4, a5, a6, a7, a8, a9], _ => exact ⟨a0, a1, a2, a3, a4, a5, a6, a7, a8, a9, rfl⟩

theorem cellsLocal : Try.prog.cellsOf 24 = 10 := by kernel_rfl

/-- The numbers fit, and this is what was read. -/
structure LocD {H : Type} (l : Loc) (d : DataW H) : Prop where
  need : Ok64 l.need
  flags : Ok64 l.flags
  method : Ok64 l.method
  clock : Ok64 l.clock
  date : Ok64 l.date
  sum0 : 0 ≤ l.sum
  sum1 : l.sum < 4294967296
  packed : Ok64 l.packed
  size : Ok64 l.size
  d : ∃ x0 x1 x2 x3 x4 x5 x6 x7, d = .agg [x0, x1, x2, x3, x4, x5, x6, x7, .lit (.string l.name.data.toList), .lit (.string l.extra.data.toList)]

theorem open_localC {H : Type} {enc : TypeId × Value → H} {W : World} {n : Nat} {cs : List Value} {y : DataW H × List MemPlace} (h : DataW.trod enc Try.prog W 0 (fun _ => true) true n 24 cs = some y) :
    ∃ l : Loc, cs = l.cs.toList ∧ LocD l y.1 := by
  obtain ⟨xs, m, _, rfl, hl, hxl, hf⟩ := DataW.trod_struct Try.underlying24 h
  rw [cellsLocal] at hl
  obtain ⟨c0, c1, c2, c3, c4, c5, c6, c7, c8, c9, rfl⟩ := list10 hl
  obtain ⟨y0, y1, y2, y3, y4, y5, y6, y7, y8, y9, rfl⟩ := list10 hxl
  have h0 : DataW.trod enc Try.prog W 0 (fun _ => true) true m 3 (([c0, c1, c2, c3, c4, c5, c6, c7, c8, c9].drop 0).take (Try.prog.cellsOf 3)) = some y0 := hf 0 _ rfl
  have h1 : DataW.trod enc Try.prog W 0 (fun _ => true) true m 3 (([c0, c1, c2, c3, c4, c5, c6, c7, c8, c9].drop 1).take (Try.prog.cellsOf 3)) = some y1 := hf 1 _ rfl
  have h2 : DataW.trod enc Try.prog W 0 (fun _ => true) true m 3 (([c0, c1, c2, c3, c4, c5, c6, c7, c8, c9].drop 2).take (Try.prog.cellsOf 3)) = some y2 := hf 2 _ rfl
  have h3 : DataW.trod enc Try.prog W 0 (fun _ => true) true m 3 (([c0, c1, c2, c3, c4, c5, c6, c7, c8, c9].drop 3).take (Try.prog.cellsOf 3)) = some y3 := hf 3 _ rfl
  have h4 : DataW.trod enc Try.prog W 0 (fun _ => true) true m 3 (([c0, c1, c2, c3, c4, c5, c6, c7, c8, c9].drop 4).take (Try.prog.cellsOf 3)) = some y4 := hf 4 _ rfl
  have h5 : DataW.trod enc Try.prog W 0 (fun _ => true) true m 22 (([c0, c1, c2, c3, c4, c5, c6, c7, c8, c9].drop 5).take (Try.prog.cellsOf 22)) = some y5 := hf 5 _ rfl
  have h6 : DataW.trod enc Try.prog W 0 (fun _ => true) true m 3 (([c0, c1, c2, c3, c4, c5, c6, c7, c8, c9].drop 6).take (Try.prog.cellsOf 3)) = some y6 := hf 6 _ rfl
  have h7 : DataW.trod enc Try.prog W 0 (fun _ => true) true m 3 (([c0, c1, c2, c3, c4, c5, c6, c7, c8, c9].drop 7).take (Try.prog.cellsOf 3)) = some y7 := hf 7 _ rfl
  have h8 : DataW.trod enc Try.prog W 0 (fun _ => true) true m 9 (([c0, c1, c2, c3, c4, c5, c6, c7, c8, c9].drop 8).take (Try.prog.cellsOf 9)) = some y8 := hf 8 _ rfl
  have h9 : DataW.trod enc Try.prog W 0 (fun _ => true) true m 9 (([c0, c1, c2, c3, c4, c5, c6, c7, c8, c9].drop 9).take (Try.prog.cellsOf 9)) = some y9 := hf 9 _ rfl
  rw [show Try.prog.cellsOf 3 = 1 by kernel_rfl] at h0 h1 h2 h3 h4 h6 h7
  rw [show Try.prog.cellsOf 22 = 1 by kernel_rfl] at h5
  rw [show Try.prog.cellsOf 9 = 1 by kernel_rfl] at h8 h9
  simp only [List.drop, List.take] at h0 h1 h2 h3 h4 h5 h6 h7 h8 h9
  obtain ⟨k0, e0, _, q0⟩ := DataW.trod_int Try.underlying3 h0
  obtain ⟨k1, e1, _, q1⟩ := DataW.trod_int Try.underlying3 h1
  obtain ⟨k2, e2, _, q2⟩ := DataW.trod_int Try.underlying3 h2
  obtain ⟨k3, e3, _, q3⟩ := DataW.trod_int Try.underlying3 h3
  obtain ⟨k4, e4, _, q4⟩ := DataW.trod_int Try.underlying3 h4
  obtain ⟨k5, e5, _, q5⟩ := DataW.trod_int Try.underlying22 h5
  obtain ⟨k6, e6, _, q6⟩ := DataW.trod_int Try.underlying3 h6
  obtain ⟨k7, e7, _, q7⟩ := DataW.trod_int Try.underlying3 h7
  obtain ⟨k8, e8, q8, _⟩ := DataW.trod_string Try.underlying9 h8
  obtain ⟨k9, e9, q9, _⟩ := DataW.trod_string Try.underlying9 h9
  simp at e0 e1 e2 e3 e4 e5 e6 e7 e8 e9
  subst e0 e1 e2 e3 e4 e5 e6 e7 e8 e9
  have u5 := u32_in q5
  refine ⟨⟨k0, k1, k2, k3, k4, k5, k6, k7, k8, k9⟩, rfl, i64_in q0, i64_in q1, i64_in q2, i64_in q3, i64_in q4, u5.1, u5.2, i64_in q6, i64_in q7, y0.1, y1.1, y2.1, y3.1, y4.1, y5.1, y6.1, y7.1, ?_⟩
  rw [q8, q9]
  rfl

theorem open_local {H : Type} {enc : TypeId × Value → H} {W : World} {r : Reach} {b0 : Nat} {v : Value} {d : DataW H} {ps : List MemPlace}
    (hv : Value.okWide Try.prog W r b0 24 v) (h : DataW.Trod enc Try.prog W 0 (fun _ => true) true 24 v d ps) : ∃ l : Loc, v = l.v ∧ LocD l d := by
  obtain ⟨cs, rfl, hsz⟩ := okWide_struct Try.underlying24 hv
  obtain ⟨fuel, hf⟩ := h
  obtain ⟨l, hl, hd⟩ := open_localC hf
  refine ⟨l, ?_, hd⟩
  have : cs = l.cs := by
    apply Array.ext'
    simpa [Value.cells] using hl
  rw [this]
  rfl

theorem str_size (s : ByteArray) : s.data.toList.length = s.size := by rw [Array.length_toList]; rfl

theorem weigh_str {H : Type} (s : ByteArray) (t : TypeId) : s.size ∈ (DataW.lit (.string s.data.toList) : DataW H).weights Try.prog t := by
  rw [← str_size]
  simp [DataW.weights]

theorem LocD.weigh {H : Type} {l : Loc} {d : DataW H} (h : LocD l d) : l.name.size ∈ d.weights Try.prog 24 ∧ l.extra.size ∈ d.weights Try.prog 24 := by
  obtain ⟨x0, x1, x2, x3, x4, x5, x6, x7, rfl⟩ := h.d
  rw [DataW.weights, Try.underlying24]
  exact ⟨DataW.weights_mem_each (j := 8) (t := 9) (d := .lit (.string l.name.data.toList)) rfl rfl _ (weigh_str _ _), DataW.weights_mem_each (j := 9) (t := 9) (d := .lit (.string l.extra.data.toList)) rfl rfl _ (weigh_str _ _)⟩

theorem reach_local {H : Type} {ts : List TypeId} {ds : List (DataW H)} {j : Nat} {l : Loc} {d : DataW H} (h : (DataW.weightsEach Try.prog ts ds).all (· ≤ reachBytes) = true) (ht : ts[j]? = some 24) (hd : ds[j]? = some d) (hl : LocD l d) : l.Ok := by
  have m1 := List.all_eq_true.1 h _ (DataW.weights_mem_each ht hd _ hl.weigh.1)
  have m2 := List.all_eq_true.1 h _ (DataW.weights_mem_each ht hd _ hl.weigh.2)
  have m1' : l.name.size ≤ reachBytes := of_decide_eq_true m1
  have m2' : l.extra.size ≤ reachBytes := of_decide_eq_true m2
  unfold reachBytes at m1' m2'
  exact ⟨hl.need, hl.flags, hl.method, hl.clock, hl.date, hl.sum0, hl.sum1, hl.packed, hl.size, by omega, by omega⟩
end Go.Proofs.Ytijmmfimkibgbaa

