import Derived.Test.YtmbgjkghcpkoiaaGRe
import Derived.Lib.SmallJoins
import Derived.Deep.Slices
import Derived.SizedLaws
import Derived.Test.YtmbgjkghcpkoiaaGSrw
import Derived.Test.YtmbgjkghcpkoiaaGEnt
namespace Go.Proofs.Ytmbgjkghcpkoiaa
open Go.ChangeShapes Go.WideShapes Go.ChangeAt Go.RowKit Go.Joins Go.Deep
set_option maxRecDepth 20000
set_option linter.unusedVariables false

theorem own : ownKnob Try.prog.godebug = none := by kernel_rfl
theorem laidOut : laidOutB Try.prog = true := by kernel_rfl
theorem bytesByte : Try.prog.bytesOf 5 = 1 := by kernel_rfl

theorem byte_wf {n : Int} (h : (Lit.int .u8 n).wf = true) : 0 ≤ n ∧ n < 256 := by
  simp [Lit.wf, IntKind.min, IntKind.max, IntKind.signed, IntKind.bits] at h
  omega

theorem i64_in {n : Int} (h : (Lit.int .i64 n).wf = true) : -9223372036854775808 ≤ n ∧ n ≤ 9223372036854775807 := by
  simp [Lit.wf, IntKind.min, IntKind.max, IntKind.signed, IntKind.bits] at h
  omega

theorem u32_in {n : Int} (h : (Lit.int .u32 n).wf = true) : 0 ≤ n ∧ n < 4294967296 := by
  simp [Lit.wf, IntKind.min, IntKind.max, IntKind.signed, IntKind.bits] at h
  omega

theorem list10 {α : Type} {l : List α} (h : l.length = 10) : ∃ a0 a1 a2 a3 a4 a5 a6 a7 a8 a9, l = [a0, a1, a2, a3, a4, a5, a6, a7, a8, a9] := by
  match l, h with
  | [a0, a1, a2, a3, a4, a5, a6, a7, a8, a9], _ => exact ⟨a0, a1, a2, a3, a4, a5, a6, a7, a8, a9, rfl⟩

theorem cellsLocal : Try.prog.cellsOf 28 = 10 := by kernel_rfl

/-- The numbers fit, and this is what was read. -/
structure LocD {H : Type} (l : Loc) (d : DataW H) : Prop where
  need : Ok64 l.need
  flags : Ok64 l.flags
  method : Ok64 l.method
  clock : Ok64 l.clock
  date : Ok64 l.date
  sum0 : 0 ≤ l.sum
  sum1 : l.sum < 4294967296
  packed : Ok64 l.packed
  size : Ok64 l.size
  d : ∃ x0 x1 x2 x3 x4 x5 x6 x7, d = .agg [x0, x1, x2, x3, x4, x5, x6, x7, .lit (.string l.name.data.toList), .lit (.string l.extra.data.toList)]

theorem open_localC {H : Type} {enc : TypeId × Value → H} {W : World} {n : Nat} {cs : List Value} {y : DataW H × List MemPlace} (h : DataW.trod enc Try.prog W 0 (fun _ => true) true n 28 cs = some y) :
    ∃ l : Loc, cs = l.cs.toList ∧ LocD l y.1 := by
  obtain ⟨xs, m, _, rfl, hl, hxl, hf⟩ := DataW.trod_struct Try.underlying28 h
  rw [cellsLocal] at hl
  obtain ⟨c0, c1, c2, c3, c4, c5, c6, c7, c8, c9, rfl⟩ := list10 hl
  obtain ⟨y0, y1, y2, y3, y4, y5, y6, y7, y8, y9, rfl⟩ := list10 hxl
  have h0 : DataW.trod enc Try.prog W 0 (fun _ => true) true m 3 (([c0, c1, c2, c3, c4, c5, c6, c7, c8, c9].drop 0).take (Try.prog.cellsOf 3)) = some y0 := hf 0 _ rfl
  have h1 : DataW.trod enc Try.prog W 0 (fun _ => true) true m 3 (([c0, c1, c2, c3, c4, c5, c6, c7, c8, c9].drop 1).take (Try.prog.cellsOf 3)) = some y1 := hf 1 _ rfl
  have h2 : DataW.trod enc Try.prog W 0 (fun _ => true) true m 3 (([c0, c1, c2, c3, c4, c5, c6, c7, c8, c9].drop 2).take (Try.prog.cellsOf 3)) = some y2 := hf 2 _ rfl
  have h3 : DataW.trod enc Try.prog W 0 (fun _ => true) true m 3 (([c0, c1, c2, c3, c4, c5, c6, c7, c8, c9].drop 3).take (Try.prog.cellsOf 3)) = some y3 := hf 3 _ rfl
  have h4 : DataW.trod enc Try.prog W 0 (fun _ => true) true m 3 (([c0, c1, c2, c3, c4, c5, c6, c7, c8, c9].drop 4).take (Try.prog.cellsOf 3)) = some y4 := hf 4 _ rfl
  have h5 : DataW.trod enc Try.prog W 0 (fun _ => true) true m 26 (([c0, c1, c2, c3, c4, c5, c6, c7, c8, c9].drop 5).take (Try.prog.cellsOf 26)) = some y5 := hf 5 _ rfl
  have h6 : DataW.trod enc Try.prog W 0 (fun _ => true) true m 3 (([c0, c1, c2, c3, c4, c5, c6, c7, c8, c9].drop 6).take (Try.prog.cellsOf 3)) = some y6 := hf 6 _ rfl
  have h7 : DataW.trod enc Try.prog W 0 (fun _ => true) true m 3 (([c0, c1, c2, c3, c4, c5, c6, c7, c8, c9].drop 7).take (Try.prog.cellsOf 3)) = some y7 := hf 7 _ rfl
  have h8 : DataW.trod enc Try.prog W 0 (fun _ => true) true m 9 (([c0, c1, c2, c3, c4, c5, c6, c7, c8, c9].drop 8).take (Try.prog.cellsOf 9)) = some y8 := hf 8 _ rfl
  have h9 : DataW.trod enc Try.prog W 0 (fun _ => true) true m 9 (([c0, c1, c2, c3, c4, c5, c6, c7, c8, c9].drop 9).take (Try.prog.cellsOf 9)) = some y9 := hf 9 _ rfl
  rw [show Try.prog.cellsOf 3 = 1 by kernel_rfl] at h0 h1 h2 h3 h4 h6 h7
  rw [show Try.prog.cellsOf 26 = 1 by kernel_rfl] at h5
  rw [show Try.prog.cellsOf 9 = 1 by kernel_rfl] at h8 h9
  simp only [List.drop, List.take] at h0 h1 h2 h3 h4 h5 h6 h7 h8 h9
  obtain ⟨k0, e0, _, q0⟩ := DataW.trod_int Try.underlying3 h0
  obtain ⟨k1, e1, _, q1⟩ := DataW.trod_int Try.underlying3 h1
  obtain ⟨k2, e2, _, q2⟩ := DataW.trod_int Try.underlying3 h2
  obtain ⟨k3, e3, _, q3⟩ := DataW.trod_int Try.underlying3 h3
  obtain ⟨k4, e4, _, q4⟩ := DataW.trod_int Try.underlying3 h4
  obtain ⟨k5, e5, _, q5⟩ := DataW.trod_int Try.underlying26 h5
  obtain ⟨k6, e6, _, q6⟩ := DataW.trod_int Try.underlying3 h6
  obtain ⟨k7, e7, _, q7⟩ := DataW.trod_int Try.underlying3 h7
  obtain ⟨k8, e8, q8, _⟩ := DataW.trod_string Try.underlying9 h8
  obtain ⟨k9, e9, q9, _⟩ := DataW.trod_string Try.underlying9 h9
  simp at e0 e1 e2 e3 e4 e5 e6 e7 e8 e9
  subst e0 e1 e2 e3 e4 e5 e6 e7 e8 e9
  have u5 := u32_in q5
  refine ⟨⟨k0, k1, k2, k3, k4, k5, k6, k7, k8, k9⟩, rfl, i64_in q0, i64_in q1, i64_in q2, i64_in q3, i64_in q4, u5.1, u5.2, i64_in q6, i64_in q7, y0.1, y1.1, y2.1, y3.1, y4.1, y5.1, y6.1, y7.1, ?_⟩
  rw [q8, q9]
  rfl

theorem open_local {H : Type} {enc : TypeId × Value → H} {W : World} {r : Reach} {b0 : Nat} {v : Value} {d : DataW H} {ps : List MemPlace}
    (hv : Value.okWide Try.prog W r b0 28 v) (h : DataW.Trod enc Try.prog W 0 (fun _ => true) true 28 v d ps) : ∃ l : Loc, v = l.v ∧ LocD l d := by
  obtain ⟨cs, rfl, hsz⟩ := okWide_struct Try.underlying28 hv
  obtain ⟨fuel, hf⟩ := h
  obtain ⟨l, hl, hd⟩ := open_localC hf
  refine ⟨l, ?_, hd⟩
  have : cs = l.cs := by
    apply Array.ext'
    simpa [Value.cells] using hl
  rw [this]
  rfl

theorem str_size (s : ByteArray) : s.data.toList.length = s.size := by rw [Array.length_toList]; rfl

theorem weigh_str {H : Type} (s : ByteArray) (t : TypeId) : s.size ∈ (DataW.lit (.string s.data.toList) : DataW H).weights Try.prog t := by
  rw [← str_size]
  simp [DataW.weights]

theorem LocD.weigh {H : Type} {l : Loc} {d : DataW H} (h : LocD l d) : l.name.size ∈ d.weights Try.prog 28 ∧ l.extra.size ∈ d.weights Try.prog 28 := by
  obtain ⟨x0, x1, x2, x3, x4, x5, x6, x7, rfl⟩ := h.d
  rw [DataW.weights, Try.underlying28]
  exact ⟨DataW.weights_mem_each (j := 8) (t := 9) (d := .lit (.string l.name.data.toList)) rfl rfl _ (weigh_str _ _), DataW.weights_mem_each (j := 9) (t := 9) (d := .lit (.string l.extra.data.toList)) rfl rfl _ (weigh_str _ _)⟩

theorem reach_local {H : Type} {ts : List TypeId} {ds : List (DataW H)} {j : Nat} {l : Loc} {d : DataW H} (h : (DataW.weightsEach Try.prog ts ds).all (· ≤ reachBytes) = true) (ht : ts[j]? = some 28) (hd : ds[j]? = some d) (hl : LocD l d) : l.Ok := by
  have m1 := List.all_eq_true.1 h _ (DataW.weights_mem_each ht hd _ hl.weigh.1)
  have m2 := List.all_eq_true.1 h _ (DataW.weights_mem_each ht hd _ hl.weigh.2)
  have m1' : l.name.size ≤ reachBytes := of_decide_eq_true m1
  have m2' : l.extra.size ≤ reachBytes := of_decide_eq_true m2
  unfold reachBytes at m1' m2'
  exact ⟨hl.need, hl.flags, hl.method, hl.clock, hl.date, hl.sum0, hl.sum1, hl.packed, hl.size, by omega, by omega⟩
end Go.Proofs.Ytmbgjkghcpkoiaa

namespace Go.Proofs.Ytmbgjkghcpkoiaa
open Go.ChangeShapes Go.WideShapes Go.ChangeAt Go.RowKit Go.Joins Go.Deep
set_option maxRecDepth 20000
set_option linter.unusedVariables false

theorem list7 {α : Type} {l : List α} (h : l.length = 7) : ∃ a0 a1 a2 a3 a4 a5 a6, l = [a0, a1, a2, a3, a4, a5, a6] := by
  match l, h with
  | [a0, a1, a2, a3, a4, a5, a6], _ => exact ⟨a0, a1, a2, a3, a4, a5, a6, rfl⟩

structure EnrD {H : Type} (l : Enr) (d : DataW H) : Prop where
  disk : Ok64 l.disk
  dirDisk : Ok64 l.dirDisk
  here : Ok64 l.here
  total : Ok64 l.total
  dirSize : Ok64 l.dirSize
  dirAt : Ok64 l.dirAt
  d : ∃ x0 x1 x2 x3 x4 x5, d = .agg [x0, x1, x2, x3, x4, x5, .lit (.string l.comment.data.toList)]

end Go.Proofs.Ytmbgjkghcpkoiaa

namespace Go.Proofs.Ytmbgjkghcpkoiaa
open Go.ChangeShapes Go.WideShapes Go.ChangeAt Go.RowKit Go.Joins Go.Deep
set_option maxRecDepth 20000
set_option linter.unusedVariables false

theorem list16 {α : Type} {l : List α} (h : l.length = 16) : ∃ a0 a1 a2 a3 a4 a5 a6 a7 a8 a9 a10 a11 a12 a13 a14 a15, l = [a0, a1, a2, a3, a4, a5, a6, a7, a8, a9, a10, a11, a12, a13, a14, a15] := by
  match l, h with
  | [a0, a1, a2, a3, a4, a5, a6, a7, a8, a9, a10, a11, a12, a13, a14, a15], _ => exact ⟨a0, a1, a2, a3, a4, a5, a6, a7, a8, a9, a10, a11, a12, a13, a14, a15, rfl⟩

theorem cellsCentral : Try.prog.cellsOf 30 = 16 := by kernel_rfl

structure CenD {H : Type} (l : Cen) (d : DataW H) : Prop where
  made : Ok64 l.made
  disk : Ok64 l.disk
  internal : Ok64 l.internal
  external : Ok64 l.external
  at' : Ok64 l.at'
  d : ∃ x0 x1 x2 x3 x4 x5, LocD l.loc x0 ∧ d = .agg [x0, x1, x2, x3, x4, x5, .lit (.string l.comment.data.toList)]

theorem open_centralC {H : Type} {enc : TypeId × Value → H} {W : World} {n : Nat} {cs : List Value} {y : DataW H × List MemPlace} (h : DataW.trod enc Try.prog W 0 (fun _ => true) true n 30 cs = some y) :
    ∃ l : Cen, cs = l.cs.toList ∧ CenD l y.1 := by
  obtain ⟨xs, m, _, rfl, hl, hxl, hf⟩ := DataW.trod_struct Try.underlying30 h
  rw [cellsCentral] at hl
  obtain ⟨c0, c1, c2, c3, c4, c5, c6, c7, c8, c9, c10, c11, c12, c13, c14, c15, rfl⟩ := list16 hl
  obtain ⟨y0, y1, y2, y3, y4, y5, y6, rfl⟩ := list7 hxl
  have h0 : DataW.trod enc Try.prog W 0 (fun _ => true) true m 28 (([c0, c1, c2, c3, c4, c5, c6, c7, c8, c9, c10, c11, c12, c13, c14, c15].drop 0).take (Try.prog.cellsOf 28)) = some y0 := hf 0 _ rfl
  have h1 : DataW.trod enc Try.prog W 0 (fun _ => true) true m 3 (([c0, c1, c2, c3, c4, c5, c6, c7, c8, c9, c10, c11, c12, c13, c14, c15].drop 10).take (Try.prog.cellsOf 3)) = some y1 := hf 1 _ rfl
  have h2 : DataW.trod enc Try.prog W 0 (fun _ => true) true m 3 (([c0, c1, c2, c3, c4, c5, c6, c7, c8, c9, c10, c11, c12, c13, c14, c15].drop 11).take (Try.prog.cellsOf 3)) = some y2 := hf 2 _ rfl
  have h3 : DataW.trod enc Try.prog W 0 (fun _ => true) true m 3 (([c0, c1, c2, c3, c4, c5, c6, c7, c8, c9, c10, c11, c12, c13, c14, c15].drop 12).take (Try.prog.cellsOf 3)) = some y3 := hf 3 _ rfl
  have h4 : DataW.trod enc Try.prog W 0 (fun _ => true) true m 3 (([c0, c1, c2, c3, c4, c5, c6, c7, c8, c9, c10, c11, c12, c13, c14, c15].drop 13).take (Try.prog.cellsOf 3)) = some y4 := hf 4 _ rfl
  have h5 : DataW.trod enc Try.prog W 0 (fun _ => true) true m 3 (([c0, c1, c2, c3, c4, c5, c6, c7, c8, c9, c10, c11, c12, c13, c14, c15].drop 14).take (Try.prog.cellsOf 3)) = some y5 := hf 5 _ rfl
  have h6 : DataW.trod enc Try.prog W 0 (fun _ => true) true m 9 (([c0, c1, c2, c3, c4, c5, c6, c7, c8, c9, c10, c11, c12, c13, c14, c15].drop 15).take (Try.prog.cellsOf 9)) = some y6 := hf 6 _ rfl
  rw [cellsLocal] at h0
  rw [show Try.prog.cellsOf 3 = 1 by kernel_rfl] at h1 h2 h3 h4 h5
  rw [show Try.prog.cellsOf 9 = 1 by kernel_rfl] at h6
  simp only [List.drop, List.take] at h0 h1 h2 h3 h4 h5 h6
  obtain ⟨k1, e1, _, q1⟩ := DataW.trod_int Try.underlying3 h1
  obtain ⟨k2, e2, _, q2⟩ := DataW.trod_int Try.underlying3 h2
  obtain ⟨k3, e3, _, q3⟩ := DataW.trod_int Try.underlying3 h3
  obtain ⟨k4, e4, _, q4⟩ := DataW.trod_int Try.underlying3 h4
  obtain ⟨k5, e5, _, q5⟩ := DataW.trod_int Try.underlying3 h5
  obtain ⟨k6, e6, q6, _⟩ := DataW.trod_string Try.underlying9 h6
  obtain ⟨lc, hlc, hld⟩ := open_localC h0
  simp at e1 e2 e3 e4 e5 e6
  subst e1 e2 e3 e4 e5 e6
  obtain ⟨l0, l1, l2, l3, l4, l5, l6, l7, l8, l9⟩ := lc
  simp only [Loc.cs, List.cons.injEq, and_true] at hlc
  obtain ⟨rfl, rfl, rfl, rfl, rfl, rfl, rfl, rfl, rfl, rfl⟩ := hlc
  refine ⟨⟨⟨l0, l1, l2, l3, l4, l5, l6, l7, l8, l9⟩, k1, k2, k3, k4, k5, k6⟩, rfl, i64_in q1, i64_in q2, i64_in q3, i64_in q4, i64_in q5, y0.1, y1.1, y2.1, y3.1, y4.1, y5.1, hld, ?_⟩
  rw [q6]
  rfl

theorem open_central {H : Type} {enc : TypeId × Value → H} {W : World} {r : Reach} {b0 : Nat} {v : Value} {d : DataW H} {ps : List MemPlace}
    (hv : Value.okWide Try.prog W r b0 30 v) (h : DataW.Trod enc Try.prog W 0 (fun _ => true) true 30 v d ps) : ∃ l : Cen, v = l.v ∧ CenD l d := by
  obtain ⟨cs, rfl, hsz⟩ := okWide_struct Try.underlying30 hv
  obtain ⟨fuel, hf⟩ := h
  obtain ⟨l, hl, hd⟩ := open_centralC hf
  refine ⟨l, ?_, hd⟩
  have : cs = l.cs := by
    apply Array.ext'
    simpa [Value.cells] using hl
  rw [this]
  rfl

theorem CenD.weigh {H : Type} {l : Cen} {d : DataW H} (hl : CenD l d) : l.loc.name.size ∈ d.weights Try.prog 30 ∧ l.loc.extra.size ∈ d.weights Try.prog 30 ∧ l.comment.size ∈ d.weights Try.prog 30 := by
  obtain ⟨x0, x1, x2, x3, x4, x5, hl0, rfl⟩ := hl.d
  rw [DataW.weights, Try.underlying30]
  exact ⟨DataW.weights_mem_each (j := 0) (t := 28) (d := x0) rfl rfl _ hl0.weigh.1, DataW.weights_mem_each (j := 0) (t := 28) (d := x0) rfl rfl _ hl0.weigh.2, DataW.weights_mem_each (j := 6) (t := 9) (d := .lit (.string l.comment.data.toList)) rfl rfl _ (weigh_str _ _)⟩

theorem reach_central {H : Type} {ts : List TypeId} {ds : List (DataW H)} {j : Nat} {l : Cen} {d : DataW H} (h : (DataW.weightsEach Try.prog ts ds).all (· ≤ reachBytes) = true) (ht : ts[j]? = some 30) (hd : ds[j]? = some d) (hl : CenD l d) : l.Ok := by
  have m1 := List.all_eq_true.1 h _ (DataW.weights_mem_each ht hd _ hl.weigh.1)
  have m2 := List.all_eq_true.1 h _ (DataW.weights_mem_each ht hd _ hl.weigh.2.1)
  have m3 := List.all_eq_true.1 h _ (DataW.weights_mem_each ht hd _ hl.weigh.2.2)
  have m1' : l.loc.name.size ≤ reachBytes := of_decide_eq_true m1
  have m2' : l.loc.extra.size ≤ reachBytes := of_decide_eq_true m2
  have m3' : l.comment.size ≤ reachBytes := of_decide_eq_true m3
  unfold reachBytes at m1' m2' m3'
  obtain ⟨x0, x1, x2, x3, x4, x5, hl0, _⟩ := hl.d
  exact ⟨⟨hl0.need, hl0.flags, hl0.method, hl0.clock, hl0.date, hl0.sum0, hl0.sum1, hl0.packed, hl0.size, by omega, by omega⟩, hl.made, hl.disk, hl.internal, hl.external, hl.at', by omega⟩
end Go.Proofs.Ytmbgjkghcpkoiaa

namespace Go.Proofs.Ytmbgjkghcpkoiaa
open Go.ChangeShapes Go.WideShapes Go.ChangeAt Go.RowKit Go.Joins Go.Deep
set_option maxRecDepth 20000

theorem bulk_pos {H : Type} : ∀ d : DataW H, 0 < Rows.uptoBulk d
  | .lit l => by cases l <;> simp [Rows.uptoBulk]
  | .nil => by simp [Rows.uptoBulk]
  | .ptr _ => by simp [Rows.uptoBulk]
  | .slice _ _ => by simp [Rows.uptoBulk]
  | .agg _ => by simp [Rows.uptoBulk]
  | .iface _ _ => by simp [Rows.uptoBulk]
  | .map _ => by simp [Rows.uptoBulk]
  | .held _ => by simp [Rows.uptoBulk]

theorem bulk_count {H : Type} : ∀ l : List (DataW H), l.length ≤ Rows.uptoBulkAll l
  | [] => Nat.zero_le _
  | d :: r => by
    have h1 := bulk_pos d
    have h2 := bulk_count r
    simp only [Rows.uptoBulkAll, List.length_cons]
    omega

theorem bulk_mem {H : Type} {d : DataW H} : ∀ {l : List (DataW H)}, d ∈ l → Rows.uptoBulk d ≤ Rows.uptoBulkAll l
  | x :: r, h => by
    simp only [Rows.uptoBulkAll]
    rcases List.mem_cons.1 h with e | e
    · rw [e]; omega
    · have := bulk_mem e; omega

theorem bulk_bytes {H : Type} {ds : List (DataW H)} {d : DataW H} {l : List Int} (hk : Rows.uptoSmall H ds = true) (hd : d ∈ ds) (hl : l = [] ∨ ∃ elems spare, d = .slice elems spare ∧ l.length ≤ elems.length + spare.length) : l.length ≤ 1048576 := by
  rcases hl with rfl | ⟨e, s, rfl, h⟩
  · exact Nat.zero_le _
  · have h0 : Rows.uptoBulkAll ds ≤ 1048576 := of_decide_eq_true hk
    have h3 := bulk_mem hd
    have h1 := bulk_count e
    have h2 := bulk_count s
    simp only [Rows.uptoBulk] at h3
    omega
end Go.Proofs.Ytmbgjkghcpkoiaa

namespace Go.Proofs.Ytmbgjkghcpkoiaa
open Go.ChangeShapes Go.WideShapes Go.ChangeAt Go.RowKit Go.Joins Go.Deep
set_option maxRecDepth 20000
set_option linter.unusedVariables false
set_option linter.unusedSimpArgs false

theorem exists_list {α : Type} (P : Nat → α → Prop) : ∀ n, (∀ i, i < n → ∃ a, P i a) → ∃ l : List α, l.length = n ∧ ∀ i a, l[i]? = some a → P i a
  | 0, _ => ⟨[], rfl, fun i a h => by simp at h⟩
  | n + 1, h => by
    obtain ⟨l, hl, hp⟩ := exists_list P n fun i hi => h i (by omega)
    obtain ⟨a, ha⟩ := h n (by omega)
    refine ⟨l ++ [a], by simp [hl], fun i x hx => ?_⟩
    by_cases hi : i < l.length
    · rw [List.getElem?_append_left hi] at hx
      exact hp i x hx
    · rw [List.getElem?_append_right (by omega)] at hx
      have : i - l.length = 0 := by
        by_cases e : i - l.length = 0
        · exact e
        · rw [List.getElem?_eq_none (by simp; omega)] at hx; cases hx
      rw [this] at hx
      simp at hx
      rw [← hx, show i = n by omega]
      exact ha

theorem bulk_str {H : Type} (s : ByteArray) : s.size ≤ Rows.uptoBulk (DataW.lit (.string s.data.toList) : DataW H) := by
  rw [← str_size]
  simp [Rows.uptoBulk]

theorem bulk_locals {H : Type} {ds : List (DataW H)} {d : DataW H} {R : List Loc} (hk : Rows.uptoSmall H ds = true) (hd : d ∈ ds) (hl : R = [] ∨ ∃ elems spare, d = .slice elems spare ∧ elems.length = R.length ∧ ∀ l ∈ R, ∃ y ∈ elems, LocD l y) : R.length ≤ 1048576 ∧ ∀ l ∈ R, l.Ok := by
  rcases hl with rfl | ⟨e, s, rfl, h, hy⟩
  · exact ⟨Nat.zero_le _, fun l hl => by cases hl⟩
  · have h0 : Rows.uptoBulkAll ds ≤ 1048576 := of_decide_eq_true hk
    have h3 := bulk_mem hd
    have h1 := bulk_count e
    simp only [Rows.uptoBulk] at h3
    refine ⟨by omega, fun l hl => ?_⟩
    obtain ⟨y, hye, hD⟩ := hy l hl
    have h4 := bulk_mem hye
    obtain ⟨x0, x1, x2, x3, x4, x5, x6, x7, rfl⟩ := hD.d
    have s1 := bulk_str (H := H) l.name
    have s2 := bulk_str (H := H) l.extra
    simp only [Rows.uptoBulk, Rows.uptoBulkAll] at h4 s1 s2
    exact ⟨hD.need, hD.flags, hD.method, hD.clock, hD.date, hD.sum0, hD.sum1, hD.packed, hD.size, by omega, by omega⟩

theorem bulk_centrals {H : Type} {ds : List (DataW H)} {d : DataW H} {R : List Cen} (hk : Rows.uptoSmall H ds = true) (hd : d ∈ ds) (hl : R = [] ∨ ∃ elems spare, d = .slice elems spare ∧ elems.length = R.length ∧ ∀ l ∈ R, ∃ y ∈ elems, CenD l y) : R.length ≤ 1048576 ∧ ∀ l ∈ R, l.Ok := by
  rcases hl with rfl | ⟨e, s, rfl, h, hy⟩
  · exact ⟨Nat.zero_le _, fun l hl => by cases hl⟩
  · have h0 : Rows.uptoBulkAll ds ≤ 1048576 := of_decide_eq_true hk
    have h3 := bulk_mem hd
    have h1 := bulk_count e
    simp only [Rows.uptoBulk] at h3
    refine ⟨by omega, fun l hl => ?_⟩
    obtain ⟨y, hye, hD⟩ := hy l hl
    have h4 := bulk_mem hye
    obtain ⟨x0, x1, x2, x3, x4, x5, hl0, rfl⟩ := hD.d
    obtain ⟨y0, y1, y2, y3, y4, y5, y6, y7, rfl⟩ := hl0.d
    have s1 := bulk_str (H := H) l.loc.name
    have s2 := bulk_str (H := H) l.loc.extra
    have s3 := bulk_str (H := H) l.comment
    simp only [Rows.uptoBulk, Rows.uptoBulkAll] at h4 s1 s2 s3
    exact ⟨⟨hl0.need, hl0.flags, hl0.method, hl0.clock, hl0.date, hl0.sum0, hl0.sum1, hl0.packed, hl0.size, by omega, by omega⟩, hD.made, hD.disk, hD.internal, hD.external, hD.at', by omega⟩

end Go.Proofs.Ytmbgjkghcpkoiaa

namespace Go.Proofs.Ytmbgjkghcpkoiaa
open Go.ChangeShapes Go.WideShapes Go.ChangeAt Go.RowKit Go.Joins Go.Deep
set_option maxRecDepth 20000
set_option linter.unusedVariables false
set_option linter.unusedSimpArgs false

theorem cellsEntry : Try.prog.cellsOf 32 = 20 := by kernel_rfl
theorem bytesEntry : Try.prog.bytesOf 32 = 192 := by kernel_rfl

theorem list20 {α : Type} {l : List α} (h : l.length = 20) : ∃ a0 a1 a2 a3 a4 a5 a6 a7 a8 a9 a10 a11 a12 a13 a14 a15 a16 a17 a18 a19, l = [a0, a1, a2, a3, a4, a5, a6, a7, a8, a9, a10, a11, a12, a13, a14, a15, a16, a17, a18, a19] := by
  match l, h with
  | [a0, a1, a2, a3, a4, a5, a6, a7, a8, a9, a10, a11, a12, a13, a14, a15, a16, a17, a18, a19], _ => exact ⟨a0, a1, a2, a3, a4, a5, a6, a7, a8, a9, a10, a11, a12, a13, a14, a15, a16, a17, a18, a19, rfl⟩

theorem list5 {α : Type} {l : List α} (h : l.length = 5) : ∃ a b c d e, l = [a, b, c, d, e] := by
  match l, h with
  | [a, b, c, d, e], _ => exact ⟨a, b, c, d, e, rfl⟩

structure EntO (e : Ent) : Prop where
  frm : Ok64 e.frm
  dat : Ok64 e.dat
  til : Ok64 e.til

theorem open_entC {H : Type} {enc : TypeId × Value → H} {W : World} {n : Nat} {cs : List Value} {y : DataW H × List MemPlace} (h : DataW.trod enc Try.prog W 0 (fun _ => true) true n 32 cs = some y) :
    ∃ l : Ent, cs = l.cs.toList ∧ EntO l := by
  obtain ⟨xs, m, _, rfl, hl, hxl, hf⟩ := DataW.trod_struct Try.underlying32 h
  rw [cellsEntry] at hl
  obtain ⟨c0, c1, c2, c3, c4, c5, c6, c7, c8, c9, c10, c11, c12, c13, c14, c15, c16, c17, c18, c19, rfl⟩ := list20 hl
  obtain ⟨y0, y1, y2, y3, y4, rfl⟩ := list5 hxl
  have h0 : DataW.trod enc Try.prog W 0 (fun _ => true) true m 30 (([c0, c1, c2, c3, c4, c5, c6, c7, c8, c9, c10, c11, c12, c13, c14, c15, c16, c17, c18, c19].drop 0).take (Try.prog.cellsOf 30)) = some y0 := hf 0 _ rfl
  have h1 : DataW.trod enc Try.prog W 0 (fun _ => true) true m 9 (([c0, c1, c2, c3, c4, c5, c6, c7, c8, c9, c10, c11, c12, c13, c14, c15, c16, c17, c18, c19].drop 16).take (Try.prog.cellsOf 9)) = some y1 := hf 1 _ rfl
  have h2 : DataW.trod enc Try.prog W 0 (fun _ => true) true m 3 (([c0, c1, c2, c3, c4, c5, c6, c7, c8, c9, c10, c11, c12, c13, c14, c15, c16, c17, c18, c19].drop 17).take (Try.prog.cellsOf 3)) = some y2 := hf 2 _ rfl
  have h3 : DataW.trod enc Try.prog W 0 (fun _ => true) true m 3 (([c0, c1, c2, c3, c4, c5, c6, c7, c8, c9, c10, c11, c12, c13, c14, c15, c16, c17, c18, c19].drop 18).take (Try.prog.cellsOf 3)) = some y3 := hf 3 _ rfl
  have h4 : DataW.trod enc Try.prog W 0 (fun _ => true) true m 3 (([c0, c1, c2, c3, c4, c5, c6, c7, c8, c9, c10, c11, c12, c13, c14, c15, c16, c17, c18, c19].drop 19).take (Try.prog.cellsOf 3)) = some y4 := hf 4 _ rfl
  rw [cellsCentral] at h0
  rw [show Try.prog.cellsOf 3 = 1 by kernel_rfl] at h2 h3 h4
  rw [show Try.prog.cellsOf 9 = 1 by kernel_rfl] at h1
  simp only [List.drop, List.take] at h0 h1 h2 h3 h4
  obtain ⟨k1, e1, q1, _⟩ := DataW.trod_string Try.underlying9 h1
  obtain ⟨k2, e2, _, q2⟩ := DataW.trod_int Try.underlying3 h2
  obtain ⟨k3, e3, _, q3⟩ := DataW.trod_int Try.underlying3 h3
  obtain ⟨k4, e4, _, q4⟩ := DataW.trod_int Try.underlying3 h4
  obtain ⟨lc, hlc, hld⟩ := open_centralC h0
  simp at e1 e2 e3 e4
  subst e1 e2 e3 e4
  obtain ⟨⟨l0, l1, l2, l3, l4, l5, l6, l7, l8, l9⟩, l10, l11, l12, l13, l14, l15⟩ := lc
  simp only [Cen.cs, List.cons.injEq, and_true] at hlc
  obtain ⟨rfl, rfl, rfl, rfl, rfl, rfl, rfl, rfl, rfl, rfl, rfl, rfl, rfl, rfl, rfl, rfl⟩ := hlc
  exact ⟨⟨⟨⟨l0, l1, l2, l3, l4, l5, l6, l7, l8, l9⟩, l10, l11, l12, l13, l14, l15⟩, k1, k2, k3, k4⟩, rfl, i64_in q2, i64_in q3, i64_in q4⟩

/-- A list of entries that is handed in. -/
theorem open_entries {H : Type} {enc : TypeId × Value → H} {W : World} {ao : Option Addr} {len cap : Nat} {d : DataW H} {ps : List MemPlace}
    (h : DataW.Trod enc Try.prog W 0 (fun _ => true) true 22 (.slice ao len cap) d ps) : ∃ R : List Ent, SR 20 W (.slice ao len cap) (R.map Ent.cs) ∧ ((∀ l ∈ R, EntO l) ∧ (R = [] ∨ ∃ elems spare, d = .slice elems spare ∧ elems.length = R.length)) := by
  obtain ⟨fuel, hf⟩ := h
  rcases open_slice Try.underlying22 hf with ⟨hcs, _⟩ | ⟨a, ln, cp, m, n, D, Pl, hcs, _, hl, hm, hmm, hx, hel⟩
  · simp [Value.cells] at hcs
    obtain ⟨rfl, rfl, rfl⟩ := hcs
    exact ⟨[], ⟨none, 0, rfl, Nat.le_refl _, Nat.zero_le _, fun h => absurd h (by simp)⟩, (fun (l : Ent) (hl : l ∈ ([] : List Ent)) => absurd hl (by simp)), Or.inl rfl⟩
  · simp [Value.cells] at hcs
    obtain ⟨rfl, rfl, rfl⟩ := hcs
    simp only [if_true] at hmm
    unfold maxLen at hm
    by_cases h0 : len = 0
    · subst h0
      exact ⟨[], ⟨some a, cap, rfl, Nat.zero_le _, hm, fun h => absurd h (by simp)⟩, (fun (l : Ent) (hl : l ∈ ([] : List Ent)) => absurd hl (by simp)), Or.inl rfl⟩
    have hab' : ∃ b' of', a = ⟨b', of', none⟩ ∧ b' < W.heap.size := by
      obtain ⟨cs0, hc0, ht0⟩ := hel 0 (by omega)
      rw [cellsEntry] at hc0
      obtain ⟨_, hl0, hcell0⟩ := World.cells?_some hc0
      have h0 := hcell0 0 (by omega)
      rw [List.getElem?_eq_getElem (show 0 < cs0.length by omega), show (a.add (0 * 20)).add 0 = a.add 0 by simp [Addr.add]] at h0
      obtain ⟨b', of', rfl⟩ := addr_lit h0
      refine ⟨b', of', rfl, ?_⟩
      have := World.block_lt_of_cell? _ _ h0
      rw [Addr.add_lit] at this
      exact this
    obtain ⟨b', of', rfl, hbl⟩ := hab'
    obtain ⟨R, hlo, hR⟩ := exists_list (fun i (l : Ent) => W.rangeAt b' (of' + i * 20) l.cs.toList ∧ EntO l) len (fun i hi => by
      obtain ⟨cs', hc, ht⟩ := hel i (by omega)
      obtain ⟨l, rfl, hd⟩ := open_entC ht
      rw [cellsEntry] at hc
      obtain ⟨_, _, hcell⟩ := World.cells?_some hc
      refine ⟨l, fun j u hu => ?_, hd⟩
      have hj : j < 20 := by
        have := (List.getElem?_eq_some_iff.1 hu).1
        rw [Array.length_toList] at this
        exact this
      have := hcell j hj
      rw [Addr.add_lit, Addr.add_lit] at this
      rw [this]
      exact hu)
    simp only [Prod.mk.injEq] at hx
    refine ⟨R, ⟨some ⟨b', of', none⟩, cap, by rw [List.length_map, hlo], by rw [List.length_map]; omega, hm, fun _ => ⟨b', of', rfl, hbl, fun i hi => ?_⟩⟩, fun l hl => ?_, .inr ⟨_, _, hx.1, by simp [hlo]⟩⟩
    · rw [List.length_map] at hi
      have := (hR i R[i] (by simp [hi])).1
      simpa [List.getD, hi] using this
    · obtain ⟨i, hi, rfl⟩ := List.getElem_of_mem hl
      exact (hR i _ (by simp [hi])).2

theorem reach_entries {H : Type} {ts : List TypeId} {ds : List (DataW H)} {j : Nat} {R : List Ent} {d : DataW H} (h : (DataW.weightsEach Try.prog ts ds).all (· ≤ reachBytes) = true) (ht : ts[j]? = some 22) (hd : ds[j]? = some d)
    (hl : (∀ l ∈ R, EntO l) ∧ (R = [] ∨ ∃ elems spare, d = .slice elems spare ∧ elems.length = R.length)) : R.length ≤ 733007751829 := by
  rcases hl.2 with rfl | ⟨elems, spare, rfl, hl⟩
  · simp
  · have := sized_slice h ht hd Try.underlying22
    rw [bytesEntry] at this
    simp only [reachBytes] at this
    omega

theorem open_str12 {H : Type} {enc : TypeId × Value → H} {W : World} {r : Reach} {b0 : Nat} {v : Value} {d : DataW H} {ps : List MemPlace}
    (hv : Value.okWide Try.prog W r b0 9 v) (h : DataW.Trod enc Try.prog W 0 (fun _ => true) true 9 v d ps) : ∃ s, v = .string s ∧ d = .lit (.string s.data.toList) := by
  obtain ⟨s, rfl⟩ := okWide_string Try.underlying9 hv
  obtain ⟨fuel, hf⟩ := h
  obtain ⟨s', hs, hx, _⟩ := DataW.trod_string Try.underlying9 hf
  simp [Value.cells] at hs
  subst hs
  simp only [Prod.mk.injEq] at hx
  exact ⟨s, rfl, hx.1⟩

theorem reach_str12 {H : Type} {ts : List TypeId} {ds : List (DataW H)} {j : Nat} {s : ByteArray} {d : DataW H} (h : (DataW.weightsEach Try.prog ts ds).all (· ≤ reachBytes) = true) (ht : ts[j]? = some 9) (hd : ds[j]? = some d) (hl : d = .lit (.string s.data.toList)) : s.size ≤ 140737488351232 := by
  subst hl
  have m1 := List.all_eq_true.1 h _ (DataW.weights_mem_each ht hd _ (weigh_str s _))
  have m1' : s.size ≤ reachBytes := of_decide_eq_true m1
  unfold reachBytes at m1'
  omega
end Go.Proofs.Ytmbgjkghcpkoiaa

namespace Go.Proofs.Ytmbgjkghcpkoiaa
open Go.ChangeShapes Go.WideShapes Go.ChangeAt Go.RowKit Go.Joins Go.Deep
set_option maxRecDepth 20000
set_option linter.unusedVariables false
set_option linter.unusedSimpArgs false

def ArcD (R : List Ent) (x : Int) {H : Type} (d : DataW H) : Prop := (∀ l ∈ R, EntO l) ∧ Ok64 x ∧ ∃ d0 d1 d2 d3, d = .agg [d0, d1, d2, d3] ∧ (R = [] ∨ ∃ elems spare, d0 = .slice elems spare ∧ elems.length = R.length)

/-- An archive that is handed in. -/
theorem open_arch {H : Type} {enc : TypeId × Value → H} {W : World} {r : Reach} {b0 : Nat} {v : Value} {d : DataW H} {ps : List MemPlace}
    (hv : Value.okWide Try.prog W r b0 24 v) (h : DataW.Trod enc Try.prog W 0 (fun _ => true) true 24 v d ps) :
    ∃ (u : Value) (R : List Ent) (x y : Int) (cm : ByteArray), v = .agg #[u, .int .i64 x, .int .i64 y, .string cm] ∧ SR 20 W u (R.map Ent.cs) ∧ ArcD R x d := by
  obtain ⟨c0, c1, c2, c3, y0, y1, y2, y3, m, rfl, rfl, rfl, h0, h1, h2, h3⟩ := open_agg4 Try.underlying24 (by kernel_rfl) (by kernel_rfl) hv h
  obtain ⟨k1, e1, _, q1⟩ := DataW.trod_int Try.underlying3 h1
  obtain ⟨k2, e2, _, q2⟩ := DataW.trod_int Try.underlying3 h2
  obtain ⟨k3, e3, q3, _⟩ := DataW.trod_string Try.underlying9 h3
  simp at e1 e2 e3
  subst e1 e2 e3
  obtain ⟨a, n, c, rfl⟩ : ∃ a n c, c0 = .slice a n c := by
    rcases open_slice Try.underlying22 h0 with ⟨hcs, _⟩ | ⟨a, ln, cp, m, n, D, Pl, hcs, _⟩
    · simp at hcs; exact ⟨_, _, _, hcs⟩
    · simp at hcs; exact ⟨_, _, _, hcs⟩
  obtain ⟨R, hR, ho, hd⟩ := open_entries (d := y0.1) (ps := y0.2) ⟨m, h0⟩
  exact ⟨_, R, k1, k2, k3, rfl, hR, ho, i64_in q1, _, _, _, _, rfl, hd⟩

theorem reach_arch {H : Type} {ts : List TypeId} {ds : List (DataW H)} {j : Nat} {R : List Ent} {x : Int} {d : DataW H} (h : (DataW.weightsEach Try.prog ts ds).all (· ≤ reachBytes) = true) (ht : ts[j]? = some 24) (hd : ds[j]? = some d) (hl : ArcD R x d) : R.length ≤ 733007751829 := by
  obtain ⟨_, _, d0, d1, d2, d3, rfl, hl⟩ := hl
  rcases hl with rfl | ⟨elems, spare, rfl, hl⟩
  · simp
  · have m0 : (elems.length + spare.length) * 192 ∈ (DataW.slice elems spare : DataW H).weights Try.prog 22 := by
      rw [DataW.weights, Try.underlying22]
      simp only [bytesEntry]
      exact List.mem_cons_self ..
    have m1 : (elems.length + spare.length) * 192 ∈ (DataW.agg [.slice elems spare, d1, d2, d3] : DataW H).weights Try.prog 24 := by
      rw [DataW.weights, Try.underlying24]
      exact DataW.weights_mem_each (j := 0) (t := 22) (d := .slice elems spare) rfl rfl _ m0
    have m3 := of_decide_eq_true (List.all_eq_true.1 h _ (DataW.weights_mem_each ht hd _ m1))
    simp only [reachBytes] at m3
    omega
end Go.Proofs.Ytmbgjkghcpkoiaa

