import Derived.Test.YtaeifigbnlffbaaDoorG22Tpy
import Derived.Laws.MakeOwn
namespace Go.Proofs.YtaeifigbnlffbaaDoor
open Go.RowKit Go.Maps
set_option maxRecDepth 20000
set_option linter.unusedVariables false
set_option linter.unusedSimpArgs false

/-! Rows of files that one owns; the law's twin. -/

def frow (L : List Fv) : List Value := (L.map fun p => (fcs p.1 p.2).toList).flatten

theorem fcs_len (f : Fl) (dv : Value) : (fcs f dv).toList.length = 10 := rfl

theorem frow_cons (p : Fv) (L : List Fv) : frow (p :: L) = (fcs p.1 p.2).toList ++ frow L := rfl

theorem frow_len (L : List Fv) : (frow L).length = L.length * 10 := by
  induction L with
  | nil => rfl
  | cons p L ih => rw [frow_cons, List.length_append, fcs_len, ih, List.length_cons]; omega

theorem frow_get : ∀ (L : List Fv) (i j : Nat) (p : Fv) (u : Value), L[i]? = some p → (fcs p.1 p.2)[j]? = some u → (frow L)[i * 10 + j]? = some u
  | [], i, j, p, u, h, _ => by simp at h
  | q :: L, 0, j, p, u, h, hu => by
    simp at h
    subst h
    have hj : j < (fcs q.1 q.2).toList.length := by
      have := (Array.getElem?_eq_some_iff.1 hu).1
      simpa using this
    rw [frow_cons, Nat.zero_mul, Nat.zero_add, List.getElem?_append_left hj, Array.getElem?_toList]
    exact hu
  | q :: L, i + 1, j, p, u, h, hu => by
    have := frow_get L i j p u (by simpa using h) hu
    rw [frow_cons, List.getElem?_append_right (by rw [fcs_len]; omega), fcs_len, show (i + 1) * 10 + j - 10 = i * 10 + j by omega]
    exact this

theorem frow_set : ∀ (L : List Fv) (i : Nat) (f : Fl) (dv u : Value), L[i]? = some (f, dv) → (frow L).set (i * 10 + 9) u = frow (L.set i (f, u))
  | [], i, f, dv, u, h => by simp at h
  | q :: L, 0, f, dv, u, h => by
    simp at h
    subst h
    rw [frow_cons, Nat.zero_mul, Nat.zero_add, List.set_append_left 9 u (by rw [fcs_len]; omega), List.set_cons_zero, frow_cons]
    rfl
  | q :: L, i + 1, f, dv, u, h => by
    have := frow_set L i f dv u (by simpa using h)
    rw [frow_cons, List.set_append_right ((i + 1) * 10 + 9) u (by rw [fcs_len]; omega), fcs_len, show (i + 1) * 10 + 9 - 10 = i * 10 + 9 by omega, this, List.set_cons_succ, frow_cons]

theorem frow_one {L : List Fv} (h : ∀ p ∈ L, p.2.oneCell' = true) : ∀ v ∈ frow L, v.oneCell' = true := by
  intro v hv
  unfold frow at hv
  rw [List.mem_flatten] at hv
  obtain ⟨l, hl, hv⟩ := hv
  obtain ⟨p, hp, rfl⟩ := List.mem_map.1 hl
  unfold fcs at hv
  simp only [List.mem_cons, List.not_mem_nil, or_false] at hv
  rcases hv with rfl | rfl | rfl | rfl | rfl | rfl | rfl | rfl | rfl | rfl <;> first | rfl | exact h _ hp

def BF (w : World) (g : Nat) (L : List Fv) : Prop := w.heap[g]? = some (.cells (frow L).toArray 39 (0, 0))

theorem BF.cell {w : World} {g : Nat} {L : List Fv} (h : BF w g L) {i j : Nat} {p : Fv} {u : Value} (hp : L[i]? = some p) (hu : (fcs p.1 p.2)[j]? = some u) : w.cell? ⟨g, i * 10 + j, none⟩ = some u := by
  unfold World.cell?
  rw [h]
  simp [frow_get L i j p u hp hu]

theorem BF.set {w : World} {g : Nat} {L : List Fv} (h : BF w g L) {i : Nat} {f : Fl} {dv : Value} (hp : L[i]? = some (f, dv)) (u : Value) : BF (w.setCell ⟨g, i * 10 + 9, none⟩ u) g (L.set i (f, u)) := by
  show _ = _
  rw [heap_setCell_same w g _ _ _ u h, ← frow_set L i f dv u hp]
  simp

theorem infoFile : (Tryd.prog.info? 39).map (fun i => (i.zero.isSome, i.size, i.bytes)) = some (true, 10, 128) := by kernel_rfl

theorem file_parts : ∃ i z, Tryd.prog.info? 39 = some i ∧ i.zero = some z ∧ i.size = 10 ∧ i.bytes = 128 := by
  have h := infoFile
  cases hi : Tryd.prog.info? 39 with
  | none => rw [hi] at h; cases h
  | some i =>
    rw [hi] at h
    simp only [Option.map_some, Option.some.injEq, Prod.mk.injEq] at h
    obtain ⟨h1, h2, h3⟩ := h
    cases hz : i.zero with
    | none => rw [hz] at h1; cases h1
    | some z => exact ⟨i, z, rfl, hz, h2, h3⟩

theorem wpList_mkF {w : World} {ops : Array Oper} {rest : List Oper} {o : Oper} {a : Act} {Q : Exit → Act → World → Prop} (hg : o.guard = none) (l c : Operand) (hop : o.op = Op.makeSlice 23 l c) (n : Nat)
    (hl : a.eval l = .int .i64 n) (hc : a.eval c = .int .i64 n) (hn : n ≤ 1000000)
    (hK : ∀ w' Z, w'.heap[w.heap.size]? = some (.cells Z 39 (0, 0)) → Z.size = n * 10 → Below w.heap.size w w' → wpList Tryd.prog ops Q rest (a.put o.dst (.slice (some ⟨w.heap.size, 0, none⟩) n n)) w') :
    wpList Tryd.prog ops Q (o :: rest) a w := by
  obtain ⟨i0, z, hi, hz0, hz1, hz2⟩ := file_parts
  refine wpList_plain hg fun K hK' => ?_
  have hr := run_make (P := Tryd.prog) w 23 39 i0 z Tryd.underlying23 hi hz0 .i64 .i64 (n : Int) (n : Int) (by omega) (by omega) (by rw [hz2]; omega) (by omega)
  unfold Oper.wp
  simp [execOp, hop, hl, hc, hr, Result.andThen]
  refine hK' _ _ (hK _ _ (heap_alloc_new _ _) ?_ ((Below.refl _ _).alloc (Nat.le_refl _) _))
  rw [size_madeCells, hz1]

theorem frow_inv {L : List Fv} {j : Nat} {u : Value} (h : (frow L)[j]? = some u) : ∃ p, L[j / 10]? = some p ∧ (fcs p.1 p.2)[j % 10]? = some u := by
  have hj := (List.getElem?_eq_some_iff.1 h).1
  rw [frow_len] at hj
  obtain ⟨p, hp⟩ : ∃ p, L[j / 10]? = some p := ⟨L[j / 10]'(by omega), by simp⟩
  obtain ⟨u', hu'⟩ : ∃ u', (fcs p.1 p.2)[j % 10]? = some u' := ⟨(fcs p.1 p.2)[j % 10]'(by show j % 10 < 10; omega), by simp⟩
  have := frow_get L (j / 10) (j % 10) p u' hp hu'
  rw [show j / 10 * 10 + j % 10 = j by omega, h] at this
  cases this
  exact ⟨p, hp, hu'⟩

theorem RF.src {w : World} {v : Value} {L : List Fv} (h : RF w v L) (hL : 0 < L.length) : ∃ b o c, v = .slice (some ⟨b, o, none⟩) L.length c ∧ ∀ j u, (frow L)[j]? = some u → w.cell? ((⟨b, o, none⟩ : Addr).add j) = some u := by
  obtain ⟨b, o, c, e, -⟩ := h.get 0 (L[0]'hL) (by simp)
  refine ⟨b, o, c, e, fun j u hj => ?_⟩
  obtain ⟨p, hp, hu⟩ := frow_inv hj
  obtain ⟨b', o', c', e', hc⟩ := h.get _ p hp
  rw [e] at e'
  simp only [Value.slice.injEq, Option.some.injEq, Addr.mk.injEq] at e'
  obtain ⟨⟨rfl, rfl, -⟩, -, -⟩ := e'
  have := hc _ _ hu
  rw [Addr.add_lit, ← this]
  congr 2
  omega

theorem run_copyF (w : World) (ty : TypeId) (g c : Nat) (L : List Fv) (Z : Array Value) (hg : w.heap[g]? = some (.cells Z 39 (0, 0))) (hZ : Z.size = L.length * 10) (vs : Value) (h : RF w vs L) :
    ∃ w', (Builtin.copy_ #[23, 23] ty #[.slice (some ⟨g, 0, none⟩) L.length c, vs]).run Tryd.prog w = .ok (goInt L.length) w' ∧ BF w' g L ∧ w.grownBy w' (some g) := by
  obtain ⟨i, z, hi, hz0, hz1, hz2⟩ := file_parts
  by_cases h0 : L.length = 0
  · obtain rfl : L = [] := List.eq_nil_of_length_eq_zero h0
    obtain ⟨ao, cs, rfl, -⟩ := h.shape
    have hZ0 : Z = #[] := Array.eq_empty_of_size_eq_zero (by simpa using hZ)
    refine ⟨w, ?_, by show _ = _; rw [hg, hZ0]; rfl, ⟨rfl, rfl, rfl, Nat.le_refl _, fun _ _ _ => rfl⟩⟩
    cases ao with
    | none => simp [Builtin.copy_, run_underlying Tryd.underlying23, Builtin.lenOf, Builtin.firstCells, sizeOf, typeInfo, hi, storeCells]
    | some a =>
      have hl := run_loadCells_list (P := Tryd.prog) w a [] (fun j u hj => by simp at hj)
      simp at hl
      simp [Builtin.copy_, run_underlying Tryd.underlying23, Builtin.lenOf, Builtin.firstCells, sizeOf, typeInfo, hi, storeCells, hl]
  · obtain ⟨b, o, cs, rfl, hsrc⟩ := h.src (by omega)
    have hone : ∀ v ∈ frow L, v.oneCell' = true := frow_one fun p hp => by
      obtain ⟨_, _, e, -⟩ := h.data p hp
      rw [e]; rfl
    have hl := run_loadCells_list (P := Tryd.prog) w ⟨b, o, none⟩ (frow L) hsrc
    have hst := run_storeCells_at Tryd.prog g 0 39 (frow L) 0 Z w hg (by rw [frow_len, hZ]; omega) hone
    rw [frow_len] at hl
    have hd : Z.toList.drop (frow L).length = [] := List.drop_eq_nil_of_le (by rw [frow_len, Array.length_toList, hZ]; omega)
    simp only [Nat.add_zero, Nat.zero_add, List.take_zero, List.nil_append, hd, List.append_nil] at hst
    refine ⟨w.setRow g (frow L).toArray, by simp [Builtin.copy_, run_underlying Tryd.underlying23, Builtin.lenOf, Builtin.firstCells, sizeOf, typeInfo, hi, hz1, hl, hst], ?_, ⟨rfl, rfl, rfl, by simp, fun k _ hk => setRow_other w g k _ (fun e => hk (by rw [e]))⟩⟩
    show _ = _
    rw [setRow_heap w g _ _ 39 _ hg]

theorem wpList_copyF {w : World} {ops : Array Oper} {rest : List Oper} {o : Oper} {a : Act} {Q : Exit → Act → World → Prop} (hgd : o.guard = none) (d s : Operand)
    (ho : o.op = .call { callee := .builtin .copy, args := #[d, s], argTypes := #[23, 23] }) (g c : Nat) (L : List Fv) (Z : Array Value) (hg : w.heap[g]? = some (.cells Z 39 (0, 0))) (hZ : Z.size = L.length * 10)
    (hd : a.eval d = .slice (some ⟨g, 0, none⟩) L.length c) (vs : Value) (hs : a.eval s = vs) (h : RF w vs L)
    (hK : ∀ w', BF w' g L → w.grownBy w' (some g) → wpList Tryd.prog ops Q rest (a.put o.dst (goInt L.length)) w') : wpList Tryd.prog ops Q (o :: rest) a w := by
  refine wpList_plain hgd fun K hK' => ?_
  obtain ⟨w', hr, h2, h3⟩ := run_copyF w o.type g c L Z hg hZ vs h
  unfold Oper.wp
  simp [execOp, ho, resolve, invoke, builtin, hd, hs, hr, Result.andThen]
  exact hK' _ _ (hK w' h2 h3)
end Go.Proofs.YtaeifigbnlffbaaDoor

