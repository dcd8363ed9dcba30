import Derived.Test.YtijmmfimkibgbaaGOws
namespace Go.Proofs.Ytijmmfimkibgbaa
open Go.RowKit Go.Maps
set_option maxRecDepth 20000
set_option linter.unusedVariables false
set_option linter.unusedSimpArgs false

abbrev Sl := Nat × Nat × List Int
def vOf (t : Sl) : Value := .slice (some ⟨t.1, 0, none⟩) t.2.2.length t.2.1
def cnt (t : Sl) : List Int := t.2.2

/-- A row of lists, and lists that are not yet in it. -/
structure Pnd (w0 W : World) (base : Nat) (hs : List (Nat × Array Value × TypeId)) (ls ns : List Sl) (am : Option Addr) (cm : Nat) : Prop where
  own : Own w0 W hs (ls ++ ns)
  row : W.ownsRow base 31 1 (.slice am ls.length cm) ls.length (ls.map vOf)
  ap : ∀ t ∈ ls ++ ns, (Value.slice am ls.length cm).ownBlock ≠ some t.1
  hb : ∀ t ∈ hs, t.1 < base
  bs : w0.heap.size ≤ base ∧ base ≤ W.heap.size

theorem Pnd.low {w0 W W' : World} {base : Nat} {hs : List (Nat × Array Value × TypeId)} {ls ns : List Sl} {am : Option Addr} {cm : Nat} (h : Pnd w0 W base hs ls ns am cm) (hb : Below W.heap.size W W') : Pnd w0 W' base hs ls ns am cm :=
  ⟨h.own.low hb, ownsRow_move h.row fun k hk => hb.block k (World.ownsRow.lt h.row k hk).2, h.ap, h.hb, h.bs.1, Nat.le_trans h.bs.2 hb.size⟩

theorem Pnd.put {w0 W W' : World} {base : Nat} {hs : List (Nat × Array Value × TypeId)} {ls ns : List Sl} {am : Option Addr} {cm : Nat} (h : Pnd w0 W base hs ls ns am cm) (hb : Below W.heap.size W W') {g p : Nat} {l : List Int} (ho : OB W' W.heap.size (.slice (some ⟨g, 0, none⟩) l.length p) l) : Pnd w0 W' base hs ls (ns ++ [(g, p, l)]) am cm := by
  have h1 := h.low hb
  have h2 := h.own.add hb ho
  rw [List.append_assoc] at h2
  refine ⟨h2, h1.row, ?_, h.hb, h1.bs⟩
  intro t ht
  rw [← List.append_assoc, List.mem_append] at ht
  rcases ht with ht | ht
  · exact h.ap t ht
  · rw [List.mem_singleton.1 ht]
    intro e
    have h3 := (World.ownsRow.lt h.row g e).2
    have h4 := (ho.lt g rfl).1
    omega

theorem Own.keep {w0 W W' : World} {hs : List (Nat × Array Value × TypeId)} {ls : List Sl} {rb : Option Nat} (h : Own w0 W hs ls) (hbel : Below w0.heap.size w0 W') (hk : ∀ b, b < W.heap.size → rb ≠ some b → W'.heap[b]? = W.heap[b]?) (h1 : ∀ t ∈ hs, rb ≠ some t.1) (h2 : ∀ t ∈ ls, rb ≠ some t.1) : Own w0 W' hs ls := by
  refine ⟨hbel, ?_, ?_, h.ne, h.nn⟩
  · intro i g A T e
    have h3 := h.bx i g A T e
    exact ⟨(hk g (Array.getElem?_eq_some_iff.1 h3.1).1 (h1 _ (List.mem_of_getElem? e))).trans h3.1, h3.2⟩
  · intro i g p l e
    have h3 := h.sl i g p l e
    exact h3.move fun b hb => by
      have h4 := (h3.lt b hb).2
      have e2 : g = b := by simpa [Value.ownBlock] using hb
      exact hk b h4 (by rw [← e2]; exact h2 _ (List.mem_of_getElem? e))

theorem Pnd.app {w0 W w8 : World} {base : Nat} {hs : List (Nat × Array Value × TypeId)} {ls ns : List Sl} {am : Option Addr} {cm n : Nat} {v8 : Value} {O : Obj} (h : Pnd w0 W base hs ls ns am cm) (hn : ns.length = n)
    (hown : w8.ownsRow base 31 1 v8 (ls.length + n) (ls.map vOf ++ ns.map vOf)) (hgrow : (W.alloc O).grownBy w8 (Value.slice am ls.length cm).ownBlock) (hloc : v8.ownBlock = (Value.slice am ls.length cm).ownBlock ∨ v8.ownBlock = some (W.alloc O).heap.size) :
    ∃ am' cm', v8 = .slice am' (ls ++ ns).length cm' ∧ Pnd w0 w8 base hs (ls ++ ns) [] am' cm' := by
  subst hn
  have hs8 := hgrow.size
  rw [size_alloc'] at hs8
  have hlt := fun k hk => World.ownsRow.lt h.row k hk
  have hbel : Below w0.heap.size w0 w8 := (h.own.bel.alloc h.own.bel.size O).grown hgrow (Nat.le_trans h.own.bel.size (by rw [size_alloc']; omega)) (fun k hk => Nat.le_trans h.bs.1 (hlt k hk).1)
  have hkeep : ∀ b, b < W.heap.size → (Value.slice am ls.length cm).ownBlock ≠ some b → w8.heap[b]? = W.heap[b]? := fun b hb hne => (hgrow.block b (by rw [size_alloc']; omega) (fun e => hne e.symm)).trans (Below.heap_alloc _ _ b hb)
  have hO : Own w0 w8 hs (ls ++ ns) := h.own.keep hbel hkeep (fun t ht e => by have := (hlt _ e).1; have := h.hb t ht; omega) h.ap
  obtain ⟨am', cm', hv⟩ : ∃ a c, v8 = .slice a (ls ++ ns).length c := by
    rcases hown.2 with ⟨e1, e2⟩ | ⟨g, cap, cur, e1, -⟩
    · exact ⟨none, 0, by rw [e1, List.length_append, e2]⟩
    · exact ⟨_, cap, by rw [e1, List.length_append]⟩
  subst hv
  refine ⟨am', cm', rfl, ⟨by rw [List.append_nil]; exact hO, by rw [List.map_append, List.length_append] at *; exact hown, ?_, h.hb, h.bs.1, by have := h.bs.2; omega⟩⟩
  intro t ht e
  rw [List.append_nil] at ht
  rcases hloc with e2 | e2
  · exact h.ap t ht (e2.symm.trans e)
  · rw [e2, size_alloc'] at e
    obtain ⟨i, hi⟩ := List.getElem?_of_mem ht
    have h3 := ((h.own.sl i t.1 t.2.1 t.2.2 hi).lt t.1 rfl).2
    simp at e
    omega

theorem cells_new (w : World) (A : List Value) (t : TypeId) : ∀ j u, A[j]? = some u → (w.alloc (.cells A.toArray t)).cell? ((⟨w.heap.size, 0, none⟩ : Addr).add j) = some u := by
  intro j u hj
  rw [Addr.add_lit, Nat.zero_add, box_cells (heap_alloc_new w _) j]
  simpa using hj

theorem Pnd.first {w0 W : World} {base : Nat} {hs : List (Nat × Array Value × TypeId)} {ls ns : List Sl} {am : Option Addr} {cm : Nat} (h : Pnd w0 W base hs ls ns am cm) (hl : 0 < ls.length) : ∃ gR, am = some ⟨gR, 0, none⟩ ∧ ls.length ≤ cm ∧ cm ≤ 9223372036854775807 ∧ ∀ j t, ls[j]? = some t → W.cell? ⟨gR, j, none⟩ = some (vOf t) := by
  rcases h.row.2 with ⟨e1, e2⟩ | ⟨g, cap, cur, e1, e2, e3, e4, e5, -⟩
  · omega
  · simp only [Value.slice.injEq] at e1
    obtain ⟨rfl, -, rfl⟩ := e1
    unfold maxLen at e5
    refine ⟨g, rfl, e4, e5, fun j t hj => ?_⟩
    have := World.ownsRow.cells h.row (g := g) rfl j (vOf t) (by rw [List.getElem?_map, hj]; rfl)
    rw [Addr.add_lit] at this
    simpa using this

def lsV (ls : List Sl) : List (Value × List Int) := ls.map fun t => (vOf t, t.2.2)

theorem lsV_get {ls : List Sl} {j : Nat} {p : Value × List Int} (h : (lsV ls)[j]? = some p) : ∃ t, ls[j]? = some t ∧ p = (vOf t, t.2.2) := by
  unfold lsV at h
  rw [List.getElem?_map] at h
  cases e : ls[j]? with
  | none => rw [e] at h; simp at h
  | some t => rw [e] at h; simp at h; exact ⟨t, rfl, h.symm⟩

theorem Pnd.lists {w0 W : World} {base : Nat} {hs : List (Nat × Array Value × TypeId)} {ls : List Sl} {am : Option Addr} {cm : Nat} (h : Pnd w0 W base hs ls [] am cm) (hl : 0 < ls.length) (hm : ls.length ≤ 100) (hc : ∀ t ∈ ls, t.2.2.length ≤ 200000) : ∃ gR, am = some ⟨gR, 0, none⟩ ∧ Lists W w0.heap.size (lsV ls) gR := by
  obtain ⟨gR, rfl, -, -, hcell⟩ := h.first hl
  have ho := h.own
  rw [List.append_nil] at ho
  have hap := h.ap
  rw [List.append_nil] at hap
  refine ⟨gR, rfl, ⟨?_, ?_, ?_, ?_, by rw [lsV, List.length_map]; exact hm, ?_, h.own.bel.size⟩⟩
  · intro j p hp
    obtain ⟨t, ht, rfl⟩ := lsV_get hp
    exact ho.sl j t.1 t.2.1 t.2.2 ht
  · intro i j p q hp hq hn k hk
    obtain ⟨t, ht, rfl⟩ := lsV_get hp
    obtain ⟨u, hu, rfl⟩ := lsV_get hq
    have h1 := ho.nn i j t.1 u.1 t.2.1 u.2.1 t.2.2 u.2.2 ht hu hn
    intro e
    simp [vOf, Value.ownBlock] at hk e
    omega
  · intro j p hp
    obtain ⟨t, ht, rfl⟩ := lsV_get hp
    exact hcell j t ht
  · intro p hp
    obtain ⟨j, hj⟩ := List.getElem?_of_mem hp
    obtain ⟨t, ht, rfl⟩ := lsV_get hj
    have h1 := hap t (List.mem_of_getElem? ht)
    intro e
    simp [vOf, Value.ownBlock] at e h1
    omega
  · intro p hp
    obtain ⟨j, hj⟩ := List.getElem?_of_mem hp
    obtain ⟨t, ht, rfl⟩ := lsV_get hj
    exact Nat.le_trans (hc t (List.mem_of_getElem? ht)) (by omega)

theorem Pnd.kept {w0 W W' : World} {base : Nat} {hs : List (Nat × Array Value × TypeId)} {ls : List Sl} {am : Option Addr} {cm : Nat} (h : Pnd w0 W base hs ls [] am cm) (hk : Keep (lsV ls) W W') : Below w0.heap.size w0 W' := by
  have ho := h.own
  rw [List.append_nil] at ho
  have hb := h.own.bel
  refine ⟨hk.os.trans hb.os, hk.tape.trans hb.tape, hk.output.trans hb.output, Nat.le_trans hb.size hk.size, fun k hkl => ?_⟩
  refine (hk.block k (Nat.lt_of_lt_of_le hkl hb.size) ?_).trans (hb.block k hkl)
  intro p hp e
  obtain ⟨j, hj⟩ := List.getElem?_of_mem hp
  obtain ⟨t, ht, rfl⟩ := lsV_get hj
  have := ((ho.sl j t.1 t.2.1 t.2.2 ht).lt t.1 rfl).1
  simp [vOf, Value.ownBlock] at e
  omega

theorem cnt_twice {ls : List Sl} {CS : List (List Int)} (h : ls.map cnt = CS ++ CS) (hl : CS.length = 5) {j : Nat} (hj : j < 5) : ∃ t u, ls[j]? = some t ∧ ls[j + 5]? = some u ∧ u.2.2 = t.2.2 ∧ t.2.2 ∈ CS := by
  have h10 : ls.length = 10 := by have := congrArg List.length h; simp at this; omega
  refine ⟨ls[j], ls[j + 5], by simp [show j < ls.length by omega], by simp [show j + 5 < ls.length by omega], ?_⟩
  have e1 : (ls.map cnt)[j]? = some (cnt ls[j]) := by rw [List.getElem?_map, List.getElem?_eq_getElem (by omega)]; rfl
  have e2 : (ls.map cnt)[j + 5]? = some (cnt ls[j + 5]) := by rw [List.getElem?_map, List.getElem?_eq_getElem (by omega)]; rfl
  rw [h, List.getElem?_append_left (by omega)] at e1
  rw [h, List.getElem?_append_right (by omega), hl, Nat.add_sub_cancel, e1] at e2
  exact ⟨(Option.some.inj e2).symm, List.mem_of_getElem? e1⟩

theorem putsD (l : Loc) (ok : l.Ok) (hf : fitI (loI l)) (b : Bool) : Puts 31 #[.agg l.cs, .bool b] (rowI (dsI l b)) := by
  refine puts_of ?_ (by cases b <;> simp [dsI, dsT, rowI, itB, length_bytesLE]) (fun w => putDescriptor_any l ok b w)
  have h1 : fitI (dsT l) := by
    unfold dsT
    iterate 3 refine fitI_cons (hf _ (by simp [loI, lcI])) ?_
    exact fitI_nil
  cases b
  · exact h1
  · exact fitI_cons (by show ¬ wide _ _; unfold wide; omega) h1

theorem ds_size (l : Loc) (b : Bool) : 12 ≤ (rowI (dsI l b)).length ∧ (rowI (dsI l b)).length ≤ 200000 := by
  cases b <;> simp [dsI, dsT, rowI, itB, length_bytesLE]

def othE : Enr := ⟨0, 0, 0, 0, 0, 0, ⟨#[111, 116, 104, 101, 114]⟩⟩

theorem putsO : ∃ Y : List Int, Y.length = 27 ∧ Puts 7 #[.agg #[.int .i64 0, .int .i64 0, .int .i64 0, .int .i64 0, .int .i64 0, .int .i64 0, .string ⟨#[111, 116, 104, 101, 114]⟩]] Y :=
  ⟨rowI (enI othE), by rw [enI_row]; rfl, putsE othE (by constructor <;> first | (unfold Ok64; decide) | decide) (by decide)⟩
end Go.Proofs.Ytijmmfimkibgbaa

