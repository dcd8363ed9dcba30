import Derived.Test.YtjdgeonlbjokaaaGTly
import Derived.Test.YtjdgeonlbjokaaaGRg9
namespace Go.Proofs.Ytjdgeonlbjokaaa
open Go.RowKit Go.Maps
set_option maxRecDepth 20000
set_option linter.unusedVariables false

/-- A token's three cells. -/
def tkc (t : Tk) : Array Value := #[.int .i64 t.1, .int .i64 t.2.1, .int .u8 t.2.2]

/-- A pair as a token. -/
def tk2 (s : Nat × Nat) : Tk := ((s.1 : Int), (s.2 : Int), 0)

/-- The world behind a store of a token. -/
def put3 (w : World) (r : Nat) (t : Tk) : World := ((w.setCell ⟨r, 0, none⟩ (.int .i64 t.1)).setCell ⟨r, 1, none⟩ (.int .i64 t.2.1)).setCell ⟨r, 2, none⟩ (.int .u8 t.2.2)

theorem put3_at {w : World} {r : Nat} {u : Tk} (t : Tk) (h : w.heap[r]? = some (.cells (tkc u) 38 (0, 0))) : (put3 w r t).heap[r]? = some (.cells (tkc t) 38 (0, 0)) := by
  unfold put3
  rw [heap_setCell_at _ (heap_setCell_at _ (heap_setCell_at _ h))]
  rfl

theorem put3_ne (w : World) (r : Nat) (t : Tk) {b : Nat} (hb : b ≠ r) : (put3 w r t).heap[b]? = w.heap[b]? := by
  unfold put3
  rw [setCell_others _ _ _ _ b hb, setCell_others _ _ _ _ b hb, setCell_others _ _ _ _ b hb]

theorem put3_size (w : World) (r : Nat) (t : Tk) : (put3 w r t).heap.size = w.heap.size := by
  unfold put3
  rw [size_setCell, size_setCell, size_setCell]

theorem put3_same (w : World) (r : Nat) (t : Tk) : (put3 w r t).os = w.os ∧ (put3 w r t).tape = w.tape ∧ (put3 w r t).output = w.output := ⟨rfl, rfl, rfl⟩

theorem tkc_cells {w : World} {r : Nat} {t : Tk} (h : w.heap[r]? = some (.cells (tkc t) 38 (0, 0))) : w.cell? ⟨r, 0, none⟩ = some (.int .i64 t.1) ∧ w.cell? ⟨r, 1, none⟩ = some (.int .i64 t.2.1) ∧ w.cell? ⟨r, 2, none⟩ = some (.int .u8 t.2.2) ∧ w.frozen? ⟨r, 0, none⟩ = false ∧ w.frozen? ⟨r, 1, none⟩ = false ∧ w.frozen? ⟨r, 2, none⟩ = false :=
  ⟨cellIn h rfl, cellIn h rfl, cellIn h rfl, frozenIn h, frozenIn h, frozenIn h⟩

/-- Within a round of 'tell': the teller, what is put off (in gA), the token (in the box that the round has made). -/
structure Mid (w0 w : World) (base g m : Nat) (v : Value) (D : List Int) (W C : Nat) (z : Bool) (f0 f : Int × Int × Int → Value) (nx gA : Nat) (s t : Tk) : Prop where
  tl : Tlx w base g m v D W C z f nx
  bel : Below base w0 w
  ft : ∀ b, b < w0.heap.size → ¬ TelB g m v f0 b → b ≠ gA → w.heap[b]? = w0.heap[b]? ∧ ¬ TelB g m v f b
  sz : w0.heap.size < w.heap.size
  ah : w.heap[gA]? = some (.cells (tkc s) 38 (0, 0))
  tk : w.heap[w0.heap.size]? = some (.cells (tkc t) 38 (0, 0))
  fA : ¬ TelB g m v f gA
  f6 : ¬ TelB g m v f w0.heap.size

theorem Mid.call {w0 w w' : World} {base g m W C nx nx' gA : Nat} {v : Value} {D : List Int} {z : Bool} {f0 f f' : Int × Int × Int → Value} {s t : Tk} (h : Mid w0 w base g m v D W C z f0 f nx gA s t) (hA : gA < w0.heap.size)
    (ht : Tlx w' base g m v D W C z f' nx') (hb : Below base w w') (hf : FT g m f f' w w') : Mid w0 w' base g m v D W C z f0 f' nx' gA s t where
  tl := ht
  bel := h.bel.trans hb
  ft := fun b h1 h2 h3 => by
    obtain ⟨e1, e2⟩ := h.ft b h1 h2 h3
    obtain ⟨e3, e4⟩ := hf.stranger (Nat.lt_trans h1 h.sz) e2
    exact ⟨e3.trans e1, e4⟩
  sz := Nat.lt_of_lt_of_le h.sz hf.1
  ah := (hf.stranger (Nat.lt_trans hA h.sz) h.fA).1.trans h.ah
  tk := (hf.stranger h.sz h.f6).1.trans h.tk
  fA := (hf.stranger (Nat.lt_trans hA h.sz) h.fA).2
  f6 := (hf.stranger h.sz h.f6).2

theorem Tlx.store {w : World} {base g m W C nx r : Nat} {v : Value} {D : List Int} {z : Bool} {f : Int × Int × Int → Value} (h : Tlx w base g m v D W C z f nx) (t : Tk) (hr : base ≤ r) (hn : ¬ TelB g m v f r) : Tlx (put3 w r t) base g m v D W C z f nx :=
  Tlr.apart h (fun b hb => put3_ne w r t hb) (fun e => hn (.inl e.symm)) (fun e => hn (.inr (.inl e.symm))) hr (fun k hk e => hn (.inr (.inr (.inr ⟨k, hk, e⟩))))

theorem below_put3 {w0 w : World} {base r : Nat} (h : Below base w0 w) (t : Tk) (hr : base ≤ r) : Below base w0 (put3 w r t) :=
  ⟨h.os, h.tape, h.output, by rw [put3_size]; exact h.size, fun b hb => (put3_ne w r t (by omega)).trans (h.block b hb)⟩

theorem Mid.set6 {w0 w : World} {base g m W C nx gA : Nat} {v : Value} {D : List Int} {z : Bool} {f0 f : Int × Int × Int → Value} {s t : Tk} (h : Mid w0 w base g m v D W C z f0 f nx gA s t) (hA : gA < w0.heap.size) (hb : base ≤ w0.heap.size) (t' : Tk) : Mid w0 (put3 w w0.heap.size t') base g m v D W C z f0 f nx gA s t' where
  tl := h.tl.store t' hb h.f6
  bel := below_put3 h.bel t' hb
  ft := fun b h1 h2 h3 => ⟨(put3_ne _ _ _ (by omega)).trans (h.ft b h1 h2 h3).1, (h.ft b h1 h2 h3).2⟩
  sz := by rw [put3_size]; exact h.sz
  ah := (put3_ne _ _ _ (by omega)).trans h.ah
  tk := put3_at t' h.tk
  fA := h.fA
  f6 := h.f6

theorem Mid.setA {w0 w : World} {base g m W C nx gA : Nat} {v : Value} {D : List Int} {z : Bool} {f0 f : Int × Int × Int → Value} {s t : Tk} (h : Mid w0 w base g m v D W C z f0 f nx gA s t) (hA : gA < w0.heap.size) (hb : base ≤ gA) (s' : Tk) : Mid w0 (put3 w gA s') base g m v D W C z f0 f nx gA s' t where
  tl := h.tl.store s' hb h.fA
  bel := below_put3 h.bel s' hb
  ft := fun b h1 h2 h3 => ⟨(put3_ne _ _ _ h3).trans (h.ft b h1 h2 h3).1, (h.ft b h1 h2 h3).2⟩
  sz := by rw [put3_size]; exact h.sz
  ah := put3_at s' h.ah
  tk := (put3_ne _ _ _ (by omega)).trans h.tk
  fA := h.fA
  f6 := h.f6

theorem Mid.drew {w0 w : World} {base g m W C nx gA : Nat} {v : Value} {D : List Int} {z : Bool} {f0 f : Int × Int × Int → Value} {s t : Tk} (h : Mid w0 w base g m v D W C z f0 f nx gA s t) : Mid w0 w.drew base g m v D W C z f0 f nx gA s t :=
  ⟨Tlr.far h.tl (Below.refl _ _).drew, h.bel.drew, h.ft, h.sz, h.ah, h.tk, h.fA, h.f6⟩

/-- What lies outside the iterator's blocks stays. -/
structure Mv (S : Nat → Prop) (w w' : World) : Prop where
  os : w'.os = w.os
  tape : w'.tape = w.tape
  output : w'.output = w.output
  size : w.heap.size ≤ w'.heap.size
  blk : ∀ b, b < w.heap.size → ¬ S b → w'.heap[b]? = w.heap[b]?

/-- The iterator's blocks, with all that it has made. -/
def grw (S : Nat → Prop) (w w' : World) (b : Nat) : Prop := S b ∨ (w.heap.size ≤ b ∧ b < w'.heap.size)

/-- Ahead of a round of 'tell': k tokens have been told, up to the place i; J is the caller's. -/
structure Tst (J : Nat → (Nat → Prop) → World → Prop) (w : World) (base g m : Nat) (v : Value) (D : List Int) (W C : Nat) (z : Bool) (f : Int × Int × Int → Value) (nx gA : Nat) (s : Nat × Nat) (S : Nat → Prop) (k i : Nat) : Prop where
  tl : Tlx w base g m v D W C z f nx
  nxi : nx ≤ i
  ah : w.heap[gA]? = some (.cells (tkc (tk2 s)) 38 (0, 0))
  cry : Cry D W C i s
  ki : k ≤ i
  il : i ≤ D.length
  kl : k ≤ (tkl D W C z).length
  rest : (tkl D W C z).drop k = tks D W C z (D.length - k) i
  own : ∀ b, TelB g m v f b → S b ∨ v.ownBlock = some b
  sA : S gA
  bnd : ∀ b, S b → b < w.heap.size
  fA : ¬ TelB g m v f gA
  bA : base ≤ gA
  j : J k S w

theorem tel_lt {w : World} {base g m W C nx : Nat} {v : Value} {D : List Int} {z : Bool} {f : Int × Int × Int → Value} (h : Tlx w base g m v D W C z f nx) {b : Nat} (hb : TelB g m v f b) (hbw : base ≤ w.heap.size) : b < w.heap.size := by
  rcases hb with e | e | e | ⟨k, hk, e⟩
  · rw [e]; exact h.lt.1
  · rw [e]; exact h.lt.2
  · exact Nat.lt_of_lt_of_le (h.low b e) hbw
  · exact ((h.rows k hk).lt b e).2

theorem Tst.lt {J : Nat → (Nat → Prop) → World → Prop} {w : World} {base g m W C nx gA k i : Nat} {v : Value} {D : List Int} {z : Bool} {f : Int × Int × Int → Value} {s : Nat × Nat} {S : Nat → Prop} (h : Tst J w base g m v D W C z f nx gA s S k i) : gA < w.heap.size ∧ base ≤ w.heap.size := by
  have h1 := h.bnd _ h.sA
  have := h.bA
  exact ⟨h1, by omega⟩

/-- The round makes its box. -/
theorem Tst.mid {J : Nat → (Nat → Prop) → World → Prop} {w : World} {base g m W C nx gA k i : Nat} {v : Value} {D : List Int} {z : Bool} {f : Int × Int × Int → Value} {s : Nat × Nat} {S : Nat → Prop} (h : Tst J w base g m v D W C z f nx gA s S k i) (t : Tk) :
    Mid w (w.alloc (.cells (tkc t) 38)) base g m v D W C z f f nx gA (tk2 s) t := by
  obtain ⟨h1, h2⟩ := h.lt
  have hb : Below w.heap.size w (w.alloc (.cells (tkc t) 38)) := (Below.refl _ _).alloc (Nat.le_refl _) _
  exact ⟨Tlr.far h.tl hb, hb.mono h2, fun b x1 x2 _ => ⟨hb.block b x1, x2⟩, by simp, (hb.block _ h1).trans h.ah, heap_alloc_new w _, h.fA, fun e => by have := tel_lt h.tl e h2; omega⟩

/-- At the round's yield. -/
theorem Tst.out {J : Nat → (Nat → Prop) → World → Prop} {w w9 : World} {base g m W C nx nx9 gA k i : Nat} {v : Value} {D : List Int} {z : Bool} {f f9 : Int × Int × Int → Value} {s : Nat × Nat} {s9 t9 : Tk} {S : Nat → Prop} (h : Tst J w base g m v D W C z f nx gA s S k i)
    (hmv : ∀ k S S' w w', J k S w → Mv S w w' → (∀ b, S b → b < w.heap.size) → (∀ b, S b → S' b) → (∀ b, S' b → (S b ∨ w.heap.size ≤ b) ∧ b < w'.heap.size) → J k S' w') (q : Mid w w9 base g m v D W C z f f9 nx9 gA s9 t9) :
    J k (grw S w w9) w9 ∧ (∀ b, grw S w w9 b → b < w9.heap.size) ∧ (∀ b, TelB g m v f9 b → grw S w w9 b ∨ v.ownBlock = some b) ∧ grw S w w9 gA := by
  obtain ⟨h1, h2⟩ := h.lt
  have hs := q.sz
  have hb : ∀ b, grw S w w9 b → b < w9.heap.size := fun b e => by
    rcases e with e | e
    · have := h.bnd b e; omega
    · exact e.2
  refine ⟨hmv k S _ w w9 h.j ⟨q.bel.os, q.bel.tape, q.bel.output, by omega, fun b x1 x2 => ?_⟩ h.bnd (fun b e => .inl e) (fun b e => ⟨e.elim .inl fun e => .inr e.1, hb b e⟩), hb, fun b e => ?_, .inl h.sA⟩
  · by_cases hv : v.ownBlock = some b
    · exact q.bel.block b (h.tl.low b hv)
    · exact (q.ft b x1 (fun e => (h.own b e).elim x2 hv) (fun e => x2 (e ▸ h.sA))).1
  by_cases hl : b < w.heap.size
  · by_cases hA : b = gA
    · left; left; rw [hA]; exact h.sA
    · by_cases ht : TelB g m v f b
      · exact (h.own b ht).elim (fun e => .inl (.inl e)) .inr
      · exact absurd e (q.ft b hl ht hA).2
  · left; right
    have := tel_lt q.tl e (by omega)
    exact ⟨by omega, this⟩

/-- Behind the round's yield. -/
theorem Tst.on {J : Nat → (Nat → Prop) → World → Prop} {w w9 wa : World} {base g m W C nx nx9 gA k i i' : Nat} {v : Value} {D : List Int} {z : Bool} {f f9 : Int × Int × Int → Value} {s s9 : Nat × Nat} {t9 : Tk} {S : Nat → Prop} (h : Tst J w base g m v D W C z f nx gA s S k i)
    (q : Mid w w9 base g m v D W C z f f9 nx9 gA (tk2 s9) t9) (hnx : nx9 ≤ i') (hc : Cry D W C i' s9) (hi : i' ≤ D.length) (hki : k + 1 ≤ i') (hkl : k < (tkl D W C z).length) (hr : (tkl D W C z).drop (k + 1) = tks D W C z (D.length - (k + 1)) i')
    (hS : ∀ b, grw S w w9 b → b < w9.heap.size) (hT : ∀ b, TelB g m v f9 b → grw S w w9 b ∨ v.ownBlock = some b) (hA : grw S w w9 gA) (hk : ∀ b, grw S w w9 b ∨ v.ownBlock = some b → wa.heap[b]? = w9.heap[b]?) (hsz : w9.heap.size ≤ wa.heap.size) (hj : J (k + 1) (grw S w w9) wa) :
    Tst J wa base g m v D W C z f9 nx9 gA s9 (grw S w w9) (k + 1) i' where
  tl := Tlr.kept q.tl fun b _ hb => hk b (hT b hb)
  nxi := hnx
  ah := (hk _ (.inl hA)).trans q.ah
  cry := hc
  ki := hki
  il := hi
  kl := hkl
  rest := hr
  own := hT
  sA := hA
  bnd := fun b hb => Nat.lt_of_lt_of_le (hS b hb) hsz
  fA := q.fA
  bA := h.bA
  j := hj

theorem drop_cons {R : List Tk} {k : Nat} {t : Tk} {l : List Tk} (h : R.drop k = t :: l) : k < R.length ∧ R.getD k tk0 = t ∧ R.drop (k + 1) = l := by
  have hk : k < R.length := by
    by_cases e : k < R.length
    · exact e
    · rw [List.drop_of_length_le (by omega)] at h; cases h
  rw [List.drop_eq_getElem_cons hk] at h
  simp only [List.cons.injEq] at h
  exact ⟨hk, by simp [hk, h.1], h.2⟩

/-- The token of a round. -/
theorem Tst.tok {J : Nat → (Nat → Prop) → World → Prop} {w : World} {base g m W C nx gA k i : Nat} {v : Value} {D : List Int} {z : Bool} {f : Int × Int × Int → Value} {s : Nat × Nat} {S : Nat → Prop} (h : Tst J w base g m v D W C z f nx gA s S k i) (hi : i < D.length) :
    k < (tkl D W C z).length ∧ (tkl D W C z).getD k tk0 = tok D W C z i ∧ (tkl D W C z).drop (k + 1) = tks D W C z (D.length - (k + 1)) (i + says (tok D W C z i)) := by
  have hr := h.rest
  have := h.ki
  rw [show D.length - k = (D.length - (k + 1)) + 1 by omega, tks_go hi] at hr
  exact drop_cons hr
end Go.Proofs.Ytjdgeonlbjokaaa

