import Derived.Test.YtjldmphfdaoecaaG07Rg6
import Derived.Test.YtjldmphfdaoecaaG09Tly
import Derived.Carry
namespace Go.Proofs.Ytjldmphfdaoecaa
open Go.RowKit
variable {F : Fence} {n : Nat} {P : Program}

theorem rooms {F : Fence} (hd : F.depth = none) (k : Nat) : F.room k := fun d h => by rw [hd] at h; cases h

theorem yield_any {F : Fence} (hd : F.depth = none) {m : Nat} (m' : Nat) {P : Program} {l : Nat} {args : Array Value} {W : World} {R : Ending → World → Prop} (h : YieldAt F m P l args W R) : YieldAt F m' P l args W R := by
  obtain ⟨fn, tmps, assign, body, hy, hR⟩ := h
  exact ⟨fn, tmps, assign, body, hy, ⟨hR.1, fun c cs _ => hR.2 c cs (rooms hd _)⟩⟩

def roundEnd3 {σ : Type} (R : σ → σ → Prop) (I : σ → Obj → World → Prop) (Ix : Code → Obj → World → Prop) (m : σ) (o : Obj) : Exit → Act → World → Prop
  | .normal, _, W => ∃ m', R m m' ∧ I m' o W
  | .ret, _, W => Ix .ret o W
  | .exit id, _, W => Ix (.exit id) o W
  | .goto t, _, W => Ix (.goto t) o W
  | .panic _, _, _ => False
  | .outgrown, _, _ => False

theorem wp_range3 {α σ : Type} (R : σ → σ → Prop) {g : Operand} {ps : Array Tmp} {assign body : Code} {Q : Exit → Act → World → Prop} {a : Act} {w : World} (m0 : σ)
    (hro : F.round = none) (h1 : 1 ≤ n) {gf : Nat} {lb : Array Value} (hg : a.eval g = .func (.func gf) #[] lb) (hFg : F.fn gf) (eg : ∀ args w, (callFunc gf args).run P w = .ok (.enter gf args) w)
    {encs : α → Array Value} (hps : ∀ x, (encs x).size = ps.size)
    (I : σ → Obj → World → Prop) (Iy : σ → α → Obj → World → Prop) (Ie : Obj → World → Prop) (Ix : Code → Obj → World → Prop)
    (rI : ∀ m, H4.Rec (w.heap.size + 1) (I m)) (ry : ∀ m x, H4.Rec (w.heap.size + 1) (Iy m x)) (re : H4.Rec (w.heap.size + 1) Ie) (rx : ∀ c, H4.Rec (w.heap.size + 1) (Ix c))
    (h0 : ∀ o, I m0 o ((w.alloc (.deferred (some []))).alloc o))
    (hseq : ∀ (o : Obj) (Jx : World → Prop), (∀ m x W, Iy m x o W → YieldAt F (n - 1 - 1) P (w.heap.size + 1) (encs x) W fun e W' => (e = .returned (.bool true) ∧ ∃ m', R m m' ∧ I m' o W') ∨ (e = .returned (.bool false) ∧ Jx W')) →
      ∀ W, I m0 o W → CallsIn F (n - 1) P gf (#[.func (.yield (w.heap.size + 1)) #[] #[]] ++ lb) W fun e W' => (∃ v, e = .returned v) ∧ (Ie o W' ∨ Jx W'))
    (Iz : σ → α → Act → Obj → World → Prop) (rz : ∀ m x b, H4.Rec (w.heap.size + 1) (Iz m x b))
    (hassign : ∀ m (x : α) o (W : World) (K : Act → World → Prop), Iy m x o W → (∀ b W', Iz m x b o W' → K b W') →
      assign.wpIn (F.inRound (w.heap.size + 1)) (n - 1 - 1) P (Exit.then K (fun _ _ _ => False)) { tmps := (ps.zip (encs x)).foldl (fun t (p, v) => t.setIfInBounds p v) a.tmps, defers := [] } W)
    (hbody : ∀ m x b o W, Iz m x b o W → body.wpIn (F.inRound (w.heap.size + 1)) (n - 1 - 1) P (roundEnd3 R I Ix m o) b W)
    (hdone : ∀ o W, Ie o W → Q .normal { a with defers := { target := .collected w.heap.size, args := #[] } :: a.defers } W)
    (hstop : ∀ c o W, Ix c o W → c.wpIn F n P Q { a with defers := { target := .collected w.heap.size, args := #[] } :: a.defers } W) :
    (Code.rangeFunc g ps assign body).wpIn F n P Q a w := by
  refine wpIn_rangeFunc ?_
  intro fn hfn
  rw [hro]
  obtain ⟨rec, hrec⟩ : ∃ rec : LoopState → Option Code → Loop, rec = fun st pe => { state := st, pending := pe, fn, tmps := a.tmps, params := ps, assign, body, defers := w.heap.size } := ⟨_, rfl⟩
  obtain ⟨W1, hW1⟩ : ∃ W1, (w.alloc (.deferred (some []))).alloc (.loop (rec .ready none)) = W1 := ⟨_, rfl⟩
  have hI1 : I m0 (.loop (rec .ready none)) W1 := by rw [← hW1]; exact h0 _
  refine ⟨w.heap.size + 1, [{ target := .collected w.heap.size, args := #[] }], W1, { target := .fn (.func gf) lb, args := #[.func (.yield (w.heap.size + 1)) #[] #[]] }, W1, gf,
    #[.func (.yield (w.heap.size + 1)) #[] #[]] ++ lb, W1, ?_, ?_, ?_, ?_, fun _ => h1, ?_⟩
  · rw [← hW1, hrec]; exact run_enterLoop_outer _ _ _ _ _
  · simp only [resolve, hg]
    simp [go_sem]
  · intro f' hf'; simp [Target.leads] at hf'; subst hf'; exact hFg
  · simp [invoke, go_sem, eg]
  · refine (hseq (.loop (rec .ready none)) (fun W => ∃ c, Ix c (.loop (rec .done (some c))) W) ?_ W1 hI1).mono ?_
    · rintro m x W hi
      have hl := (ry m x).get _ _ hi
      have hlt : w.heap.size + 1 < W.heap.size := (Array.getElem?_eq_some_iff.1 hl).1
      have hy := run_yield (P := P) (args := encs x) hl (by rw [hrec]; exact hps x)
      rw [hrec] at hy
      refine ⟨fn, _, assign, body, hy, roundIn_of_wpIn hfn (hassign m x _ W _ hi ?_)⟩
      intro b W' hz
      refine ⟨_, run_beginRound ((rz m x b).get _ _ hz) (by rw [hrec]), ?_⟩
      refine wpIn_mono (hbody m x b (.loop { rec .ready none with state := .busy }) _ ((rz m x b).put _ _ _ hz)) ?_
      have fin : ∀ (jump : Option Code) (W3 : World), W3.heap[w.heap.size + 1]? = some (.loop { rec .ready none with state := .busy }) →
          (Instr.endRound (w.heap.size + 1) jump).run P W3 = .ok (.bool jump.isNone) (W3.putObj (w.heap.size + 1) (.loop (rec (if jump.isNone then .ready else .done) jump))) := fun jump W3 hl3 => by
        have := run_endRound (P := P) jump hl3
        rw [hrec] at this ⊢
        exact this
      rintro e a3 W3 hp
      cases e with
      | normal =>
        obtain ⟨m', hm', hi3⟩ := hp
        exact ⟨_, _, fin none W3 ((rI m').get _ _ hi3), .inl ⟨rfl, m', hm', (rI m').put _ _ _ hi3⟩⟩
      | ret => exact ⟨_, _, fin (some .ret) W3 ((rx _).get _ _ hp), .inr ⟨rfl, .ret, (rx _).put _ _ _ hp⟩⟩
      | exit id => exact ⟨_, _, fin (some (.exit id)) W3 ((rx _).get _ _ hp), .inr ⟨rfl, .exit id, (rx _).put _ _ _ hp⟩⟩
      | goto t => exact ⟨_, _, fin (some (.goto t)) W3 ((rx _).get _ _ hp), .inr ⟨rfl, .goto t, (rx _).put _ _ _ hp⟩⟩
      | panic ch => exact hp.elim
      | outgrown => exact hp.elim
    · rintro e W2 ⟨⟨v, rfl⟩, (hi | ⟨c, hi⟩)⟩
      · exact ⟨none, _, by have := run_endLoop (P := P) (re.get _ _ hi) (by rw [hrec]; simp); rw [hrec] at this; exact this, hdone _ _ (re.put _ _ _ hi)⟩
      · exact ⟨some c, _, by have := run_endLoop (P := P) ((rx c).get _ _ hi) (by rw [hrec]; simp); rw [hrec] at this; exact this, hstop c _ _ ((rx c).put _ _ _ hi)⟩

end Go.Proofs.Ytjldmphfdaoecaa

namespace Go.Proofs.Ytjldmphfdaoecaa
open Go.RowKit Go.Maps
set_option maxRecDepth 20000
set_option linter.unusedVariables false

def tkc (t : Tk) : Array Value := #[.int .i64 t.1, .int .i64 t.2.1, .int .u8 t.2.2]

def tk2 (s : Nat × Nat) : Tk := ((s.1 : Int), (s.2 : Int), 0)

def put3 (w : World) (r : Nat) (t : Tk) : World := ((w.setCell ⟨r, 0, none⟩ (.int .i64 t.1)).setCell ⟨r, 1, none⟩ (.int .i64 t.2.1)).setCell ⟨r, 2, none⟩ (.int .u8 t.2.2)

theorem put3_at {w : World} {r : Nat} {u : Tk} (t : Tk) (h : w.heap[r]? = some (.cells (tkc u) 38 (0, 0))) : (put3 w r t).heap[r]? = some (.cells (tkc t) 38 (0, 0)) := by
  unfold put3
  rw [heap_setCell_at _ (heap_setCell_at _ (heap_setCell_at _ h))]
  rfl

theorem put3_ne (w : World) (r : Nat) (t : Tk) {b : Nat} (hb : b ≠ r) : (put3 w r t).heap[b]? = w.heap[b]? := by
  unfold put3
  rw [setCell_others _ _ _ _ b hb, setCell_others _ _ _ _ b hb, setCell_others _ _ _ _ b hb]

theorem put3_size (w : World) (r : Nat) (t : Tk) : (put3 w r t).heap.size = w.heap.size := by
  unfold put3
  rw [size_setCell, size_setCell, size_setCell]

theorem tkc_cells {w : World} {r : Nat} {t : Tk} (h : w.heap[r]? = some (.cells (tkc t) 38 (0, 0))) : w.cell? ⟨r, 0, none⟩ = some (.int .i64 t.1) ∧ w.cell? ⟨r, 1, none⟩ = some (.int .i64 t.2.1) ∧ w.cell? ⟨r, 2, none⟩ = some (.int .u8 t.2.2) ∧ w.frozen? ⟨r, 0, none⟩ = false ∧ w.frozen? ⟨r, 1, none⟩ = false ∧ w.frozen? ⟨r, 2, none⟩ = false :=
  ⟨cellIn h rfl, cellIn h rfl, cellIn h rfl, frozenIn h, frozenIn h, frozenIn h⟩

structure Mid (w0 w : World) (base g m : Nat) (v : Value) (D : List Int) (W C : Nat) (z : Bool) (f0 f : Int × Int × Int → Value) (nx gA : Nat) (s t : Tk) : Prop where
  tl : Tlx w base g m v D W C z f nx
  bel : Below base w0 w
  ft : ∀ b, b < w0.heap.size → ¬ TelB g m v f0 b → b ≠ gA → w.heap[b]? = w0.heap[b]? ∧ ¬ TelB g m v f b
  sz : w0.heap.size < w.heap.size
  ah : w.heap[gA]? = some (.cells (tkc s) 38 (0, 0))
  tk : w.heap[w0.heap.size]? = some (.cells (tkc t) 38 (0, 0))
  fA : ¬ TelB g m v f gA
  f6 : ¬ TelB g m v f w0.heap.size

theorem Mid.call {w0 w w' : World} {base g m W C nx nx' gA : Nat} {v : Value} {D : List Int} {z : Bool} {f0 f f' : Int × Int × Int → Value} {s t : Tk} (h : Mid w0 w base g m v D W C z f0 f nx gA s t) (hA : gA < w0.heap.size)
    (ht : Tlx w' base g m v D W C z f' nx') (hb : Below base w w') (hf : FT g m f f' w w') : Mid w0 w' base g m v D W C z f0 f' nx' gA s t where
  tl := ht
  bel := h.bel.trans hb
  ft := fun b h1 h2 h3 => by
    obtain ⟨e1, e2⟩ := h.ft b h1 h2 h3
    obtain ⟨e3, e4⟩ := hf.stranger (Nat.lt_trans h1 h.sz) e2
    exact ⟨e3.trans e1, e4⟩
  sz := Nat.lt_of_lt_of_le h.sz hf.1
  ah := (hf.stranger (Nat.lt_trans hA h.sz) h.fA).1.trans h.ah
  tk := (hf.stranger h.sz h.f6).1.trans h.tk
  fA := (hf.stranger (Nat.lt_trans hA h.sz) h.fA).2
  f6 := (hf.stranger h.sz h.f6).2

theorem Tlx.store {w : World} {base g m W C nx r : Nat} {v : Value} {D : List Int} {z : Bool} {f : Int × Int × Int → Value} (h : Tlx w base g m v D W C z f nx) (t : Tk) (hr : base ≤ r) (hn : ¬ TelB g m v f r) : Tlx (put3 w r t) base g m v D W C z f nx :=
  Tlr.apart h (fun b hb => put3_ne w r t hb) (fun e => hn (.inl e.symm)) (fun e => hn (.inr (.inl e.symm))) hr (fun k hk e => hn (.inr (.inr (.inr ⟨k, hk, e⟩))))

theorem below_put3 {w0 w : World} {base r : Nat} (h : Below base w0 w) (t : Tk) (hr : base ≤ r) : Below base w0 (put3 w r t) :=
  ⟨h.os, h.tape, h.output, by rw [put3_size]; exact h.size, fun b hb => (put3_ne w r t (by omega)).trans (h.block b hb)⟩

theorem Mid.set6 {w0 w : World} {base g m W C nx gA : Nat} {v : Value} {D : List Int} {z : Bool} {f0 f : Int × Int × Int → Value} {s t : Tk} (h : Mid w0 w base g m v D W C z f0 f nx gA s t) (hA : gA < w0.heap.size) (hb : base ≤ w0.heap.size) (t' : Tk) : Mid w0 (put3 w w0.heap.size t') base g m v D W C z f0 f nx gA s t' where
  tl := h.tl.store t' hb h.f6
  bel := below_put3 h.bel t' hb
  ft := fun b h1 h2 h3 => ⟨(put3_ne _ _ _ (by omega)).trans (h.ft b h1 h2 h3).1, (h.ft b h1 h2 h3).2⟩
  sz := by rw [put3_size]; exact h.sz
  ah := (put3_ne _ _ _ (by omega)).trans h.ah
  tk := put3_at t' h.tk
  fA := h.fA
  f6 := h.f6

theorem Mid.setA {w0 w : World} {base g m W C nx gA : Nat} {v : Value} {D : List Int} {z : Bool} {f0 f : Int × Int × Int → Value} {s t : Tk} (h : Mid w0 w base g m v D W C z f0 f nx gA s t) (hA : gA < w0.heap.size) (hb : base ≤ gA) (s' : Tk) : Mid w0 (put3 w gA s') base g m v D W C z f0 f nx gA s' t where
  tl := h.tl.store s' hb h.fA
  bel := below_put3 h.bel s' hb
  ft := fun b h1 h2 h3 => ⟨(put3_ne _ _ _ h3).trans (h.ft b h1 h2 h3).1, (h.ft b h1 h2 h3).2⟩
  sz := by rw [put3_size]; exact h.sz
  ah := put3_at s' h.ah
  tk := (put3_ne _ _ _ (by omega)).trans h.tk
  fA := h.fA
  f6 := h.f6

structure Mv (S : Nat → Prop) (w w' : World) : Prop where
  os : w'.os = w.os
  tape : w'.tape = w.tape
  output : w'.output = w.output
  size : w.heap.size ≤ w'.heap.size
  blk : ∀ b, b < w.heap.size → ¬ S b → w'.heap[b]? = w.heap[b]?

def grw (S : Nat → Prop) (w w' : World) (b : Nat) : Prop := S b ∨ (w.heap.size ≤ b ∧ b < w'.heap.size)

structure Tst (J : Nat → (Nat → Prop) → World → Prop) (w : World) (base g m : Nat) (v : Value) (D : List Int) (W C : Nat) (z : Bool) (f : Int × Int × Int → Value) (nx gA : Nat) (s : Nat × Nat) (S : Nat → Prop) (k i : Nat) : Prop where
  tl : Tlx w base g m v D W C z f nx
  nxi : nx ≤ i
  ah : w.heap[gA]? = some (.cells (tkc (tk2 s)) 38 (0, 0))
  cry : Cry D W C i s
  ki : k ≤ i
  il : i ≤ D.length
  kl : k ≤ (tkl D W C z).length
  rest : (tkl D W C z).drop k = tks D W C z (D.length - k) i
  own : ∀ b, TelB g m v f b → S b ∨ v.ownBlock = some b
  sA : S gA
  bnd : ∀ b, S b → b < w.heap.size
  fA : ¬ TelB g m v f gA
  bA : base ≤ gA
  j : J k S w

theorem tel_lt {w : World} {base g m W C nx : Nat} {v : Value} {D : List Int} {z : Bool} {f : Int × Int × Int → Value} (h : Tlx w base g m v D W C z f nx) {b : Nat} (hb : TelB g m v f b) (hbw : base ≤ w.heap.size) : b < w.heap.size := by
  rcases hb with e | e | e | ⟨k, hk, e⟩
  · rw [e]; exact h.lt.1
  · rw [e]; exact h.lt.2
  · exact Nat.lt_of_lt_of_le (h.low b e) hbw
  · exact ((h.rows k hk).lt b e).2

theorem Tst.lt {J : Nat → (Nat → Prop) → World → Prop} {w : World} {base g m W C nx gA k i : Nat} {v : Value} {D : List Int} {z : Bool} {f : Int × Int × Int → Value} {s : Nat × Nat} {S : Nat → Prop} (h : Tst J w base g m v D W C z f nx gA s S k i) : gA < w.heap.size ∧ base ≤ w.heap.size := by
  have h1 := h.bnd _ h.sA
  have := h.bA
  exact ⟨h1, by omega⟩

theorem Tst.mid {J : Nat → (Nat → Prop) → World → Prop} {w : World} {base g m W C nx gA k i : Nat} {v : Value} {D : List Int} {z : Bool} {f : Int × Int × Int → Value} {s : Nat × Nat} {S : Nat → Prop} (h : Tst J w base g m v D W C z f nx gA s S k i) (t : Tk) :
    Mid w (w.alloc (.cells (tkc t) 38)) base g m v D W C z f f nx gA (tk2 s) t := by
  obtain ⟨h1, h2⟩ := h.lt
  have hb : Below w.heap.size w (w.alloc (.cells (tkc t) 38)) := (Below.refl _ _).alloc (Nat.le_refl _) _
  exact ⟨Tlr.far h.tl hb, hb.mono h2, fun b x1 x2 _ => ⟨hb.block b x1, x2⟩, by simp, (hb.block _ h1).trans h.ah, heap_alloc_new w _, h.fA, fun e => by have := tel_lt h.tl e h2; omega⟩

theorem Tst.out {J : Nat → (Nat → Prop) → World → Prop} {w w9 : World} {base g m W C nx nx9 gA k i : Nat} {v : Value} {D : List Int} {z : Bool} {f f9 : Int × Int × Int → Value} {s : Nat × Nat} {s9 t9 : Tk} {S : Nat → Prop} (h : Tst J w base g m v D W C z f nx gA s S k i)
    (hmv : ∀ k S S' w w', J k S w → Mv S w w' → (∀ b, S b → b < w.heap.size) → (∀ b, S b → S' b) → (∀ b, S' b → (S b ∨ w.heap.size ≤ b) ∧ b < w'.heap.size) → J k S' w') (q : Mid w w9 base g m v D W C z f f9 nx9 gA s9 t9) :
    J k (grw S w w9) w9 ∧ (∀ b, grw S w w9 b → b < w9.heap.size) ∧ (∀ b, TelB g m v f9 b → grw S w w9 b ∨ v.ownBlock = some b) ∧ grw S w w9 gA := by
  obtain ⟨h1, h2⟩ := h.lt
  have hs := q.sz
  have hb : ∀ b, grw S w w9 b → b < w9.heap.size := fun b e => by
    rcases e with e | e
    · have := h.bnd b e; omega
    · exact e.2
  refine ⟨hmv k S _ w w9 h.j ⟨q.bel.os, q.bel.tape, q.bel.output, by omega, fun b x1 x2 => ?_⟩ h.bnd (fun b e => .inl e) (fun b e => ⟨e.elim .inl fun e => .inr e.1, hb b e⟩), hb, fun b e => ?_, .inl h.sA⟩
  · by_cases hv : v.ownBlock = some b
    · exact q.bel.block b (h.tl.low b hv)
    · exact (q.ft b x1 (fun e => (h.own b e).elim x2 hv) (fun e => x2 (e ▸ h.sA))).1
  by_cases hl : b < w.heap.size
  · by_cases hA : b = gA
    · left; left; rw [hA]; exact h.sA
    · by_cases ht : TelB g m v f b
      · exact (h.own b ht).elim (fun e => .inl (.inl e)) .inr
      · exact absurd e (q.ft b hl ht hA).2
  · left; right
    have := tel_lt q.tl e (by omega)
    exact ⟨by omega, this⟩

theorem Tst.on {J : Nat → (Nat → Prop) → World → Prop} {w w9 wa : World} {base g m W C nx nx9 gA k i i' : Nat} {v : Value} {D : List Int} {z : Bool} {f f9 : Int × Int × Int → Value} {s s9 : Nat × Nat} {t9 : Tk} {S : Nat → Prop} (h : Tst J w base g m v D W C z f nx gA s S k i)
    (q : Mid w w9 base g m v D W C z f f9 nx9 gA (tk2 s9) t9) (hnx : nx9 ≤ i') (hc : Cry D W C i' s9) (hi : i' ≤ D.length) (hki : k + 1 ≤ i') (hkl : k < (tkl D W C z).length) (hr : (tkl D W C z).drop (k + 1) = tks D W C z (D.length - (k + 1)) i')
    (hS : ∀ b, grw S w w9 b → b < w9.heap.size) (hT : ∀ b, TelB g m v f9 b → grw S w w9 b ∨ v.ownBlock = some b) (hA : grw S w w9 gA) (hk : ∀ b, grw S w w9 b ∨ v.ownBlock = some b → wa.heap[b]? = w9.heap[b]?) (hsz : w9.heap.size ≤ wa.heap.size) (hj : J (k + 1) (grw S w w9) wa) :
    Tst J wa base g m v D W C z f9 nx9 gA s9 (grw S w w9) (k + 1) i' where
  tl := Tlr.kept q.tl fun b _ hb => hk b (hT b hb)
  nxi := hnx
  ah := (hk _ (.inl hA)).trans q.ah
  cry := hc
  ki := hki
  il := hi
  kl := hkl
  rest := hr
  own := hT
  sA := hA
  bnd := fun b hb => Nat.lt_of_lt_of_le (hS b hb) hsz
  fA := q.fA
  bA := h.bA
  j := hj

theorem drop_cons {R : List Tk} {k : Nat} {t : Tk} {l : List Tk} (h : R.drop k = t :: l) : k < R.length ∧ R.getD k tk0 = t ∧ R.drop (k + 1) = l := by
  have hk : k < R.length := by
    by_cases e : k < R.length
    · exact e
    · rw [List.drop_of_length_le (by omega)] at h; cases h
  rw [List.drop_eq_getElem_cons hk] at h
  simp only [List.cons.injEq] at h
  exact ⟨hk, by simp [hk, h.1], h.2⟩

theorem Tst.tok {J : Nat → (Nat → Prop) → World → Prop} {w : World} {base g m W C nx gA k i : Nat} {v : Value} {D : List Int} {z : Bool} {f : Int × Int × Int → Value} {s : Nat × Nat} {S : Nat → Prop} (h : Tst J w base g m v D W C z f nx gA s S k i) (hi : i < D.length) :
    k < (tkl D W C z).length ∧ (tkl D W C z).getD k tk0 = tok D W C z i ∧ (tkl D W C z).drop (k + 1) = tks D W C z (D.length - (k + 1)) (i + says (tok D W C z i)) := by
  have hr := h.rest
  have := h.ki
  rw [show D.length - k = (D.length - (k + 1)) + 1 by omega, tks_go hi] at hr
  exact drop_cons hr
end Go.Proofs.Ytjldmphfdaoecaa

namespace Go.Proofs.Ytjldmphfdaoecaa
open Go.RowKit Go.Maps Go.Shelf
attribute [local go_sem] Oper.semAt_some
set_option maxRecDepth 20000
set_option linter.unusedVariables false

def Bears (J : Nat → (Nat → Prop) → World → Prop) : Prop := ∀ k S S' w w', J k S w → Mv S w w' → (∀ b, S b → b < w.heap.size) → (∀ b, S b → S' b) → (∀ b, S' b → (S b ∨ w.heap.size ≤ b) ∧ b < w'.heap.size) → J k S' w'

def Turns (R : List Tk) (l : Nat) (v : Value) (J : Nat → (Nat → Prop) → World → Prop) (Jx : World → Prop) : Prop :=
  ∀ k S w, k < R.length → J k S w → (∀ b, S b → b < w.heap.size) → (∀ b, v.ownBlock = some b → b < w.heap.size) → YieldAt Fence.wide 1 Try.prog l #[.agg (tkc (R.getD k tk0))] w fun e w' => (e = .returned (.bool true) ∧ J (k + 1) S w' ∧ (∀ b, S b ∨ v.ownBlock = some b → w'.heap[b]? = w.heap[b]?) ∧ w.heap.size ≤ w'.heap.size) ∨ (e = .returned (.bool false) ∧ Jx w')

theorem bst_small (D : List Int) (i W C : Nat) : (bst D i W C).1 ≤ 1000 := by
  rcases bst_facts (D := D) (i := i) (W := W) (C := C) with h | ⟨j, _, _, _, h4, h5, _⟩
  · rw [h]; simp
  · have h6 := rno_le D j i
    have h7 : (bst D i W C).1 = rno D j i := by rw [h5]
    omega

set_option maxHeartbeats 4000000 in
theorem tell_any (l base g m W C : Nat) (v : Value) (D : List Int) (z : Bool) (f0 : Int × Int × Int → Value) (hB : Byt D) (hn : D.length ≤ 16777216) (hW : 1 ≤ W) (hW2 : W ≤ 32768) (hC : C ≤ 1000000000)
    (J : Nat → (Nat → Prop) → World → Prop) (Jx : World → Prop) (hmv : Bears J) (hY : Turns (tkl D W C z) l v J Jx) (w : World) (S0 : Nat → Prop) (h : Tlx w base g m v D W C z f0 0) (hS : ∀ b, TelB g m v f0 b → S0 b ∨ v.ownBlock = some b) (hSb : ∀ b, S0 b → b < w.heap.size) (hj : J 0 S0 w) :
    Calls Try.prog 18 #[.pointer (some ⟨g, 0, none⟩), .func (.yield l) #[] #[]] w fun e w' => (∃ v, e = .returned v) ∧ ((∃ S', J (tkl D W C z).length S' w') ∨ Jx w') := by
  have HB := hide hB
  have HMV := hide hmv
  have HY := hide hY
  have hgs := h.lt.1
  have hbg := h.bg
  obtain ⟨w1, hw1⟩ : ∃ w1, w.alloc (.cells #[.int .i64 0, .int .i64 0, .int .u8 0] 38) = w1 := ⟨_, rfl⟩
  have hb1 : Below w.heap.size w w1 := by rw [← hw1]; exact (Below.refl _ _).alloc (Nat.le_refl _) _
  have hs1 : w1.heap.size = w.heap.size + 1 := by rw [← hw1]; simp
  have HT : Hid (Tst J w1 base g m v D W C z f0 0 w.heap.size (0, 0) (grw S0 w w1) 0 0) := by
    refine ⟨Tlr.far h hb1, Nat.le_refl _, by rw [← hw1]; exact heap_alloc_new w _, .inl rfl, Nat.le_refl _, Nat.zero_le _, Nat.zero_le _, rfl, fun b hb => (hS b hb).elim (fun e => .inl (.inl e)) .inr, .inr ⟨Nat.le_refl _, by omega⟩, ?_, fun e => ?_, by omega, hmv 0 S0 _ w w1 hj ⟨hb1.os, hb1.tape, hb1.output, hb1.size, fun b x _ => hb1.block b x⟩ hSb (fun b e => .inl e) (fun b e => ?_)⟩
    · rintro b (e | e)
      · have := hSb b e; omega
      · exact e.2
    · have := tel_lt h e (by omega); omega
    · rcases e with e | e
      · exact ⟨.inl e, by have := hSb b e; omega⟩
      · exact ⟨.inr e.1, e.2⟩
  obtain ⟨gA, hgA⟩ : ∃ gA, w.heap.size = gA := ⟨_, rfl⟩
  obtain ⟨ao, cap, rfl, hlc, hcm⟩ := h.dat.open
  clear h hS hSb hj hB hmv hY
  refine (callsIn_wide (n := 2)).1 ?_
  refine callsIn_of_wp Try.func18 rfl trivial ?_ rfl
  simp only [Try.ntmps18, List.size_toArray, List.length_cons, List.length_nil, Nat.reduceAdd, Nat.reduceSub, Array.replicate_succ, Array.replicate_zero, List.push_toArray, List.append_toArray, List.nil_append, List.cons_append]
  gi_wp2
  rw [hgA] at HT
  clear hw1 hb1 hs1 hgs hgA
  gi_loopw [5] (fun p wr => ∃ (k i nx : Nat) (s : Nat × Nat) (f : Int × Int × Int → Value) (S : Nat → Prop), p = .int .i64 (i : Int) ∧ i ≤ D.length ∧ Hid (Tst J wr base g m (.slice ao D.length cap) D W C z f nx gA s S k i)) (fun p _ => D.length - (intOf p).toNat)
  case atStart => exact ⟨0, 0, 0, (0, 0), f0, _, rfl, Nat.zero_le _, HT⟩
  case round =>
    obtain ⟨k, i, nx, s, f, S, rfl, hil, HX⟩ := hrel
    have c0 := HX.out.tl.box.cells.1
    by_cases hi : i < D.length
    · have hlt : (i : Int) < (D.length : Int) := by omega
      obtain ⟨s1, s2⟩ := s
      obtain ⟨hA, hbw⟩ := HX.out.lt
      have hbA := HX.out.bA
      obtain ⟨a0, a1, a2, a3, a4, a5⟩ := tkc_cells HX.out.ah
      have b0 : wr.cell? ⟨gA, 0, none⟩ = some (.int .i64 (s1 : Int)) := a0
      have b1 : wr.cell? ⟨gA, 1, none⟩ = some (.int .i64 (s2 : Int)) := a1
      have b2 : wr.cell? ⟨gA, 2, none⟩ = some (.int .u8 0) := a2
      have HM0 : Hid (Mid wr (wr.alloc (.cells #[.int .i64 (s1 : Int), .int .i64 (s2 : Int), .int .u8 0] 38)) base g m (.slice ao D.length cap) D W C z f f nx gA (tk2 (s1, s2)) (tk2 (s1, s2))) := HX.out.mid (tk2 (s1, s2))
      obtain ⟨b6, hb6⟩ : ∃ b6, wr.heap.size = b6 := ⟨_, rfl⟩
      have HB6 := hide hb6
      obtain ⟨BS, HBS⟩ : ∃ BS, Hid (BS = bst D i W C) := ⟨_, hide rfl⟩
      have HCR : Hid (s1 = 0 ∨ (s1, s2) = BS) := by
        rcases HX.out.cry with e | ⟨_, e⟩
        · exact .inl (congrArg Prod.fst e)
        · exact .inr (e.trans HBS.out.symm)
      have hB1 : BS.1 ≤ 1000 := by rw [HBS.out]; exact bst_small D i W C
      obtain ⟨B1, B2⟩ := BS
      have hB1' : B1 ≤ 1000 := hB1
      clear a0 a1 a2 hB1
      have HTK := hide (HX.out.tok hi)
      obtain ⟨O, HO⟩ : ∃ O, Hid (O = ofb D W C z i) := ⟨_, hide rfl⟩
      have HOF : Hid (pof D W C z i B1 = O) := by
        have := pof_ofb D W C z i
        rw [← HBS.out] at this
        exact this.trans HO.out.symm
      have HLT : Hid (Lit D W C z i ↔ (B1 = 0 ∨ 0 < O.1)) := by
        have := lit_ofb (D := D) (W := W) (C := C) (z := z) (i := i)
        rw [← HBS.out, ← HO.out] at this
        exact this
      obtain ⟨O1, O2⟩ := O
      have HLT : Hid (Lit D W C z i ↔ (B1 = 0 ∨ 0 < O1)) := HLT
      obtain ⟨dv, HDV⟩ : ∃ dv, Hid (D.getD i 0 = dv) := ⟨_, hide rfl⟩
      by_cases h0 : s1 = 0
      · skip
        have h0' : (s1 : Int) = 0 := by omega
        rw [h0'] at b0 HM0
        gi_wp2_with fail
        obtain ⟨w1, hw1⟩ : ∃ w1, wr.alloc (.cells #[.int .i64 0, .int .i64 (s2 : Int), .int .u8 0] 38) = w1 := ⟨_, rfl⟩
        rw [hw1] at HM0 ⊢
        clear hw1
        have HBE : Hid (Calls Try.prog 21 #[.pointer (some ⟨g, 0, none⟩), .int .i64 (i : Int), .int .i64 2] w1 fun e w' => e = .returned (.agg #[.int .i64 (B1 : Int), .int .i64 (B2 : Int), .int .u8 0]) ∧ ∃ f' nx', Tlx w' base g m (.slice ao D.length cap) D W C z f' nx' ∧ nx' ≤ i ∧ Below base w1 w' ∧ FT g m f f' w1 w') := by
          have := tbest_any w1 base g m W C nx i 2 _ D z f HM0.out.tl HB.out hn HX.out.nxi (by omega) hW hW2 hC (by omega) (by have := HM0.out.sz; omega)
          rw [bb_two, ← HBS.out] at this
          exact this
        refine ⟨trivial, (callsIn_wide.2 HBE.out).mono ?_⟩
        rintro e w2 ⟨rfl, f3, nx3, t2, hx3, r2, r3⟩
        have HM2 := hide (HM0.out.call hA t2 r2 r3)
        obtain ⟨p0, p1, p2, p3, p4, p5⟩ := tkc_cells HM2.out.tk
        have q0 : w2.cell? ⟨b6, 0, none⟩ = some (.int .i64 (s1 : Int)) := by rw [← hb6]; exact p0
        have q1 : w2.cell? ⟨b6, 1, none⟩ = some (.int .i64 (s2 : Int)) := by rw [← hb6]; exact p1
        have q2 : w2.cell? ⟨b6, 2, none⟩ = some (.int .u8 0) := by rw [← hb6]; exact p2
        rw [hb6] at p3 p4 p5
        have HM3 := hide (HM2.out.set6 hA hbw (tk2 (B1, B2)))
        obtain ⟨w3, hw3⟩ : ∃ w3, ((w2.setCell ⟨b6, 0, none⟩ (.int .i64 (B1 : Int))).setCell ⟨b6, 1, none⟩ (.int .i64 (B2 : Int))).setCell ⟨b6, 2, none⟩ (.int .u8 0) = w3 := ⟨_, rfl⟩
        have hw3' : put3 w2 wr.heap.size (tk2 (B1, B2)) = w3 := by rw [hb6]; exact hw3
        rw [hw3'] at HM3
        clear hw3' p0 p1 p2 t2 r2 r3 HM2 HBE HCR HM0
        have c3 := HM3.out.tl.box.cells.1
        obtain ⟨x0, x1, x2, x3, x4, x5⟩ := tkc_cells HM3.out.tk
        have y0 : w3.cell? ⟨b6, 0, none⟩ = some (.int .i64 (B1 : Int)) := by rw [← hb6]; exact x0
        have y1 : w3.cell? ⟨b6, 1, none⟩ = some (.int .i64 (B2 : Int)) := by rw [← hb6]; exact x1
        have y2 : w3.cell? ⟨b6, 2, none⟩ = some (.int .u8 0) := by rw [← hb6]; exact x2
        clear x0 x1 x2 x3 x4 x5 b0 b1 b2 a3 a4 a5 c0 h0' h0
        gi_wp2_with fail
        clear hw3 q0 q1 q2 p3 p4 p5 c3 y0 y1 y2
        have HPO : Hid (Calls Try.prog 22 #[.pointer (some ⟨g, 0, none⟩), .int .i64 (i : Int), .agg #[.int .i64 (B1 : Int), .int .i64 (B2 : Int), .int .u8 0]] w3 fun e w' => e = .returned (.agg #[.int .i64 (O1 : Int), .int .i64 (O2 : Int), .int .u8 0]) ∧ ∃ f' nx', Tlx w' base g m (.slice ao D.length cap) D W C z f' nx' ∧ nx' ≤ i + 1 ∧ Below base w3 w' ∧ FT g m f3 f' w3 w') := by
          have := putoff_any w3 base g m W C nx3 i B1 B2 0 _ D z f3 HM3.out.tl HB.out hn hx3 (by omega) hW hW2 hC hB1' (by have := HM3.out.sz; omega)
          rw [HOF.out] at this
          exact this
        refine ⟨trivial, (callsIn_wide.2 HPO.out).mono ?_⟩
        rintro e w4 ⟨rfl, f4, nx4, t4, hx4, r4, r5⟩
        have HM4 := hide (HM3.out.call hA t4 r4 r5)
        clear HPO HM3 t4 r4 r5 hx3
        obtain ⟨k0, k1, k2, k3, k4, k5⟩ := tkc_cells HM4.out.ah
        have HM5 := hide (HM4.out.setA hA hbA (tk2 (O1, O2)))
        obtain ⟨w5, hw5⟩ : ∃ w5, ((w4.setCell ⟨gA, 0, none⟩ (.int .i64 (O1 : Int))).setCell ⟨gA, 1, none⟩ (.int .i64 (O2 : Int))).setCell ⟨gA, 2, none⟩ (.int .u8 0) = w5 := ⟨_, rfl⟩
        have hw5' : put3 w4 gA (tk2 (O1, O2)) = w5 := hw5
        rw [hw5'] at HM5
        clear hw5' HM4
        obtain ⟨x0, x1, x2, l3, l4, l5⟩ := tkc_cells HM5.out.tk
        have l0 : w5.cell? ⟨b6, 0, none⟩ = some (.int .i64 (B1 : Int)) := by rw [← hb6]; exact x0
        have l1 : w5.cell? ⟨b6, 1, none⟩ = some (.int .i64 (B2 : Int)) := by rw [← hb6]; exact x1
        have l2 : w5.cell? ⟨b6, 2, none⟩ = some (.int .u8 0) := by rw [← hb6]; exact x2
        rw [hb6] at l3 l4 l5
        obtain ⟨x6, _, _, _, _, _⟩ := tkc_cells HM5.out.ah
        have o0 : w5.cell? ⟨gA, 0, none⟩ = some (.int .i64 (O1 : Int)) := x6
        have c5 := HM5.out.tl.box.cells.1
        obtain ⟨db, dof, hao, hdc⟩ := HM5.out.tl.dat.get (Below.refl _ _) (k := i) hi
        rw [HDV.out] at hdc
        subst hao
        clear x0 x1 x2 x6
        by_cases hB0 : B1 = 0
        · have g0 : (B1 : Int) = 0 := by omega
          have HLI : Hid (Lit D W C z i) := HLT.out.2 (.inl hB0)
          have HTE : Hid (tok D W C z i = (0, 0, dv)) := by have := tok_lit HLI.out; rw [HDV.out] at this; exact this
          have HSY : Hid (says (tok D W C z i) = 1) := says_lit HLI.out
          have HM6 := hide (HM5.out.set6 hA hbw (0, 0, dv))
          obtain ⟨w6, hw6⟩ : ∃ w6, ((w5.setCell ⟨b6, 0, none⟩ (.int .i64 0)).setCell ⟨b6, 1, none⟩ (.int .i64 0)).setCell ⟨b6, 2, none⟩ (.int .u8 dv) = w6 := ⟨_, rfl⟩
          have hw6' : put3 w5 wr.heap.size (0, 0, dv) = w6 := by rw [hb6]; exact hw6
          rw [hw6'] at HM6
          clear hw6' HM5
          obtain ⟨x0, x1, x2, _, _, _⟩ := tkc_cells HM6.out.tk
          have z0 : w6.cell? ⟨b6, 0, none⟩ = some (.int .i64 0) := by rw [← hb6]; exact x0
          have z1 : w6.cell? ⟨b6, 1, none⟩ = some (.int .i64 0) := by rw [← hb6]; exact x1
          have z2 : w6.cell? ⟨b6, 2, none⟩ = some (.int .u8 dv) := by rw [← hb6]; exact x2
          clear x0 x1 x2
          have hT := HTK.out
          obtain ⟨J9, S9, T9, A9⟩ := HX.out.out HMV.out HM6.out
          have hYY := HY.out k (grw S wr w6) w6 hT.1 J9 S9 (fun b hb => Nat.lt_of_lt_of_le (HM6.out.tl.low b hb) (by have := HM6.out.sz; omega))
          rw [hT.2.1, HTE.out] at hYY
          obtain ⟨fn, tmps, assign, body, hy, hRd⟩ := hYY
          dsimp only [tkc] at hy
          have H9 := hide (And.intro S9 (And.intro T9 A9))
          have hz6 : b6 < w6.heap.size := by have := HM6.out.sz; omega
          clear hT J9 S9 T9 A9
          gi_wp2
          refine hRd.mono ?_
          rintro e w7 (⟨rfl, hj7, hk7, hs7⟩ | ⟨rfl, hJx7⟩)
          · have il7 := tok_end (D := D) (W := W) (C := C) (z := z) hi
            have cr7 := cry_go (D := D) (W := W) (C := C) (z := z) hi
            have hT := HTK.out.2.2
            rw [HSY.out] at il7 cr7 hT
            rw [← HO.out] at cr7
            have HT7 := hide (HX.out.on (i' := i + 1) HM6.out (by omega) cr7 il7 (by have := HX.out.ki; omega) HTK.out.1 hT H9.out.1 H9.out.2.1 H9.out.2.2 hk7 hs7 hj7)
            have k7 : w7.cell? ⟨b6, 0, none⟩ = some (.int .i64 0) := (World.cell?_of_block (hk7 b6 (.inl (.inr ⟨by omega, hz6⟩)))).trans z0
            clear hk7 hs7 hj7 cr7 hT hy
            gi_wp2
            go_roundw
            case rel => exact ⟨k + 1, i + 1, nx4, (O1, O2), f4, _, by go_num, il7, HT7⟩
            case measure => simp [intOf]; omega
          · have HJX := hide hJx7
            clear hJx7 hy
            gi_wp2
            refine bodyPost_ret (results_none rfl _ _ _) rfl ?_
            exact ⟨⟨_, rfl⟩, .inr HJX.out⟩
        · have g0 : ¬ (B1 : Int) = 0 := by omega
          by_cases hO0 : 0 < O1
          · have g1 : (0 : Int) < (O1 : Int) := by omega
            have HLI : Hid (Lit D W C z i) := HLT.out.2 (.inr hO0)
            have HTE : Hid (tok D W C z i = (0, 0, dv)) := by have := tok_lit HLI.out; rw [HDV.out] at this; exact this
            have HSY : Hid (says (tok D W C z i) = 1) := says_lit HLI.out
            have HM6 := hide (HM5.out.set6 hA hbw (0, 0, dv))
            obtain ⟨w6, hw6⟩ : ∃ w6, ((w5.setCell ⟨b6, 0, none⟩ (.int .i64 0)).setCell ⟨b6, 1, none⟩ (.int .i64 0)).setCell ⟨b6, 2, none⟩ (.int .u8 dv) = w6 := ⟨_, rfl⟩
            have hw6' : put3 w5 wr.heap.size (0, 0, dv) = w6 := by rw [hb6]; exact hw6
            rw [hw6'] at HM6
            clear hw6' HM5
            obtain ⟨x0, x1, x2, _, _, _⟩ := tkc_cells HM6.out.tk
            have z0 : w6.cell? ⟨b6, 0, none⟩ = some (.int .i64 0) := by rw [← hb6]; exact x0
            have z1 : w6.cell? ⟨b6, 1, none⟩ = some (.int .i64 0) := by rw [← hb6]; exact x1
            have z2 : w6.cell? ⟨b6, 2, none⟩ = some (.int .u8 dv) := by rw [← hb6]; exact x2
            clear x0 x1 x2
            have hT := HTK.out
            obtain ⟨J9, S9, T9, A9⟩ := HX.out.out HMV.out HM6.out
            have hYY := HY.out k (grw S wr w6) w6 hT.1 J9 S9 (fun b hb => Nat.lt_of_lt_of_le (HM6.out.tl.low b hb) (by have := HM6.out.sz; omega))
            rw [hT.2.1, HTE.out] at hYY
            obtain ⟨fn, tmps, assign, body, hy, hRd⟩ := hYY
            dsimp only [tkc] at hy
            have H9 := hide (And.intro S9 (And.intro T9 A9))
            have hz6 : b6 < w6.heap.size := by have := HM6.out.sz; omega
            clear hT J9 S9 T9 A9
            gi_wp2
            refine hRd.mono ?_
            rintro e w7 (⟨rfl, hj7, hk7, hs7⟩ | ⟨rfl, hJx7⟩)
            · have il7 := tok_end (D := D) (W := W) (C := C) (z := z) hi
              have cr7 := cry_go (D := D) (W := W) (C := C) (z := z) hi
              have hT := HTK.out.2.2
              rw [HSY.out] at il7 cr7 hT
              rw [← HO.out] at cr7
              have HT7 := hide (HX.out.on (i' := i + 1) HM6.out (by omega) cr7 il7 (by have := HX.out.ki; omega) HTK.out.1 hT H9.out.1 H9.out.2.1 H9.out.2.2 hk7 hs7 hj7)
              have k7 : w7.cell? ⟨b6, 0, none⟩ = some (.int .i64 0) := (World.cell?_of_block (hk7 b6 (.inl (.inr ⟨by omega, hz6⟩)))).trans z0
              clear hk7 hs7 hj7 cr7 hT hy
              gi_wp2
              go_roundw
              case rel => exact ⟨k + 1, i + 1, nx4, (O1, O2), f4, _, by go_num, il7, HT7⟩
              case measure => simp [intOf]; omega
            · have HJX := hide hJx7
              clear hJx7 hy
              gi_wp2
              refine bodyPost_ret (results_none rfl _ _ _) rfl ?_
              exact ⟨⟨_, rfl⟩, .inr HJX.out⟩
          · have g1 : ¬ (0 : Int) < (O1 : Int) := by omega
            have HLI : Hid (¬ Lit D W C z i) := fun e => by rcases HLT.out.1 e with e | e <;> omega
            have HTE : Hid (tok D W C z i = ((B1 : Int), (B2 : Int), 0)) := by have := tok_cpy HLI.out; rw [← HBS.out] at this; exact this
            have HSY : Hid (says (tok D W C z i) = B1) := by show _ = _; rw [HTE.out]; show max 1 (B1 : Int).toNat = B1; omega
            have z0 := l0
            have hmx : max (B1 : Int) 1 = (B1 : Int) := by omega
            have hT := HTK.out
            obtain ⟨J9, S9, T9, A9⟩ := HX.out.out HMV.out HM5.out
            have hYY := HY.out k (grw S wr w5) w5 hT.1 J9 S9 (fun b hb => Nat.lt_of_lt_of_le (HM5.out.tl.low b hb) (by have := HM5.out.sz; omega))
            rw [hT.2.1, HTE.out] at hYY
            obtain ⟨fn, tmps, assign, body, hy, hRd⟩ := hYY
            dsimp only [tkc] at hy
            have H9 := hide (And.intro S9 (And.intro T9 A9))
            have hz6 : b6 < w5.heap.size := by have := HM5.out.sz; omega
            clear hT J9 S9 T9 A9
            gi_wp2
            refine hRd.mono ?_
            rintro e w7 (⟨rfl, hj7, hk7, hs7⟩ | ⟨rfl, hJx7⟩)
            · have il7 := tok_end (D := D) (W := W) (C := C) (z := z) hi
              have cr7 := cry_go (D := D) (W := W) (C := C) (z := z) hi
              have hT := HTK.out.2.2
              rw [HSY.out] at il7 cr7 hT
              rw [← HO.out] at cr7
              have HT7 := hide (HX.out.on (i' := i + B1) HM5.out (by omega) cr7 il7 (by have := HX.out.ki; omega) HTK.out.1 hT H9.out.1 H9.out.2.1 H9.out.2.2 hk7 hs7 hj7)
              have k7 : w7.cell? ⟨b6, 0, none⟩ = some (.int .i64 (B1 : Int)) := (World.cell?_of_block (hk7 b6 (.inl (.inr ⟨by omega, hz6⟩)))).trans z0
              clear hk7 hs7 hj7 cr7 hT hy
              gi_wp2
              go_roundw
              case rel => exact ⟨k + 1, i + B1, nx4, (O1, O2), f4, _, by go_num, il7, HT7⟩
              case measure => simp [intOf]; omega
            · have HJX := hide hJx7
              clear hJx7 hy
              gi_wp2
              refine bodyPost_ret (results_none rfl _ _ _) rfl ?_
              exact ⟨⟨_, rfl⟩, .inr HJX.out⟩
      · skip
        obtain ⟨e1, e2⟩ : s1 = B1 ∧ s2 = B2 := by
          rcases HCR.out with e | e
          · exact absurd e h0
          · exact ⟨congrArg Prod.fst e, congrArg Prod.snd e⟩
        have h0' : ¬ (B1 : Int) = 0 := by omega
        rw [e1] at b0 HM0
        rw [e2] at b1 HM0
        gi_wp2_with fail
        obtain ⟨w3, hw3⟩ : ∃ w3, wr.alloc (.cells #[.int .i64 (B1 : Int), .int .i64 (B2 : Int), .int .u8 0] 38) = w3 := ⟨_, rfl⟩
        rw [hw3] at HM0 ⊢
        have HM3 := HM0
        have hx3 : nx ≤ i := HX.out.nxi
        obtain ⟨f3, hf3⟩ : ∃ f3, f3 = f := ⟨_, rfl⟩
        obtain ⟨nx3, hnx3⟩ : ∃ n, n = nx := ⟨_, rfl⟩
        rw [← hnx3] at hx3
        have HM3 : Hid (Mid wr w3 base g m (.slice ao D.length cap) D W C z f f3 nx3 gA (tk2 (B1, B2)) (tk2 (B1, B2))) := by rw [hf3, hnx3]; exact HM0
        clear hw3 HM0 b0 b1 b2 a3 a4 a5 c0 h0 h0' e1 e2 HCR hf3 hnx3
        have HPO : Hid (Calls Try.prog 22 #[.pointer (some ⟨g, 0, none⟩), .int .i64 (i : Int), .agg #[.int .i64 (B1 : Int), .int .i64 (B2 : Int), .int .u8 0]] w3 fun e w' => e = .returned (.agg #[.int .i64 (O1 : Int), .int .i64 (O2 : Int), .int .u8 0]) ∧ ∃ f' nx', Tlx w' base g m (.slice ao D.length cap) D W C z f' nx' ∧ nx' ≤ i + 1 ∧ Below base w3 w' ∧ FT g m f3 f' w3 w') := by
          have := putoff_any w3 base g m W C nx3 i B1 B2 0 _ D z f3 HM3.out.tl HB.out hn hx3 (by omega) hW hW2 hC hB1' (by have := HM3.out.sz; omega)
          rw [HOF.out] at this
          exact this
        refine ⟨trivial, (callsIn_wide.2 HPO.out).mono ?_⟩
        rintro e w4 ⟨rfl, f4, nx4, t4, hx4, r4, r5⟩
        have HM4 := hide (HM3.out.call hA t4 r4 r5)
        clear HPO HM3 t4 r4 r5 hx3
        obtain ⟨k0, k1, k2, k3, k4, k5⟩ := tkc_cells HM4.out.ah
        have HM5 := hide (HM4.out.setA hA hbA (tk2 (O1, O2)))
        obtain ⟨w5, hw5⟩ : ∃ w5, ((w4.setCell ⟨gA, 0, none⟩ (.int .i64 (O1 : Int))).setCell ⟨gA, 1, none⟩ (.int .i64 (O2 : Int))).setCell ⟨gA, 2, none⟩ (.int .u8 0) = w5 := ⟨_, rfl⟩
        have hw5' : put3 w4 gA (tk2 (O1, O2)) = w5 := hw5
        rw [hw5'] at HM5
        clear hw5' HM4
        obtain ⟨x0, x1, x2, l3, l4, l5⟩ := tkc_cells HM5.out.tk
        have l0 : w5.cell? ⟨b6, 0, none⟩ = some (.int .i64 (B1 : Int)) := by rw [← hb6]; exact x0
        have l1 : w5.cell? ⟨b6, 1, none⟩ = some (.int .i64 (B2 : Int)) := by rw [← hb6]; exact x1
        have l2 : w5.cell? ⟨b6, 2, none⟩ = some (.int .u8 0) := by rw [← hb6]; exact x2
        rw [hb6] at l3 l4 l5
        obtain ⟨x6, _, _, _, _, _⟩ := tkc_cells HM5.out.ah
        have o0 : w5.cell? ⟨gA, 0, none⟩ = some (.int .i64 (O1 : Int)) := x6
        have c5 := HM5.out.tl.box.cells.1
        obtain ⟨db, dof, hao, hdc⟩ := HM5.out.tl.dat.get (Below.refl _ _) (k := i) hi
        rw [HDV.out] at hdc
        subst hao
        clear x0 x1 x2 x6
        by_cases hB0 : B1 = 0
        · have g0 : (B1 : Int) = 0 := by omega
          have HLI : Hid (Lit D W C z i) := HLT.out.2 (.inl hB0)
          have HTE : Hid (tok D W C z i = (0, 0, dv)) := by have := tok_lit HLI.out; rw [HDV.out] at this; exact this
          have HSY : Hid (says (tok D W C z i) = 1) := says_lit HLI.out
          have HM6 := hide (HM5.out.set6 hA hbw (0, 0, dv))
          obtain ⟨w6, hw6⟩ : ∃ w6, ((w5.setCell ⟨b6, 0, none⟩ (.int .i64 0)).setCell ⟨b6, 1, none⟩ (.int .i64 0)).setCell ⟨b6, 2, none⟩ (.int .u8 dv) = w6 := ⟨_, rfl⟩
          have hw6' : put3 w5 wr.heap.size (0, 0, dv) = w6 := by rw [hb6]; exact hw6
          rw [hw6'] at HM6
          clear hw6' HM5
          obtain ⟨x0, x1, x2, _, _, _⟩ := tkc_cells HM6.out.tk
          have z0 : w6.cell? ⟨b6, 0, none⟩ = some (.int .i64 0) := by rw [← hb6]; exact x0
          have z1 : w6.cell? ⟨b6, 1, none⟩ = some (.int .i64 0) := by rw [← hb6]; exact x1
          have z2 : w6.cell? ⟨b6, 2, none⟩ = some (.int .u8 dv) := by rw [← hb6]; exact x2
          clear x0 x1 x2
          have hT := HTK.out
          obtain ⟨J9, S9, T9, A9⟩ := HX.out.out HMV.out HM6.out
          have hYY := HY.out k (grw S wr w6) w6 hT.1 J9 S9 (fun b hb => Nat.lt_of_lt_of_le (HM6.out.tl.low b hb) (by have := HM6.out.sz; omega))
          rw [hT.2.1, HTE.out] at hYY
          obtain ⟨fn, tmps, assign, body, hy, hRd⟩ := hYY
          dsimp only [tkc] at hy
          have H9 := hide (And.intro S9 (And.intro T9 A9))
          have hz6 : b6 < w6.heap.size := by have := HM6.out.sz; omega
          clear hT J9 S9 T9 A9
          gi_wp2
          refine hRd.mono ?_
          rintro e w7 (⟨rfl, hj7, hk7, hs7⟩ | ⟨rfl, hJx7⟩)
          · have il7 := tok_end (D := D) (W := W) (C := C) (z := z) hi
            have cr7 := cry_go (D := D) (W := W) (C := C) (z := z) hi
            have hT := HTK.out.2.2
            rw [HSY.out] at il7 cr7 hT
            rw [← HO.out] at cr7
            have HT7 := hide (HX.out.on (i' := i + 1) HM6.out (by omega) cr7 il7 (by have := HX.out.ki; omega) HTK.out.1 hT H9.out.1 H9.out.2.1 H9.out.2.2 hk7 hs7 hj7)
            have k7 : w7.cell? ⟨b6, 0, none⟩ = some (.int .i64 0) := (World.cell?_of_block (hk7 b6 (.inl (.inr ⟨by omega, hz6⟩)))).trans z0
            clear hk7 hs7 hj7 cr7 hT hy
            gi_wp2
            go_roundw
            case rel => exact ⟨k + 1, i + 1, nx4, (O1, O2), f4, _, by go_num, il7, HT7⟩
            case measure => simp [intOf]; omega
          · have HJX := hide hJx7
            clear hJx7 hy
            gi_wp2
            refine bodyPost_ret (results_none rfl _ _ _) rfl ?_
            exact ⟨⟨_, rfl⟩, .inr HJX.out⟩
        · have g0 : ¬ (B1 : Int) = 0 := by omega
          by_cases hO0 : 0 < O1
          · have g1 : (0 : Int) < (O1 : Int) := by omega
            have HLI : Hid (Lit D W C z i) := HLT.out.2 (.inr hO0)
            have HTE : Hid (tok D W C z i = (0, 0, dv)) := by have := tok_lit HLI.out; rw [HDV.out] at this; exact this
            have HSY : Hid (says (tok D W C z i) = 1) := says_lit HLI.out
            have HM6 := hide (HM5.out.set6 hA hbw (0, 0, dv))
            obtain ⟨w6, hw6⟩ : ∃ w6, ((w5.setCell ⟨b6, 0, none⟩ (.int .i64 0)).setCell ⟨b6, 1, none⟩ (.int .i64 0)).setCell ⟨b6, 2, none⟩ (.int .u8 dv) = w6 := ⟨_, rfl⟩
            have hw6' : put3 w5 wr.heap.size (0, 0, dv) = w6 := by rw [hb6]; exact hw6
            rw [hw6'] at HM6
            clear hw6' HM5
            obtain ⟨x0, x1, x2, _, _, _⟩ := tkc_cells HM6.out.tk
            have z0 : w6.cell? ⟨b6, 0, none⟩ = some (.int .i64 0) := by rw [← hb6]; exact x0
            have z1 : w6.cell? ⟨b6, 1, none⟩ = some (.int .i64 0) := by rw [← hb6]; exact x1
            have z2 : w6.cell? ⟨b6, 2, none⟩ = some (.int .u8 dv) := by rw [← hb6]; exact x2
            clear x0 x1 x2
            have hT := HTK.out
            obtain ⟨J9, S9, T9, A9⟩ := HX.out.out HMV.out HM6.out
            have hYY := HY.out k (grw S wr w6) w6 hT.1 J9 S9 (fun b hb => Nat.lt_of_lt_of_le (HM6.out.tl.low b hb) (by have := HM6.out.sz; omega))
            rw [hT.2.1, HTE.out] at hYY
            obtain ⟨fn, tmps, assign, body, hy, hRd⟩ := hYY
            dsimp only [tkc] at hy
            have H9 := hide (And.intro S9 (And.intro T9 A9))
            have hz6 : b6 < w6.heap.size := by have := HM6.out.sz; omega
            clear hT J9 S9 T9 A9
            gi_wp2
            refine hRd.mono ?_
            rintro e w7 (⟨rfl, hj7, hk7, hs7⟩ | ⟨rfl, hJx7⟩)
            · have il7 := tok_end (D := D) (W := W) (C := C) (z := z) hi
              have cr7 := cry_go (D := D) (W := W) (C := C) (z := z) hi
              have hT := HTK.out.2.2
              rw [HSY.out] at il7 cr7 hT
              rw [← HO.out] at cr7
              have HT7 := hide (HX.out.on (i' := i + 1) HM6.out (by omega) cr7 il7 (by have := HX.out.ki; omega) HTK.out.1 hT H9.out.1 H9.out.2.1 H9.out.2.2 hk7 hs7 hj7)
              have k7 : w7.cell? ⟨b6, 0, none⟩ = some (.int .i64 0) := (World.cell?_of_block (hk7 b6 (.inl (.inr ⟨by omega, hz6⟩)))).trans z0
              clear hk7 hs7 hj7 cr7 hT hy
              gi_wp2
              go_roundw
              case rel => exact ⟨k + 1, i + 1, nx4, (O1, O2), f4, _, by go_num, il7, HT7⟩
              case measure => simp [intOf]; omega
            · have HJX := hide hJx7
              clear hJx7 hy
              gi_wp2
              refine bodyPost_ret (results_none rfl _ _ _) rfl ?_
              exact ⟨⟨_, rfl⟩, .inr HJX.out⟩
          · have g1 : ¬ (0 : Int) < (O1 : Int) := by omega
            have HLI : Hid (¬ Lit D W C z i) := fun e => by rcases HLT.out.1 e with e | e <;> omega
            have HTE : Hid (tok D W C z i = ((B1 : Int), (B2 : Int), 0)) := by have := tok_cpy HLI.out; rw [← HBS.out] at this; exact this
            have HSY : Hid (says (tok D W C z i) = B1) := by show _ = _; rw [HTE.out]; show max 1 (B1 : Int).toNat = B1; omega
            have z0 := l0
            have hmx : max (B1 : Int) 1 = (B1 : Int) := by omega
            have hT := HTK.out
            obtain ⟨J9, S9, T9, A9⟩ := HX.out.out HMV.out HM5.out
            have hYY := HY.out k (grw S wr w5) w5 hT.1 J9 S9 (fun b hb => Nat.lt_of_lt_of_le (HM5.out.tl.low b hb) (by have := HM5.out.sz; omega))
            rw [hT.2.1, HTE.out] at hYY
            obtain ⟨fn, tmps, assign, body, hy, hRd⟩ := hYY
            dsimp only [tkc] at hy
            have H9 := hide (And.intro S9 (And.intro T9 A9))
            have hz6 : b6 < w5.heap.size := by have := HM5.out.sz; omega
            clear hT J9 S9 T9 A9
            gi_wp2
            refine hRd.mono ?_
            rintro e w7 (⟨rfl, hj7, hk7, hs7⟩ | ⟨rfl, hJx7⟩)
            · have il7 := tok_end (D := D) (W := W) (C := C) (z := z) hi
              have cr7 := cry_go (D := D) (W := W) (C := C) (z := z) hi
              have hT := HTK.out.2.2
              rw [HSY.out] at il7 cr7 hT
              rw [← HO.out] at cr7
              have HT7 := hide (HX.out.on (i' := i + B1) HM5.out (by omega) cr7 il7 (by have := HX.out.ki; omega) HTK.out.1 hT H9.out.1 H9.out.2.1 H9.out.2.2 hk7 hs7 hj7)
              have k7 : w7.cell? ⟨b6, 0, none⟩ = some (.int .i64 (B1 : Int)) := (World.cell?_of_block (hk7 b6 (.inl (.inr ⟨by omega, hz6⟩)))).trans z0
              clear hk7 hs7 hj7 cr7 hT hy
              gi_wp2
              go_roundw
              case rel => exact ⟨k + 1, i + B1, nx4, (O1, O2), f4, _, by go_num, il7, HT7⟩
              case measure => simp [intOf]; omega
            · have HJX := hide hJx7
              clear hJx7 hy
              gi_wp2
              refine bodyPost_ret (results_none rfl _ _ _) rfl ?_
              exact ⟨⟨_, rfl⟩, .inr HJX.out⟩
    · have hlt : ¬ (i : Int) < (D.length : Int) := by omega
      have hr := HX.out.rest
      rw [tks_end hi] at hr
      have hkl : (tkl D W C z).length ≤ k := by
        have := congrArg List.length hr
        simp at this
        omega
      have hke : k = (tkl D W C z).length := by have := HX.out.kl; omega
      have hjj := HX.out.j
      rw [hke] at hjj
      have HJJ := hide hjj
      clear hjj hr hkl hke HX
      gi_wp2
      refine bodyPost_end (results_none rfl _ _ _) rfl ?_
      exact ⟨⟨_, rfl⟩, .inl ⟨_, HJJ.out⟩⟩
end Go.Proofs.Ytjldmphfdaoecaa

namespace Go.Proofs.Ytjldmphfdaoecaa
open Go.RowKit Go.Maps
set_option maxRecDepth 20000
set_option linter.unusedVariables false

theorem newteller_any (v : Value) (D : List Int) (W C : Nat) (z : Bool) (w : World) (h : SB w v D) (hlow : ∀ k, v.ownBlock = some k → k < w.heap.size) :
    Calls Try.prog 17 #[v, .agg #[.int .i64 (W : Int), .int .i64 (C : Int), .bool z]] w fun e w' => ∃ g m, e = .returned (.pointer (some ⟨g, 0, none⟩)) ∧ Tlx w' w.heap.size g m v D W C z (fun _ => .slice none 0 0) 0 ∧ Below w.heap.size w w' := by
  have HF : Hid (Tlx (((w.alloc (.cells #[.int .i64 (W : Int), .int .i64 (C : Int), .bool z] 24)).alloc (.map #[] 0)).alloc (.cells #[v, .int .i64 (W : Int), .int .i64 (C : Int), .bool z, .map (some (w.heap.size + 1)), .int .i64 0] 48)) w.heap.size (w.heap.size + 2) (w.heap.size + 1) v D W C z (fun _ => .slice none 0 0) 0 ∧
      Below w.heap.size w (((w.alloc (.cells #[.int .i64 (W : Int), .int .i64 (C : Int), .bool z] 24)).alloc (.map #[] 0)).alloc (.cells #[v, .int .i64 (W : Int), .int .i64 (C : Int), .bool z, .map (some (w.heap.size + 1)), .int .i64 0] 48))) := by
    have b1 : Below w.heap.size w (w.alloc (.cells #[.int .i64 (W : Int), .int .i64 (C : Int), .bool z] 24)) := (Below.refl _ _).alloc (Nat.le_refl _) _
    have b2 := b1.alloc (by have := b1.size; omega) (.map #[] 0)
    have b3 := b2.alloc (by have := b2.size; omega) (.cells #[v, .int .i64 (W : Int), .int .i64 (C : Int), .bool z, .map (some (w.heap.size + 1)), .int .i64 0] 48)
    have e2 := heap_alloc_new (w.alloc (.cells #[.int .i64 (W : Int), .int .i64 (C : Int), .bool z] 24)) (.map #[] 0)
    have e3 := heap_alloc_new ((w.alloc (.cells #[.int .i64 (W : Int), .int .i64 (C : Int), .bool z] 24)).alloc (.map #[] 0)) (.cells #[v, .int .i64 (W : Int), .int .i64 (C : Int), .bool z, .map (some (w.heap.size + 1)), .int .i64 0] 48)
    refine ⟨Tlr.start ?_ (by omega) (by omega) (by omega) (h.below b3) hlow ?_, b3⟩
    · have s3 : ((w.alloc (.cells #[.int .i64 (W : Int), .int .i64 (C : Int), .bool z] 24)).alloc (.map #[] 0)).heap.size = w.heap.size + 2 := by simp
      rw [s3] at e3
      exact e3
    · have s2 : (w.alloc (.cells #[.int .i64 (W : Int), .int .i64 (C : Int), .bool z] 24)).heap.size = w.heap.size + 1 := by simp
      rw [s2] at e2
      exact (Below.heap_alloc _ _ _ (by simp)).trans e2
  obtain ⟨ao, cap, rfl, _, _⟩ := h.open
  clear h hlow
  have hmm := @run_makeMap Try.prog
  go_enter Try.func17, Try.ntmps17
  go_wp2
  go_ret
  exact ⟨_, _, rfl, HF.out.1, HF.out.2⟩
end Go.Proofs.Ytjldmphfdaoecaa

