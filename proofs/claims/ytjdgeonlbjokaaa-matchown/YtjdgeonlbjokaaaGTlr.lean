import Derived.Test.YtjdgeonlbjokaaaGMpr
namespace Go.Proofs.Ytjdgeonlbjokaaa
open Go.RowKit Go.Maps
set_option maxRecDepth 20000
set_option linter.unusedVariables false

theorem wpList_appX {w : World} {ops : Array Oper} {rest : List Oper} {o : Oper} {a : Act} {Q : Exit → Act → World → Prop} (hgd : o.guard = none) (s x : Operand)
    (ho : o.op = .call { callee := .builtin .append, args := #[s, x], argTypes := #[56, 56] }) (base : Nat) (v xv : Value) (l : List Int) (y : Int) (hv : a.eval s = v) (hown : OX w base v l) (hx : a.eval x = xv) (hs : Src Try.prog 1 56 xv 1 [Value.int .i64 y] w)
    (hb : l.length ≤ 1000000000) (hbase : base ≤ w.heap.size)
    (h : ∀ v' w', OX w' base v' (l ++ [y]) → Grew w w' v v' → wpList Try.prog ops Q rest (a.put o.dst v') w') : wpList Try.prog ops Q (o :: rest) a w := by
  refine wpList_plain hgd fun K hK => ?_
  obtain ⟨v', w', hr, h2, h3⟩ := run_appX w base o.type v xv l y hown hs hb hbase
  unfold Oper.wp
  simp [execOp, ho, resolve, invoke, builtin, hv, hx, hr, Result.andThen]
  exact hK _ _ (h v' w' h2 h3)

theorem cellIn {w : World} {g k : Nat} {cur : Array Value} {t : TypeId} {fz : Nat × Nat} {u : Value} (h : w.heap[g]? = some (.cells cur t fz)) (hk : cur[k]? = some u) : w.cell? ⟨g, k, none⟩ = some u := by
  unfold World.cell?
  simp only [h]
  exact hk

/-- The teller's box. -/
def TB (w : World) (g : Nat) (v : Value) (W C : Nat) (z : Bool) (m nx : Nat) : Prop := w.heap[g]? = some (.cells #[v, .int .i64 W, .int .i64 C, .bool z, .map (some m), .int .i64 nx] 61 (0, 0))

theorem TB.cells {w : World} {g m W C nx : Nat} {v : Value} {z : Bool} (h : TB w g v W C z m nx) : w.cell? ⟨g, 0, none⟩ = some v ∧ w.cell? ⟨g, 1, none⟩ = some (.int .i64 W) ∧ w.cell? ⟨g, 2, none⟩ = some (.int .i64 C) ∧ w.cell? ⟨g, 3, none⟩ = some (.bool z) ∧ w.cell? ⟨g, 4, none⟩ = some (.map (some m)) ∧ w.cell? ⟨g, 5, none⟩ = some (.int .i64 nx) :=
  ⟨cellIn h rfl, cellIn h rfl, cellIn h rfl, cellIn h rfl, cellIn h rfl, cellIn h rfl⟩

/-- The teller in memory: the places from a on, n of them, lie in the map. -/
structure Tlr (w : World) (base g m N : Nat) (v : Value) (D : List Int) (W C : Nat) (z : Bool) (f : Int × Int × Int → Value) (a n nx : Nat) : Prop where
  box : TB w g v W C z m nx
  bg : base ≤ g
  bm : base ≤ m
  gm : g ≠ m
  dat : SB w v D
  low : ∀ k, v.ownBlock = some k → k < base
  map : MP w m N f
  rows : ∀ k, Key3 k → OX w base (f k) (ins (plc D k a n))
  off : ∀ k b, Key3 k → (f k).ownBlock = some b → b ≠ g ∧ b ≠ m
  sep : ∀ k q b, Key3 k → Key3 q → k ≠ q → (f k).ownBlock = some b → (f q).ownBlock = some b → False

theorem Tlr.lt {w : World} {base g m N W C a n nx : Nat} {v : Value} {D : List Int} {z : Bool} {f : Int × Int × Int → Value} (h : Tlr w base g m N v D W C z f a n nx) : g < w.heap.size ∧ m < w.heap.size := ⟨(Array.getElem?_eq_some_iff.1 h.box).1, h.map.lt⟩

theorem Tlr.key {D : List Int} (hB : Byt D) (i : Nat) : Key3 (thk D i) := ⟨hB i, hB (i + 1), hB (i + 2)⟩

/-- One row has turned. -/
theorem Tlr.turn {w w' : World} {base g m N N' W C a n a' n' nx : Nat} {v u : Value} {D : List Int} {z : Bool} {f : Int × Int × Int → Value} {k : Int × Int × Int} (h : Tlr w base g m N v D W C z f a n nx) (hk : Key3 k) (hbw : base ≤ w.heap.size)
    (hfr : ∀ b, b < w.heap.size → b ≠ m → (f k).ownBlock ≠ some b → w'.heap[b]? = w.heap[b]?) (hu : OX w' base u (ins (plc D k a' n'))) (hub : ∀ b, u.ownBlock = some b → (f k).ownBlock = some b ∨ w.heap.size ≤ b)
    (hmp : MP w' m N' (fup f k u)) (hne : ∀ q, Key3 q → q ≠ k → plc D q a' n' = plc D q a n) : Tlr w' base g m N' v D W C z (fup f k u) a' n' nx where
  box := (hfr g h.lt.1 h.gm (fun e => (h.off k g hk e).1 rfl)).trans h.box
  bg := h.bg
  bm := h.bm
  gm := h.gm
  dat := h.dat.move fun ad _ ha hb => by
    have hl := h.low _ hb
    exact (World.cell?_of_block (hfr ad.block (by omega) (by have := h.bm; omega) (fun e => by have := ((h.rows k hk).lt _ e).1; omega))).trans ha
  low := h.low
  map := hmp
  rows := fun q hq => by
    unfold fup
    by_cases e : q = k
    · rw [if_pos e, e]; exact hu
    · rw [if_neg e, hne q hq e]
      exact (h.rows q hq).move fun b hb => hfr b ((h.rows q hq).lt b hb).2 (h.off q b hq hb).2 (fun e2 => h.sep q k b hq hk e hb e2)
  off := fun q b hq hb => by
    unfold fup at hb
    by_cases e : q = k
    · rw [if_pos e] at hb
      rcases hub b hb with e2 | e2
      · exact h.off k b hk e2
      · have := h.lt; exact ⟨by omega, by omega⟩
    · rw [if_neg e] at hb
      exact h.off q b hq hb
  sep := fun p q b hp hq hpq h1 h2 => by
    unfold fup at h1 h2
    by_cases e1 : p = k
    · rw [if_pos e1] at h1
      have e2 : q ≠ k := fun e => hpq (e1.trans e.symm)
      rw [if_neg e2] at h2
      rcases hub b h1 with e3 | e3
      · exact h.sep k q b hk hq (fun e => e2 e.symm) e3 h2
      · have := ((h.rows q hq).lt b h2).2; omega
    · rw [if_neg e1] at h1
      by_cases e2 : q = k
      · rw [if_pos e2] at h2
        rcases hub b h2 with e3 | e3
        · exact h.sep p k b hp hk e1 h1 e3
        · have := ((h.rows p hp).lt b h1).2; omega
      · rw [if_neg e2] at h2
        exact h.sep p q b hp hq hpq h1 h2

/-- What is not the teller's stays, and becomes none of its. -/
def FT (g m : Nat) (f f' : Int × Int × Int → Value) (w w' : World) : Prop := w.heap.size ≤ w'.heap.size ∧ ∀ b, b < w.heap.size → b ≠ g → b ≠ m → (∀ k, Key3 k → (f k).ownBlock ≠ some b) → w'.heap[b]? = w.heap[b]? ∧ ∀ k, Key3 k → (f' k).ownBlock ≠ some b

theorem FT.refl (g m : Nat) (f : Int × Int × Int → Value) (w : World) : FT g m f f w w := ⟨Nat.le_refl _, fun b _ _ _ h => ⟨rfl, h⟩⟩
theorem FT.trans {g m : Nat} {f f' f'' : Int × Int × Int → Value} {a b c : World} (h : FT g m f f' a b) (k : FT g m f' f'' b c) : FT g m f f'' a c :=
  ⟨Nat.le_trans h.1 k.1, fun i hi h1 h2 h3 => by
    obtain ⟨e1, e2⟩ := h.2 i hi h1 h2 h3
    obtain ⟨e3, e4⟩ := k.2 i (Nat.lt_of_lt_of_le hi h.1) h1 h2 e2
    exact ⟨e3.trans e1, e4⟩⟩
theorem FT.of_below {g m : Nat} {f : Int × Int × Int → Value} {w w' : World} (h : Below w.heap.size w w') : FT g m f f w w' := ⟨h.size, fun b hb _ _ h3 => ⟨h.block b hb, h3⟩⟩
theorem FT.turn {w w' : World} {g m : Nat} {u : Value} {f : Int × Int × Int → Value} {k : Int × Int × Int} (hk : Key3 k) (hsz : w.heap.size ≤ w'.heap.size)
    (hfr : ∀ b, b < w.heap.size → b ≠ m → (f k).ownBlock ≠ some b → w'.heap[b]? = w.heap[b]?) (hub : ∀ b, u.ownBlock = some b → (f k).ownBlock = some b ∨ w.heap.size ≤ b) : FT g m f (fup f k u) w w' :=
  ⟨hsz, fun b hb _ h2 h3 => ⟨hfr b hb h2 (h3 k hk), fun q hq e => by
    unfold fup at e
    by_cases c : q = k
    · rw [if_pos c] at e
      rcases hub b e with x | x
      · exact h3 k hk x
      · omega
    · rw [if_neg c] at e
      exact h3 q hq e⟩⟩

/-- What lies elsewhere turns. -/
theorem Tlr.far {w w' : World} {base g m N W C a n nx : Nat} {v : Value} {D : List Int} {z : Bool} {f : Int × Int × Int → Value} (h : Tlr w base g m N v D W C z f a n nx) (hb : Below w.heap.size w w') : Tlr w' base g m N v D W C z f a n nx where
  box := (hb.block g h.lt.1).trans h.box
  bg := h.bg
  bm := h.bm
  gm := h.gm
  dat := h.dat.below hb
  low := h.low
  map := h.map.move (hb.block m h.lt.2)
  rows := fun q hq => (h.rows q hq).move fun b hbb => hb.block b ((h.rows q hq).lt b hbb).2
  off := h.off
  sep := h.sep

/-- The place moves on. -/
theorem Tlr.next {w w' : World} {base g m N W C a n nx nx' : Nat} {v : Value} {D : List Int} {z : Bool} {f : Int × Int × Int → Value} (h : Tlr w base g m N v D W C z f a n nx) (hbox : TB w' g v W C z m nx') (hb : ∀ b, b ≠ g → w'.heap[b]? = w.heap[b]?) : Tlr w' base g m N v D W C z f a n nx' where
  box := hbox
  bg := h.bg
  bm := h.bm
  gm := h.gm
  dat := h.dat.move fun ad _ ha hbb => by
    have := h.low _ hbb
    have := h.bg
    exact (World.cell?_of_block (hb ad.block (by omega))).trans ha
  low := h.low
  map := h.map.move (hb m (fun e => h.gm e.symm))
  rows := fun q hq => (h.rows q hq).move fun b hbb => hb b (h.off q b hq hbb).1
  off := h.off
  sep := h.sep
end Go.Proofs.Ytjdgeonlbjokaaa

