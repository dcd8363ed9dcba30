import Derived.Test.YtlidmhdcikcpkaaGWcp
import Derived.Test.YtlidmhdcikcpkaaGFrm
namespace Go.Proofs.Ytlidmhdcikcpkaa
open Go.RowKit Go.Maps
set_option maxRecDepth 20000
set_option linter.unusedVariables false
set_option linter.unusedSimpArgs false

theorem Grew.by {w w' : World} {v v' : Value} (h : Grew w w' v v') : w.grownBy w' v.ownBlock := by
  rcases h with ⟨_, rfl⟩ | ⟨_, hb⟩ | ⟨_, _, hg⟩
  · exact World.grownBy.refl _ _
  · exact ⟨hb.os, hb.tape, hb.output, hb.size, fun k hk _ => hb.block k hk⟩
  · exact hg

theorem Grew.at {w w' : World} {v v' : Value} (h : Grew w w' v v') : v'.ownBlock = some w.heap.size ∨ v'.ownBlock = v.ownBlock := by
  rcases h with ⟨rfl, _⟩ | ⟨h, _⟩ | ⟨h, _⟩
  · exact .inr rfl
  · exact .inl h
  · exact .inr h

theorem built_src (w : World) (cs : List Int) : Src Try.prog 1 34 (.slice (some ⟨w.heap.size, 0, none⟩) cs.length cs.length) cs.length (cs.map (Value.int .u8)) (w.alloc (.cells (cs.map (Value.int .u8)).toArray 5)) := by
  refine Src.ofSlice _ Try.underlying34 _ _ _ _ (by simp) (fun j u hj => ?_) (fun u hu => by obtain ⟨n, _, rfl⟩ := List.mem_map.1 hu; rfl)
  have e := heap_alloc_new w (.cells (cs.map (Value.int .u8)).toArray 5)
  rw [Addr.add_lit]
  unfold World.cell?
  simp only [e, Nat.zero_add]
  simpa using hj

theorem OB.alloc {w : World} {base : Nat} {v : Value} {l : List Int} (h : OB w base v l) (o : Obj) : OB (w.alloc o) base v l := h.move fun k hk => Below.heap_alloc w o k (h.lt k hk).2

def marks4 : List Int := [192, 193, 194, 195]

theorem SB.cellsAt {w : World} {g o n c : Nat} {l : List Int} (h : SB w (.slice (some ⟨g, o, none⟩) n c) l) : ∀ i, i < l.length → w.cell? ⟨g, o + i, none⟩ = some (.int .u8 (l.getD i 0)) := by
  obtain ⟨ao, cap, he, h1, h2, h3, h4⟩ := h
  simp only [Value.slice.injEq] at he
  intro i hi
  have := h4 ⟨g, o, none⟩ he.1.symm i hi
  rwa [Addr.add_lit] at this

/-- A framed write: where it begins, the block and the room of its bytes and marks, the bytes. -/
structure Fe where
  at' : Int
  g : Nat
  c : Nat
  l : List Int
def Fe.dv (e : Fe) : Value := .slice (some ⟨e.g, 0, none⟩) e.l.length e.c
def Fe.fv (e : Fe) : Value := .slice (some ⟨e.g, 0, none⟩) (e.l.length + 4) e.c
def Fe.cs (e : Fe) : Array Value := #[.int .i64 e.at', e.dv]
def Fe.ls (e : Fe) : Array Value := #[e.fv]
def Fe.we (e : Fe) : We := ⟨e.at', e.dv, e.l⟩
def fe0 : Fe := ⟨0, 0, 0, []⟩

structure FW (w : World) (base : Nat) (v1 v2 : Value) (R : List Fe) : Prop where
  o1 : OR 41 2 w base v1 (R.map Fe.cs)
  o2 : OR 34 1 w base v2 (R.map Fe.ls)
  ne : ∀ k, v1.ownBlock = some k → v2.ownBlock ≠ some k
  el : ∀ e ∈ R, OB w base e.fv (e.l ++ marks4) ∧ v1.ownBlock ≠ some e.g ∧ v2.ownBlock ≠ some e.g

theorem OR.grown {T n : Nat} {w w' : World} {base : Nat} {v : Value} {R : List (Array Value)} {row : Option Nat} (h : OR T n w base v R) (hg : w.grownBy w' row) (hne : ∀ k, v.ownBlock = some k → row ≠ some k) : OR T n w' base v R :=
  h.move fun k hk => hg.block k (h.lt k hk).2 (fun e => hne k hk e.symm)
theorem OB.grown {w w' : World} {base : Nat} {v : Value} {l : List Int} {row : Option Nat} (h : OB w base v l) (hg : w.grownBy w' row) (hne : ∀ k, v.ownBlock = some k → row ≠ some k) : OB w' base v l :=
  h.move fun k hk => hg.block k (h.lt k hk).2 (fun e => hne k hk e.symm)

theorem fe_len (e : Fe) : (e.l ++ marks4).length = e.l.length + 4 := by simp [marks4]
theorem OB.front {w : World} {base : Nat} {e : Fe} (h : OB w base e.fv (e.l ++ marks4)) : SB w e.dv e.l := by
  obtain ⟨ao, cap, he, h1, h2, h3, h4⟩ := h.sb
  rw [fe_len] at he h1
  simp only [Fe.fv, Value.slice.injEq] at he
  obtain ⟨rfl, -, rfl⟩ := he
  refine ⟨_, _, rfl, by omega, h2, (fun q => nomatch q), fun x hx i hi => ?_⟩
  have := h4 x hx i (by rw [fe_len]; omega)
  rw [this]
  simp [hi, List.getElem?_append_left]

theorem FW.sw {w : World} {base : Nat} {v1 v2 : Value} {R : List Fe} (h : FW w base v1 v2 R) : SW w v1 (R.map Fe.we) := by
  refine ⟨?_, fun e he => ?_⟩
  · have := h.o1.sr
    rw [List.map_map]
    exact this
  · obtain ⟨f, hf, rfl⟩ := List.mem_map.1 he
    exact (h.el f hf).1.front

theorem FW.below {w w' : World} {base : Nat} {v1 v2 : Value} {R : List Fe} (h : FW w base v1 v2 R) (hb : Below w.heap.size w w') : FW w' base v1 v2 R :=
  ⟨h.o1.below hb (Nat.le_refl _), h.o2.below hb (Nat.le_refl _), h.ne, fun e he => ⟨(h.el e he).1.below hb (Nat.le_refl _), (h.el e he).2⟩⟩

/-- One write more, framed. -/
theorem FW.step {base : Nat} {wr w2 w3 w4 : World} {v1 v2 x1 x2 : Value} {R : List Fe} {e : Fe} {p1 p2 : Obj} (h : FW wr base v1 v2 R) (hbase : base ≤ wr.heap.size) (hb2 : Below wr.heap.size wr w2) (ho2 : OB w2 wr.heap.size e.fv (e.l ++ marks4))
    (q1 : OR 41 2 w3 base x1 (R.map Fe.cs ++ [e.cs])) (g1 : (w2.alloc p1).grownBy w3 v1.ownBlock) (a1 : x1.ownBlock = v1.ownBlock ∨ x1.ownBlock = some (w2.alloc p1).heap.size)
    (q2 : OR 34 1 w4 base x2 (R.map Fe.ls ++ [e.ls])) (g2 : (w3.alloc p2).grownBy w4 v2.ownBlock) (a2 : x2.ownBlock = v2.ownBlock ∨ x2.ownBlock = some (w3.alloc p2).heap.size) : FW w4 base x1 x2 (R ++ [e]) := by
  have s2 := hb2.size
  have s3 : w2.heap.size + 1 ≤ w3.heap.size := by have := g1.size; rw [size_alloc'] at this; exact this
  have l1 := h.o1.lt
  have l2 := h.o2.lt
  have le := ho2.lt e.g rfl
  rw [size_alloc'] at a1 a2
  have m1 : ∀ k, x1.ownBlock = some k → base ≤ k ∧ k < w3.heap.size := q1.lt
  have x1v2 : ∀ k, x1.ownBlock = some k → v2.ownBlock ≠ some k := fun k hk e2 => by
    rcases a1 with a | a
    · rw [a] at hk; exact h.ne k hk e2
    · rw [a] at hk; have := Option.some.inj hk; have := (l2 k e2).2; omega
  have x1x2 : ∀ k, x1.ownBlock = some k → x2.ownBlock ≠ some k := fun k hk e2 => by
    rcases a2 with a | a
    · rw [a] at e2; exact x1v2 k hk e2
    · rw [a] at e2; have := Option.some.inj e2; have := (m1 k hk).2; omega
  have far : ∀ k, k < w2.heap.size → v1.ownBlock ≠ some k → v2.ownBlock ≠ some k → w4.heap[k]? = w2.heap[k]? ∧ x1.ownBlock ≠ some k ∧ x2.ownBlock ≠ some k := fun k hk n1 n2 => by
    refine ⟨?_, fun e1 => ?_, fun e2 => ?_⟩
    · rw [g2.block k (by rw [size_alloc']; omega) (fun e => n2 e.symm), Below.heap_alloc w3 p2 k (by omega), g1.block k (by rw [size_alloc']; omega) (fun e => n1 e.symm), Below.heap_alloc w2 p1 k hk]
    · rcases a1 with a | a
      · rw [a] at e1; exact n1 e1
      · rw [a] at e1; have := Option.some.inj e1; omega
    · rcases a2 with a | a
      · rw [a] at e2; exact n2 e2
      · rw [a] at e2; have := Option.some.inj e2; omega
  refine ⟨?_, by rw [List.map_append]; exact q2, x1x2, fun f hf => ?_⟩
  · rw [List.map_append]
    exact (q1.alloc p2).grown g2 (fun k hk => x1v2 k hk)
  · rcases List.mem_append.1 hf with hf | hf
    · obtain ⟨k1, k2, k3⟩ := h.el f hf
      have kl := k1.lt f.g rfl
      have := far f.g (by omega) k2 k3
      refine ⟨k1.move fun k hk => ?_, this.2⟩
      obtain rfl : f.g = k := by simpa [Fe.fv, Value.ownBlock] using hk
      rw [this.1]
      exact hb2.block _ kl.2
    · obtain rfl := List.mem_singleton.1 hf
      have n1 : v1.ownBlock ≠ some f.g := fun q => by have := (l1 _ q).2; omega
      have n2 : v2.ownBlock ≠ some f.g := fun q => by have := (l2 _ q).2; omega
      have := far f.g le.2 n1 n2
      refine ⟨(ho2.move fun k hk => ?_).base hbase, this.2⟩
      obtain rfl : f.g = k := by simpa [Fe.fv, Value.ownBlock] using hk
      exact this.1
theorem infoB : (Try.prog.info? 34).map (fun i => (i.zero, i.size, i.bytes)) = some (some (.slice none 0 0), 1, 24) := by kernel_rfl
end Go.Proofs.Ytlidmhdcikcpkaa

