import Derived.Test.YtlidmhdcikcpkaaGFrd
import Derived.BigQuiet
import Derived.Deep.QuietTactic
namespace Go.Proofs.Ytlidmhdcikcpkaa
open Go.RowKit Go.Maps
set_option maxRecDepth 20000
set_option linter.unusedVariables false
set_option linter.unusedSimpArgs false

theorem setCell_others (w : World) (g o : Nat) (u : Value) : ∀ k, k ≠ g → (w.setCell ⟨g, o, none⟩ u).heap[k]? = w.heap[k]? := fun k hk => Below.heap_setCell w _ u k hk

theorem size_setCell (w : World) (a : Addr) (u : Value) : (w.setCell a u).heap.size = w.heap.size := by simp [World.setCell]

theorem ownsRow_move {w w' : World} {B : Nat} {e : TypeId} {v : Value} {n : Nat} {xs : List Value} (h : w.ownsRow B e 1 v n xs) (hk : ∀ k, v.ownBlock = some k → w'.heap[k]? = w.heap[k]?) : w'.ownsRow B e 1 v n xs := by
  refine ⟨h.1, ?_⟩
  rcases h.2 with h2 | ⟨g, cap, cur, rfl, h1, h2, r⟩
  · exact .inl h2
  · exact .inr ⟨g, cap, cur, rfl, h1, (hk g rfl).trans h2, r⟩

theorem ownsRow_alloc {w : World} {B : Nat} {e : TypeId} {v : Value} {n : Nat} {xs : List Value} (h : w.ownsRow B e 1 v n xs) (o : Obj) : (w.alloc o).ownsRow B e 1 v n xs := by
  refine ⟨h.1, ?_⟩
  rcases h.2 with h2 | ⟨g, cap, cur, rfl, h1, h2, r⟩
  · exact .inl h2
  · exact .inr ⟨g, cap, cur, rfl, h1, (Below.heap_alloc w o g (Array.getElem?_eq_some_iff.1 h2).1).trans h2, r⟩

theorem heap_setCell_at {w : World} {g k : Nat} {cur : Array Value} {t : TypeId} (u : Value) (h : w.heap[g]? = some (.cells cur t (0, 0))) : (w.setCell ⟨g, k, none⟩ u).heap[g]? = some (.cells (cur.setIfInBounds k u) t (0, 0)) := by
  simp [World.setCell, Array.getElem?_modify, h]

theorem set_front (m : Value) (L : List Value) (k : Nat) (h : k < L.length) : ((List.replicate k m ++ L.drop k).toArray.setIfInBounds k m) = (List.replicate (k + 1) m ++ L.drop (k + 1)).toArray := by
  apply Array.ext'
  simp only [Array.toList_setIfInBounds]
  rw [List.set_append_right _ _ (by simp)]
  have e : L.drop k = L[k] :: L.drop (k + 1) := List.drop_eq_getElem_cons h
  have e2 : (L.drop k).set 0 m = m :: L.drop (k + 1) := by rw [e]; rfl
  simp [List.replicate_succ', e2]

theorem grownBy_set {w : World} {g k : Nat} {u : Value} {r : Option Nat} (hr : r = some g) : w.grownBy (w.setCell ⟨g, k, none⟩ u) r :=
  ⟨rfl, rfl, rfl, by rw [size_setCell]; exact Nat.le_refl _, fun i _ hi => setCell_others w g k u i (fun e => hi (by rw [hr, e]))⟩

theorem grownBy_drew {w w' : World} {r : Option Nat} (h : w.grownBy w' r) : w.grownBy w'.drew r := ⟨h.os, h.tape, h.output, h.size, h.block⟩

theorem grownBy_alloc' (w : World) (o : Obj) (r : Option Nat) : w.grownBy (w.alloc o) r :=
  ⟨rfl, rfl, rfl, by simp, fun k hk _ => Below.heap_alloc w o k hk⟩

/-- A block that was not there may be written. -/
theorem grownBy_new {w w' : World} {r : Option Nat} {g o : Nat} {u : Value} (h : w.grownBy w' r) (hg : w.heap.size ≤ g) : w.grownBy (w'.setCell ⟨g, o, none⟩ u) r :=
  ⟨h.os, h.tape, h.output, by rw [size_setCell]; exact h.size, fun k hk hr => (setCell_others w' g o u k (by omega)).trans (h.block k hk hr)⟩

theorem OB.setAt {w : World} {base b p j : Nat} {l : List Int} (c : Int) (h : OB w base (.slice (some ⟨b, 0, none⟩) l.length p) l) :
    OB (w.setCell ⟨b, j, none⟩ (.int .u8 c)) base (.slice (some ⟨b, 0, none⟩) l.length p) (l.set j c) := by
  rcases h.2 with ⟨hx, _⟩ | ⟨g, cap, cur, he, h1, h2, h3, h4, h5, h6⟩
  · simp at hx
  · simp only [Value.slice.injEq, Option.some.injEq, Addr.mk.injEq] at he
    obtain ⟨⟨rfl, -, -⟩, -, rfl⟩ := he
    refine ⟨by simp, .inr ⟨b, p, cur.setIfInBounds j (.int .u8 c), by simp, h1, heap_setCell_at _ h2, by simpa using h3, h4, by simpa using h5, ?_⟩⟩
    rw [Nat.mul_one, List.length_set, Array.toList_setIfInBounds, List.map_set]
    rw [Nat.mul_one] at h6
    rw [List.take_set, h6]

theorem OB.cellAt {w : World} {base b p j : Nat} {l : List Int} (h : OB w base (.slice (some ⟨b, 0, none⟩) l.length p) l) (hj : j < l.length) : w.cell? ⟨b, j, none⟩ = some (.int .u8 (l.getD j 0)) ∧ w.frozen? ⟨b, j, none⟩ = false := by
  refine ⟨?_, ?_⟩
  · have := World.ownsRow.cells h (g := b) rfl j (.int .u8 (l.getD j 0)) (by simp [hj])
    rw [Addr.add_lit] at this
    simpa using this
  · rcases h.2 with ⟨hx, _⟩ | ⟨g, cap, cur, he, h1, h2, h3, h4, h5, h6⟩
    · simp at hx
    · simp only [Value.slice.injEq, Option.some.injEq, Addr.mk.injEq] at he
      obtain ⟨⟨rfl, -, -⟩, -, rfl⟩ := he
      simp [World.frozen?, h2]

theorem OB.some {w : World} {base : Nat} {v : Value} {l : List Int} (h : OB w base v l) (hl : 0 < l.length) : ∃ b p, v = .slice (.some ⟨b, 0, none⟩) l.length p ∧ l.length ≤ p ∧ p ≤ 9223372036854775807 := by
  rcases h.2 with ⟨rfl, h0⟩ | ⟨g, cap, cur, rfl, h1, h2, h3, h4, h5, h6⟩
  · omega
  · unfold maxLen at h4
    exact ⟨g, cap, rfl, h3, by omega⟩

structure Keep (ls : List (Value × List Int)) (w w' : World) : Prop where
  os : w'.os = w.os
  tape : w'.tape = w.tape
  output : w'.output = w.output
  size : w.heap.size ≤ w'.heap.size
  block : ∀ k, k < w.heap.size → (∀ p ∈ ls, p.1.ownBlock ≠ some k) → w'.heap[k]? = w.heap[k]?

theorem Keep.refl (ls : List (Value × List Int)) (w : World) : Keep ls w w := ⟨rfl, rfl, rfl, Nat.le_refl _, fun _ _ _ => rfl⟩

theorem Keep.trans {ls : List (Value × List Int)} {a b c : World} (h : Keep ls a b) (k : Keep ls b c) : Keep ls a c :=
  ⟨k.os.trans h.os, k.tape.trans h.tape, k.output.trans h.output, Nat.le_trans h.size k.size, fun i hi hn => (k.block i (Nat.lt_of_lt_of_le hi h.size) hn).trans (h.block i hi hn)⟩

theorem Keep.grown {ls : List (Value × List Int)} {w w' : World} {p : Value × List Int} (hp : p ∈ ls) (h : w.grownBy w' p.1.ownBlock) : Keep ls w w' :=
  ⟨h.os, h.tape, h.output, h.size, fun k hk hn => h.block k hk (fun e => hn p hp e.symm)⟩


/-- The lists that were kept, and the row that holds them. -/
structure Lists (w : World) (B : Nat) (ls : List (Value × List Int)) (gR : Nat) : Prop where
  ob : ∀ (j : Nat) (p : Value × List Int), ls[j]? = some p → OB w B p.1 p.2
  sep : ∀ (i j : Nat) (p q : Value × List Int), ls[i]? = some p → ls[j]? = some q → i ≠ j → ∀ k, p.1.ownBlock = some k → q.1.ownBlock ≠ some k
  row : ∀ (j : Nat) (p : Value × List Int), ls[j]? = some p → w.cell? ⟨gR, j, none⟩ = some p.1
  apart : ∀ p ∈ ls, p.1.ownBlock ≠ some gR
  few : ls.length ≤ 1048576
  len : ∀ p ∈ ls, p.2.length ≤ 100000000000000
  base : B ≤ w.heap.size

def mkj (p : Value × List Int) (j : Nat) : List Int := List.replicate p.2.length ((j : Int) % 200)

theorem Lists.cell {w wr : World} {B : Nat} {ls : List (Value × List Int)} {gR : Nat} (h : Lists w B ls gR) (hk : Keep ls w wr) {k : Nat} {p : Value × List Int} (hp : ls[k]? = some p) : wr.cell? ⟨gR, k, none⟩ = some p.1 := by
  have hc := h.row k p hp
  rw [World.cell?_of_block (w := w) (hk.block gR (World.block_lt_of_cell? _ _ hc) h.apart)]
  exact hc

theorem Lists.lt {w : World} {B : Nat} {ls : List (Value × List Int)} {gR : Nat} (h : Lists w B ls gR) {j : Nat} {p : Value × List Int} (hp : ls[j]? = some p) : ∀ k, p.1.ownBlock = some k → k < w.heap.size := fun k hk => ((h.ob j p hp).lt k hk).2

theorem SB.same {w w' : World} {v : Value} {l : List Int} (h : SB w v l) (hk : ∀ k, v.ownBlock = some k → w'.heap[k]? = w.heap[k]?) : SB w' v l :=
  h.move fun a u ha hv => by rw [World.cell?_of_block (w := w) (hk a.block hv)]; exact ha

theorem SB.alloc' {w : World} {v : Value} {l : List Int} (h : SB w v l) (o : Obj) : SB (w.alloc o) v l := h.below ((Below.refl _ _).alloc (Nat.le_refl _) o)

theorem OB.prefix {w w' : World} {B B' n c : Nat} {a : Option Addr} {v' : Value} {l r : List Int} (h : OB w B (.slice a n c) l) (h' : OB w' B' v' (l ++ r)) (he : v'.ownBlock = (Value.slice a n c).ownBlock) : SB w' (.slice a n c) l := by
  obtain ⟨ao, cap, hv, h1, h2, h3, h4⟩ := h.sb
  simp only [Value.slice.injEq] at hv
  obtain ⟨rfl, rfl, rfl⟩ := hv
  refine ⟨a, c, rfl, h1, h2, h3, fun x hx i hi => ?_⟩
  subst hx
  rcases h.2 with ⟨hn, _⟩ | ⟨g, cap, cur, hn, _⟩
  · simp at hn
  · simp only [Value.slice.injEq, Option.some.injEq] at hn
    obtain ⟨rfl, -, -⟩ := hn
    rcases h'.2 with ⟨hn', _⟩ | ⟨g', cap', cur', hn', _⟩
    · rw [hn'] at he
      simp [Value.ownBlock] at he
    · rw [hn'] at he
      simp only [Value.ownBlock, Option.some.injEq] at he
      subst he
      have hc := @World.ownsRow.cells _ _ _ _ _ _ _ h' (g := g') (by rw [hn']; rfl) i (.int .u8 (l.getD i 0)) (by rw [List.map_append, List.getElem?_append_left (by simpa using hi)]; simp [hi, List.getD])
      exact hc

theorem own_step {W5 wr w6 : World} {B c : Nat} {a : Option Addr} {vm v' : Value} {l r : List Int} {O : Obj} (hob : OB W5 B (.slice a l.length c) l) (hsb : SB wr (.slice a l.length c) l)
    (hloc : vm.ownBlock = (Value.slice a l.length c).ownBlock ∨ ∀ b, vm.ownBlock = some b → W5.heap.size ≤ b) (hg : W5.grownBy wr (Value.slice a l.length c).ownBlock) (hob6 : OB w6 B v' (l ++ r)) (hgrew : Grew (wr.alloc O) w6 vm v') :
    SB w6 (.slice a l.length c) l ∧ (v'.ownBlock = (Value.slice a l.length c).ownBlock ∨ ∀ b, v'.ownBlock = some b → W5.heap.size ≤ b) ∧ W5.grownBy w6 (Value.slice a l.length c).ownBlock := by
  have hs1 := hg.size
  have hlt := hob.lt
  rcases hgrew with ⟨hv, hw⟩ | ⟨hb, hbel⟩ | ⟨hb, _, hgr⟩
  · subst hv hw
    exact ⟨hsb.alloc' _, hloc, hg.trans (grownBy_alloc' _ _ _)⟩
  · have hs2 := hbel.size
    rw [size_alloc'] at hs2 hb
    refine ⟨(hsb.alloc' _).below hbel, .inr fun b hb' => ?_, ⟨hbel.os.trans hg.os, hbel.tape.trans hg.tape, hbel.output.trans hg.output, by omega, fun k hk hne => ?_⟩⟩
    · rw [hb] at hb'
      simp at hb'
      omega
    · rw [hbel.block k (by rw [size_alloc']; omega), Below.heap_alloc _ _ k (by omega)]
      exact hg.block k hk hne
  · have hs2 := hgr.size
    rw [size_alloc'] at hs2
    rcases hloc with e | e
    · refine ⟨hob.prefix hob6 (hb.trans e), .inl (hb.trans e), ⟨hgr.os.trans hg.os, hgr.tape.trans hg.tape, hgr.output.trans hg.output, by omega, fun k hk hne => ?_⟩⟩
      rw [hgr.block k (by rw [size_alloc']; omega) (by rw [e]; exact hne), Below.heap_alloc _ _ k (by omega)]
      exact hg.block k hk hne
    · refine ⟨(hsb.alloc' _).same fun k hk => hgr.block k (by rw [size_alloc']; have := (hlt k hk).2; omega) (fun e2 => by have := e k e2.symm; have := (hlt k hk).2; omega), .inr fun b hb' => e b (hb.symm.trans hb'), ⟨hgr.os.trans hg.os, hgr.tape.trans hg.tape, hgr.output.trans hg.output, by omega, fun k hk hne => ?_⟩⟩
      rw [hgr.block k (by rw [size_alloc']; omega) (fun e2 => by have := e k e2.symm; omega), Below.heap_alloc _ _ k (by omega)]
      exact hg.block k hk hne

theorem set_mid (m : Int) (L : List Int) (k : Nat) (h : k < L.length) : (List.replicate k m ++ L.drop k).set k m = List.replicate (k + 1) m ++ L.drop (k + 1) := by
  rw [List.set_append_right _ _ (by simp)]
  have e : L.drop k = L[k] :: L.drop (k + 1) := List.drop_eq_getElem_cons h
  have e2 : (L.drop k).set 0 m = m :: L.drop (k + 1) := by rw [e]; rfl
  simp [List.replicate_succ', e2]

theorem info28 : (Try.prog.info? 34).map (fun i => (i.zero, i.size, i.bytes)) = some (some (.slice none 0 0), 1, 24) := by kernel_rfl

/-- What 'more' holds: for each list one that is 100 longer. -/
def Longer (ls : List (Value × List Int)) (ms : List Value) : Prop := ∀ (j : Nat) (p : Value × List Int), ls[j]? = some p → j < ms.length → ∃ a c, ms[j]? = some (.slice a (p.2.length + 100) c)

end Go.Proofs.Ytlidmhdcikcpkaa

