import Derived.Test.YtijmmfimkibgbaaGRc
import Derived.Test.YtijmmfimkibgbaaGAppL
namespace Go.Proofs.Ytijmmfimkibgbaa
open Go.RowKit
set_option maxRecDepth 20000
variable {X : Nat → Prop}

/-- Blocks g and r alone have turned, and new blocks have come. -/
def Tch2 (B g r : Nat) (w w' : World) : Prop := Below B w w' ∧ ∀ k, k < w.heap.size → k ≠ g → k ≠ r → w'.heap[k]? = w.heap[k]?

theorem Tch2.trans {B g r : Nat} {a b c : World} (h : Tch2 B g r a b) (k : Tch2 B g r b c) : Tch2 B g r a c :=
  ⟨h.1.trans k.1, fun i hi hg hr => (k.2 i (Nat.lt_of_lt_of_le hi h.1.size) hg hr).trans (h.2 i hi hg hr)⟩

theorem Tch.fst {B g : Nat} {a b : World} (h : Tch B g a b) (r : Nat) : Tch2 B g r a b := ⟨h.1, fun k hk hg _ => h.2 k hk hg⟩

theorem Tch.snd {B r : Nat} {a b : World} (h : Tch B r a b) (g : Nat) : Tch2 B g r a b := ⟨h.1, fun k hk _ hr => h.2 k hk hr⟩

theorem Tch2.refl (B g r : Nat) (w : World) : Tch2 B g r w w := ⟨Below.refl _ _, fun _ _ _ _ => rfl⟩

def stepSt (st : CSt) (k n : Int) : CSt :=
  if k = 1 then nextSt st (1 : Nat) else if k = 2 then nextSt st (2 : Nat) else if k = 3 then nextSt st (4 : Nat) else if k = 4 then nextSt st n else if k = 5 then nextSt st n else if k = 6 then seekSt st n else st

/-- Two cursors, the program's and the document's, in one state. -/
structure Duo (X : Nat → Prop) (B : Nat) (w : World) (g r : Nat) (st : CSt) : Prop where
  c : Cu X 79 w g st
  d : Cu X 79 w r st
  ne : g ≠ r
  bg : B ≤ g
  br : B ≤ r

theorem Cu.x {T : Nat} {w : World} {g : Nat} {st : CSt} (h : Cu X T w g st) : X g := by
  obtain ⟨v, _, _, _, _, _, h6⟩ := h
  exact h6.1

theorem Cu.alloc {T : Nat} {w : World} {g : Nat} {st : CSt} (h : Cu X T w g st) (o : Obj) : Cu X T (w.alloc o) g st := by
  obtain ⟨v, h1, h2, h3, h4, h5, h6⟩ := h
  refine ⟨v, (Below.heap_alloc w o g h1.lt).trans h1, ?_, h3, h4, h5, h6⟩
  by_cases hd : st.d = []
  · rcases h2 with h2 | ⟨b, cap, rfl, x1, x2, x3⟩
    · exact .inl h2
    · exact .inr ⟨b, cap, rfl, x1, x2, fun i hi => by rw [hd] at hi; exact absurd hi (Nat.not_lt_zero _)⟩
  · exact h2.move fun k hk => Below.heap_alloc w o k (h2.lt hd k hk)

/-- Both calls made. -/
theorem Duo.step {B g r : Nat} {w w1 w2 : World} {st st' : CSt} (h : Duo X B w g r st) (c1 : Cu X 79 w1 g st') (t1 : Tch B g w w1) (c2 : Cu X 79 w2 r st') (t2 : Tch B r w1 w2) : Duo X B w2 g r st' ∧ Tch2 B g r w w2 :=
  ⟨⟨c1.keep t2 h.ne h.d.x, c2, h.ne, h.bg, h.br⟩, (t1.fst r).trans (t2.snd g)⟩

theorem Duo.mid {B g r : Nat} {w w1 : World} {st : CSt} (h : Duo X B w g r st) (t1 : Tch B g w w1) : Cu X 79 w1 r st := h.d.keep t1 (fun e => h.ne e.symm) h.c.x

theorem Duo.drewN {B g r : Nat} {w : World} {st : CSt} (h : Duo X B w g r st) (q : Nat) : Duo X B (w.drewN q) g r st := ⟨h.c, h.d, h.ne, h.bg, h.br⟩

theorem box_keep {B g k i : Nat} {w w' : World} {u : Value} (ht : Tch B g w w') (hg : g < k) (h : w.cell? ⟨k, i, none⟩ = some u) : w'.cell? ⟨k, i, none⟩ = some u := by
  rw [World.cell?_of_block (w := w) (ht.2 k (World.block_lt_of_cell? _ _ h) (by omega))]
  exact h

theorem box_cell (w : World) (cs : Array Value) (T : Nat) (i : Nat) (u : Value) (h : cs[i]? = some u) : (w.alloc (.cells cs T)).cell? ⟨w.heap.size, i, none⟩ = some u := by
  have e := heap_alloc_new w (.cells cs T)
  unfold World.cell?
  simp only [e]
  exact h

end Go.Proofs.Ytijmmfimkibgbaa

namespace Go.Proofs.Ytijmmfimkibgbaa
open Go.RowKit Go.Maps
set_option maxRecDepth 20000

theorem wpList_mk {w : World} {ops : Array Oper} {rest : List Oper} {o : Oper} {a : Act} {Q : Exit → Act → World → Prop} (hg : o.guard = none) (l c : Operand) (hop : o.op = Op.makeSlice 31 l c)
    (kl kc : IntKind) (L C : Int) (n m : Nat) (hl : a.eval l = .int kl L) (hc : a.eval c = .int kc C) (hL : L = (n : Int)) (hC : C = (m : Int)) (hnm : n ≤ m) (b2 : m ≤ 140737488355328)
    (hK : ∀ w', w'.heap[w.heap.size]? = some (.cells (List.replicate m (Value.int .u8 0)).toArray 5 (0, 0)) → Below w.heap.size w w' → wpList Try.prog ops Q rest (a.put o.dst (.slice (some ⟨w.heap.size, 0, none⟩) n m)) w') :
    wpList Try.prog ops Q (o :: rest) a w := by
  obtain ⟨i0, hi, hz0, hz1, hz2⟩ := info_parts info5
  refine wpList_plain hg fun K hK' => ?_
  have hr := run_make (P := Try.prog) w 31 5 i0 (.int .u8 0) Try.underlying31 hi hz0 kl kc (n : Int) (m : Int) (by omega) (by omega) (by rw [hz2]; omega) (by omega)
  subst hL hC
  unfold Oper.wp
  simp [execOp, hop, hl, hc, hr, Result.andThen]
  refine hK' _ _ (hK _ ?_ ((Below.refl _ _).alloc (Nat.le_refl _) _))
  rw [heap_alloc_new, hz1, Nat.mul_one]
  have e : (madeCells (Value.int .u8 0).cells m) = (List.replicate m (Value.int .u8 0)).toArray := by
    apply Array.ext'
    exact madeBytes m
  rw [e]

theorem splice_front {α : Type} (cs : List α) (n m : Nat) (z : α) (h : cs.length = n) : splice (List.replicate (n + m) z) 0 cs = cs ++ List.replicate m z := by
  simp [splice, h]

/-- A cursor just made. -/
structure Raw (T : Nat) (w : World) (A g : Nat) (v : Value) (l : List Int) : Prop where
  s : S3 T w g v (.int .i64 0) (.int .i64 0)
  d : DS w v l
  a : A ≤ g
  b : ∀ k, v.ownBlock = some k → A ≤ k ∧ k < g

theorem OB.ds {w : World} {base : Nat} {v : Value} {l : List Int} (h : OB w base v l) : DS w v l := by
  have hc := @World.ownsRow.cells _ _ _ _ _ _ _ h
  rcases h.2 with ⟨rfl, h0⟩ | ⟨g, cap, cur, rfl, _, _, h3, h4, _, _⟩
  · exact .inl ⟨rfl, List.eq_nil_of_length_eq_zero h0⟩
  · refine .inr ⟨g, cap, rfl, h3, h4, fun i hi => ?_⟩
    have := hc (g := g) rfl i (.int .u8 (l.getD i 0)) (by simp [hi])
    rw [Addr.add_lit] at this
    simpa using this

theorem Raw.below {T : Nat} {w w' : World} {A g : Nat} {v : Value} {l : List Int} (h : Raw T w A g v l) (hb : Below w.heap.size w w') : Raw T w' A g v l :=
  ⟨(hb.block g h.s.lt).trans h.s, h.d.move (fun k hk => hb.block k (Nat.lt_trans (h.b k hk).2 h.s.lt)), h.a, h.b⟩

theorem newCursor_any (v : Value) (l : List Int) (w : World) (h : SB w v l) (hr : l.length ≤ 140737488351232) :
    Calls Try.prog 41 #[v] w fun e w' => ∃ g u, e = .returned (.pointer (some ⟨g, 0, none⟩)) ∧ Raw 79 w' w.heap.size g u l ∧ Below w.heap.size w w' := by
  have HS := hide h
  clear h
  go_enter Try.func41, Try.ntmps41
  go_wp2_with fail
  refine (slicesClone_any v l w HS.out hr).mono ?_
  rintro e w1 ⟨a, c, rfl, ho, hb⟩
  have HO := hide ho
  have HB := hide hb
  clear ho hb
  go_wp2
  go_ret
  have hsz := HB.out.size
  refine ⟨_, _, rfl, ⟨heap_alloc_new _ _, (HO.out.ds.move fun k hk => Below.heap_alloc _ _ k (HO.out.lt k hk).2), hsz, fun k hk => HO.out.lt k hk⟩, HB.out.trans ((Below.refl _ _).alloc hsz _)⟩

end Go.Proofs.Ytijmmfimkibgbaa

namespace Go.Proofs.Ytijmmfimkibgbaa
open Go.RowKit Go.Maps
set_option maxRecDepth 20000

theorem heap_setCell_at {w : World} {g k : Nat} {cur : Array Value} {t : TypeId} (u : Value) (h : w.heap[g]? = some (.cells cur t (0, 0))) : (w.setCell ⟨g, k, none⟩ u).heap[g]? = some (.cells (cur.setIfInBounds k u) t (0, 0)) := by
  simp [World.setCell, Array.getElem?_modify, h]

theorem set_front (m : Value) (L : List Value) (k : Nat) (h : k < L.length) : ((List.replicate k m ++ L.drop k).toArray.setIfInBounds k m) = (List.replicate (k + 1) m ++ L.drop (k + 1)).toArray := by
  apply Array.ext'
  simp only [Array.toList_setIfInBounds]
  rw [List.set_append_right _ _ (by simp)]
  have e : L.drop k = L[k] :: L.drop (k + 1) := List.drop_eq_getElem_cons h
  have e2 : (L.drop k).set 0 m = m :: L.drop (k + 1) := by rw [e]; rfl
  simp [List.replicate_succ', e2]

theorem grownBy_set {w : World} {g k : Nat} {u : Value} {r : Option Nat} (hr : r = some g) : w.grownBy (w.setCell ⟨g, k, none⟩ u) r :=
  ⟨rfl, rfl, rfl, by rw [size_setCell]; exact Nat.le_refl _, fun i _ hi => setCell_others w g k u i (fun e => hi (by rw [hr, e]))⟩

theorem grownBy_drew {w w' : World} {r : Option Nat} (h : w.grownBy w' r) : w.grownBy w'.drew r := ⟨h.os, h.tape, h.output, h.size, h.block⟩

theorem grownBy_alloc' (w : World) (o : Obj) (r : Option Nat) : w.grownBy (w.alloc o) r :=
  ⟨rfl, rfl, rfl, by simp, fun k hk _ => Below.heap_alloc w o k hk⟩

/-- A block that was not there may be written. -/
theorem grownBy_new {w w' : World} {r : Option Nat} {g o : Nat} {u : Value} (h : w.grownBy w' r) (hg : w.heap.size ≤ g) : w.grownBy (w'.setCell ⟨g, o, none⟩ u) r :=
  ⟨h.os, h.tape, h.output, by rw [size_setCell]; exact h.size, fun k hk hr => (setCell_others w' g o u k (by omega)).trans (h.block k hk hr)⟩

theorem Grew.by {w w' : World} {v v' : Value} (h : Grew w w' v v') : w.grownBy w' v.ownBlock := by
  rcases h with ⟨_, rfl⟩ | ⟨_, hb⟩ | ⟨_, _, hg⟩
  · exact World.grownBy.refl _ _
  · exact ⟨hb.os, hb.tape, hb.output, hb.size, fun k hk _ => hb.block k hk⟩
  · exact hg

theorem Grew.at {w w' : World} {v v' : Value} (h : Grew w w' v v') : v'.ownBlock = some w.heap.size ∨ v'.ownBlock = v.ownBlock := by
  rcases h with ⟨rfl, _⟩ | ⟨h, _⟩ | ⟨h, _⟩
  · exact .inr rfl
  · exact .inl h
  · exact .inr h

theorem built_src (w : World) (cs : List Int) : Src Try.prog 1 31 (.slice (some ⟨w.heap.size, 0, none⟩) cs.length cs.length) cs.length (cs.map (Value.int .u8)) (w.alloc (.cells (cs.map (Value.int .u8)).toArray 5)) := by
  refine Src.ofSlice _ Try.underlying31 _ _ _ _ (by simp) (fun j u hj => ?_) (fun u hu => by obtain ⟨n, _, rfl⟩ := List.mem_map.1 hu; rfl)
  have e := heap_alloc_new w (.cells (cs.map (Value.int .u8)).toArray 5)
  rw [Addr.add_lit]
  unfold World.cell?
  simp only [e, Nat.zero_add]
  simpa using hj

theorem OB.alloc {w : World} {base : Nat} {v : Value} {l : List Int} (h : OB w base v l) (o : Obj) : OB (w.alloc o) base v l := h.move fun k hk => Below.heap_alloc w o k (h.lt k hk).2

end Go.Proofs.Ytijmmfimkibgbaa

