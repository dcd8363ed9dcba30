import Derived.Test.YtdfggdafflkkcaaRows
import Derived.WalkKit
import Derived.ProofKit
import Derived.OpenShut
import Derived.ShutString
import Derived.ChangeOld
import Derived.Below
import Derived.WalkLawsBesides
import Derived.WalkSpells
import Derived.Deep.QuietTactic
import Derived.BigQuiet
import Derived.Laws.CopyOwn
import Derived.SizedLaws
import Derived.Maps.Own
import Derived.Laws.BytesArg
import Derived.Laws.BitsLemmas
import Derived.Maps.AppendAt
import Derived.Deep.AppendSrc
import Derived.Deep.AppendLies
import Derived.Deep.RegionLaw
import Derived.Handy
import Derived.Laws.Rows
import Derived.Laws.Tables
import Derived.BigRegion
namespace Go.Proofs.Ytdfggdafflkkcaa
open Go.RowKit Go.Maps
set_option maxRecDepth 20000

theorem hide {p : Prop} (h : p) : Hid p := h
theorem unhide {p : Prop} (h : Hid p) : p := h

theorem add_block (x : Addr) (i : Nat) : (x.add i).block = x.block := by unfold Addr.add; split <;> rfl

theorem size_alloc' (w : World) (o : Obj) : (w.alloc o).heap.size = w.heap.size + 1 := by simp

theorem heap_two (w : World) (o p : Obj) : ((w.alloc o).alloc p).heap[w.heap.size + 1]? = some p ∧ ((w.alloc o).alloc p).heap[w.heap.size]? = some o := by
  have e := heap_alloc_new (w.alloc o) p
  rw [size_alloc'] at e
  exact ⟨e, (Below.heap_alloc (w.alloc o) p w.heap.size (by rw [size_alloc']; omega)).trans (heap_alloc_new w o)⟩

theorem splice_all {α : Type} (L cs : List α) (h : cs.length = L.length) : splice L 0 cs = cs := by
  simp [splice, h]

theorem addr_lit {w : World} {x : Addr} {u : Value} (h : w.cell? (x.add 0) = some u) : ∃ b o, x = ⟨b, o, none⟩ := by
  have hs := World.cell?_spot h
  obtain ⟨b, o, s⟩ := x
  refine ⟨b, o, ?_⟩
  unfold Addr.add at hs
  cases s with
  | none => rfl
  | some q => simp at hs

theorem take_step {l1 l2 : List Int} {k : Nat} (h1 : k < l1.length) (hl : l1.length = l2.length) (ht : l1.take k = l2.take k) :
    (l1.getD k 0 = l2.getD k 0 → l1.take (k + 1) = l2.take (k + 1)) ∧ (l1.getD k 0 ≠ l2.getD k 0 → l1 ≠ l2) := by
  refine ⟨fun h => ?_, fun h e => h (by rw [e])⟩
  have e1 : l1.getD k 0 = l1[k] := by simp [h1]
  have e2 : l2.getD k 0 = l2[k]'(by omega) := by simp [show k < l2.length by omega]
  rw [e1, e2] at h
  rw [List.take_succ_eq_append_getElem h1, List.take_succ_eq_append_getElem (by omega), ht, h]

theorem size_setCell (w : World) (a : Addr) (u : Value) : (w.setCell a u).heap.size = w.heap.size := by simp [World.setCell]

theorem setCell_others (w : World) (g o : Nat) (u : Value) : ∀ k, k ≠ g → (w.setCell ⟨g, o, none⟩ u).heap[k]? = w.heap[k]? := fun k hk => Below.heap_setCell w _ u k hk

/-- What an append does: nothing, or a new block, or its own block written. -/
def Grew (w w' : World) (v v' : Value) : Prop := (v' = v ∧ w' = w) ∨ (v'.ownBlock = some w.heap.size ∧ Below w.heap.size w w') ∨ (v'.ownBlock = v.ownBlock ∧ w'.heap.size = w.heap.size ∧ w.grownBy w' v.ownBlock)

theorem heap_setCell_at {w : World} {g k : Nat} {cur : Array Value} {t : TypeId} (u : Value) (h : w.heap[g]? = some (.cells cur t (0, 0))) : (w.setCell ⟨g, k, none⟩ u).heap[g]? = some (.cells (cur.setIfInBounds k u) t (0, 0)) := by
  simp [World.setCell, Array.getElem?_modify, h]

theorem set_front (m : Value) (L : List Value) (k : Nat) (h : k < L.length) : ((List.replicate k m ++ L.drop k).toArray.setIfInBounds k m) = (List.replicate (k + 1) m ++ L.drop (k + 1)).toArray := by
  apply Array.ext'
  simp only [Array.toList_setIfInBounds]
  rw [List.set_append_right _ _ (by simp)]
  have e : L.drop k = L[k] :: L.drop (k + 1) := List.drop_eq_getElem_cons h
  have e2 : (L.drop k).set 0 m = m :: L.drop (k + 1) := by rw [e]; rfl
  simp [List.replicate_succ', e2]

theorem grownBy_set {w : World} {g k : Nat} {u : Value} {r : Option Nat} (hr : r = some g) : w.grownBy (w.setCell ⟨g, k, none⟩ u) r :=
  ⟨rfl, rfl, rfl, by rw [size_setCell]; exact Nat.le_refl _, fun i _ hi => setCell_others w g k u i (fun e => hi (by rw [hr, e]))⟩

theorem grownBy_drew {w w' : World} {r : Option Nat} (h : w.grownBy w' r) : w.grownBy w'.drew r := ⟨h.os, h.tape, h.output, h.size, h.block⟩

theorem grownBy_alloc' (w : World) (o : Obj) (r : Option Nat) : w.grownBy (w.alloc o) r :=
  ⟨rfl, rfl, rfl, by simp, fun k hk _ => Below.heap_alloc w o k hk⟩

/-- A block that was not there may be written. -/
theorem grownBy_new {w w' : World} {r : Option Nat} {g o : Nat} {u : Value} (h : w.grownBy w' r) (hg : w.heap.size ≤ g) : w.grownBy (w'.setCell ⟨g, o, none⟩ u) r :=
  ⟨h.os, h.tape, h.output, by rw [size_setCell]; exact h.size, fun k hk hr => (setCell_others w' g o u k (by omega)).trans (h.block k hk hr)⟩

theorem Grew.by {w w' : World} {v v' : Value} (h : Grew w w' v v') : w.grownBy w' v.ownBlock := by
  rcases h with ⟨_, rfl⟩ | ⟨_, hb⟩ | ⟨_, _, hg⟩
  · exact World.grownBy.refl _ _
  · exact ⟨hb.os, hb.tape, hb.output, hb.size, fun k hk _ => hb.block k hk⟩
  · exact hg

theorem Grew.at {w w' : World} {v v' : Value} (h : Grew w w' v v') : v'.ownBlock = some w.heap.size ∨ v'.ownBlock = v.ownBlock := by
  rcases h with ⟨rfl, _⟩ | ⟨h, _⟩ | ⟨h, _⟩
  · exact .inr rfl
  · exact .inl h
  · exact .inr h

theorem splice_front {α : Type} (cs : List α) (n m : Nat) (z : α) (h : cs.length = n) : splice (List.replicate (n + m) z) 0 cs = cs ++ List.replicate m z := by
  simp [splice, h]

/-- What is not one's own stays. -/
structure Fr (K K' : Nat → Nat) (w w' : World) : Prop where
  os : w'.os = w.os
  tape : w'.tape = w.tape
  output : w'.output = w.output
  size : w.heap.size ≤ w'.heap.size
  block : ∀ k, k < w.heap.size → K k = 0 → w'.heap[k]? = w.heap[k]?
  role : ∀ k, k < w.heap.size → K' k = K k

theorem Fr.refl (K : Nat → Nat) (w : World) : Fr K K w w := ⟨rfl, rfl, rfl, Nat.le_refl _, fun _ _ _ => rfl, fun _ _ => rfl⟩

theorem Fr.trans {K K' K'' : Nat → Nat} {a b c : World} (h : Fr K K' a b) (k : Fr K' K'' b c) : Fr K K'' a c :=
  ⟨k.os.trans h.os, k.tape.trans h.tape, k.output.trans h.output, Nat.le_trans h.size k.size,
   fun i hi h0 => (k.block i (Nat.lt_of_lt_of_le hi h.size) (by rw [h.role i hi]; exact h0)).trans (h.block i hi h0),
   fun i hi => (k.role i (Nat.lt_of_lt_of_le hi h.size)).trans (h.role i hi)⟩

theorem Fr.of_below {K : Nat → Nat} {w w' : World} (h : Below w.heap.size w w') : Fr K K w w' :=
  ⟨h.os, h.tape, h.output, h.size, fun k hk _ => h.block k hk, fun _ _ => rfl⟩

theorem Fr.below {K K' : Nat → Nat} {w w' : World} {B : Nat} (h : Fr K K' w w') (hu : ∀ k, K k ≠ 0 → B ≤ k) (hB : B ≤ w.heap.size) : Below B w w' :=
  ⟨h.os, h.tape, h.output, h.size, fun k hk => h.block k (by omega) (by
    by_cases hz : K k = 0
    · exact hz
    · have := hu k hz; omega)⟩

theorem Fr.up {K K' : Nat → Nat} {w w' : World} {B : Nat} (h : Fr K K' w w') (hu : ∀ k, K k ≠ 0 → B ≤ k) (hB : B ≤ w.heap.size) : ∀ k, K' k ≠ 0 → B ≤ k := by
  intro k hk
  by_cases hl : k < w.heap.size
  · exact hu k (by rw [← h.role k hl]; exact hk)
  · omega

theorem Fr.drewN {K K' : Nat → Nat} {w w' : World} (h : Fr K K' w w') (n : Nat) : Fr K K' w (w'.drewN n) := ⟨h.os, h.tape, h.output, h.size, h.block, h.role⟩

def SI (w : World) (v : Value) (l : List Int) : Prop :=
  ∃ ao cap, v = .slice ao l.length cap ∧ l.length ≤ cap ∧ cap ≤ maxLen ∧ (ao = none → cap = 0) ∧ ∀ x, ao = some x → ∀ i, i < l.length → w.cell? (x.add i) = some (.int .i64 (l.getD i 0))

def OI (w : World) (base : Nat) (v : Value) (l : List Int) : Prop := w.ownsRow base 3 1 v l.length (l.map (Value.int .i64))

theorem SI.move {w w' : World} {v : Value} {l : List Int} (h : SI w v l) (hc : ∀ a u, w.cell? a = some u → v.ownBlock = some a.block → w'.cell? a = some u) : SI w' v l := by
  obtain ⟨ao, cap, rfl, h1, h2, h3, h4⟩ := h
  refine ⟨ao, cap, rfl, h1, h2, h3, fun x hx i hi => hc _ _ (h4 x hx i hi) ?_⟩
  subst hx; simp [Value.ownBlock, add_block]

theorem SI.below {w w' : World} {v : Value} {l : List Int} (h : SI w v l) (hb : Below w.heap.size w w') : SI w' v l :=
  h.move fun a _ ha _ => (hb.cell (World.block_lt_of_cell? w a ha)).trans ha

theorem OI.lt {w : World} {base : Nat} {v : Value} {l : List Int} (h : OI w base v l) : ∀ k, v.ownBlock = some k → base ≤ k ∧ k < w.heap.size := World.ownsRow.lt h

theorem OI.sb {w : World} {base : Nat} {v : Value} {l : List Int} (h : OI w base v l) : SI w v l := by
  have hc := @World.ownsRow.cells _ _ _ _ _ _ _ h
  rcases h.2 with ⟨rfl, h0⟩ | ⟨g, cap, cur, rfl, _, _, h3, h4, _, _⟩
  · obtain rfl : l = [] := List.eq_nil_of_length_eq_zero h0
    exact ⟨none, 0, rfl, Nat.le_refl _, Nat.zero_le _, fun _ => rfl, fun x hx => by cases hx⟩
  · refine ⟨some ⟨g, 0, none⟩, cap, rfl, h3, h4, (fun e => by cases e), fun x hx i hi => ?_⟩
    cases hx
    refine hc (g := g) rfl i _ ?_
    simp [hi]

theorem OI.shape {w : World} {base : Nat} {v : Value} {l : List Int} (h : OI w base v l) : ∃ a c, v = .slice a l.length c := by
  rcases h.2 with ⟨rfl, h0⟩ | ⟨g, cap, cur, rfl, _⟩
  · exact ⟨none, 0, by rw [h0]⟩
  · exact ⟨_, _, rfl⟩

theorem OI.move {w w' : World} {base : Nat} {v : Value} {l : List Int} (h : OI w base v l) (hb : ∀ k, v.ownBlock = some k → w'.heap[k]? = w.heap[k]?) : OI w' base v l := by
  refine ⟨h.1, ?_⟩
  rcases h.2 with h2 | ⟨g, cap, cur, rfl, h1, h2, r⟩
  · exact .inl h2
  · exact .inr ⟨g, cap, cur, rfl, h1, (hb g rfl).trans h2, r⟩

theorem OI.base {w : World} {base base' : Nat} {v : Value} {l : List Int} (h : OI w base v l) (hb : base' ≤ base) : OI w base' v l := by
  refine ⟨h.1, ?_⟩
  rcases h.2 with h2 | ⟨g, cap, cur, rfl, h1, r⟩
  · exact .inl h2
  · exact .inr ⟨g, cap, cur, rfl, Nat.le_trans hb h1, r⟩

theorem OI.below {w w' : World} {base B : Nat} {v : Value} {l : List Int} (h : OI w base v l) (hb : Below B w w') (hB : w.heap.size ≤ B) : OI w' base v l :=
  h.move fun k hk => hb.block k (Nat.lt_of_lt_of_le (h.lt k hk).2 hB)

theorem infoInt : (Try.prog.info? 3).map (fun i => (i.zero, i.size, i.bytes)) = some (some (.int .i64 0), 1, 8) := by kernel_rfl

theorem madeInts (n : Nat) : (madeCells #[Value.int .i64 0] n).toList = List.replicate n (Value.int .i64 0) := by
  have e : ∀ k : Nat, [Value.int IntKind.i64 0][k % 1]?.getD default = Value.int .i64 0 := fun k => by simp [Nat.mod_one]
  simp only [madeCells]
  simp [e, List.map_const']

theorem ownsRowI_full {w : World} {base g n : Nat} {xs : List Value} (h : w.ownsRow base 3 1 (.slice (some ⟨g, 0, none⟩) n n) n xs) : w.heap[g]? = some (.cells xs.toArray 3 (0, 0)) ∧ base ≤ g := by
  obtain ⟨hl, h | ⟨g', cap, cur, he, hb, hg, _, _, hs, ht⟩⟩ := h
  · exact absurd h.1 (by simp)
  · simp only [Value.slice.injEq, Option.some.injEq, Addr.mk.injEq] at he
    obtain ⟨⟨rfl, -, -⟩, -, rfl⟩ := he
    have : cur = xs.toArray := by
      apply Array.ext'
      rw [← ht, List.take_of_length_le (by simp [hs])]
    exact ⟨by rw [hg, this], hb⟩

theorem OI.of_full {w : World} {base g : Nat} {l : List Int} (hg : w.heap[g]? = some (.cells (l.map (Value.int .i64)).toArray 3 (0, 0))) (hb : base ≤ g) (hm : l.length ≤ maxLen) : OI w base (.slice (some ⟨g, 0, none⟩) l.length l.length) l :=
  ⟨by simp, .inr ⟨g, l.length, _, rfl, hb, hg, Nat.le_refl _, hm, by simp, List.take_of_length_le (by simp)⟩⟩

theorem run_appI_none (w : World) (tx ty : TypeId) (i : TypeInfo) (hi : Try.prog.info? 3 = some i) (x : Value) (hs : Src Try.prog i.size tx x 0 [] w) :
    (Builtin.append_ #[22, tx] ty #[.slice none 0 0, x]).run Try.prog w = .ok (.slice none 0 0) w := by
  rcases hs.kind with ⟨e', hk⟩ | hk <;> simp [Builtin.append_, run_underlying Try.underlying22, run_underlying hk, sizeOf, typeInfo, hi, hs.len, hs.cells]

theorem run_appI (w : World) (base : Nat) (tx ty : TypeId) (v x : Value) (l news : List Int) (hown : OI w base v l) (hs : Src Try.prog 1 tx x news.length (news.map (Value.int .i64)) w)
    (hb : l.length + news.length ≤ 17592186044416) (hbase : base ≤ w.heap.size) :
    ∃ v' w', (Builtin.append_ #[22, tx] ty #[v, x]).run Try.prog w = .ok v' w' ∧ OI w' base v' (l ++ news) ∧ Grew w w' v v' ∧ OI w' base v l := by
  obtain ⟨i, hi, hz, hsz, hby⟩ := info_parts infoInt
  have hs' : Src Try.prog i.size tx x news.length (news.map (Value.int .i64)) w := by rw [hsz]; exact hs
  have hmx : l.length + news.length ≤ maxLen := by unfold maxLen; omega
  have grown : ∀ old, old < l.length + news.length → (OI (w.drew.alloc (.cells ((l.map (Value.int .i64) ++ news.map (Value.int .i64)).toArray ++ Builtin.zeroCells (Value.int .i64 0).cells (grownCap w (l.length + news.length) old 3 - (l.length + news.length))) 3)) base
      (.slice (some ⟨w.heap.size, 0, none⟩) (l.length + news.length) (grownCap w (l.length + news.length) old 3)) (l ++ news)) := by
    intro old ho
    have hge := grownCap_ge w (l.length + news.length) old 3
    have hcm : grownCap w (l.length + news.length) old 3 ≤ maxLen := grownCap_le_maxLen w (l.length + news.length) old 3 hmx
    refine ⟨by simp, .inr ⟨w.heap.size, grownCap w (l.length + news.length) old 3, _, by rw [List.length_append], hbase, heap_alloc_new w.drew _, by rw [List.length_append]; exact hge, hcm, ?_, ?_⟩⟩
    · simp only [Array.size_append, List.size_toArray, List.length_append, List.length_map, size_zeroCells, Value.cells]
      simp
      omega
    · simp only [Array.toList_append, List.map_append]
      rw [List.take_append_of_le_length (by simp)]
      exact List.take_of_length_le (by simp)
  rcases hown.2 with ⟨rfl, h0⟩ | ⟨g, cap, cur, rfl, hbg, hg, hnc, hcm, hcs, htake⟩
  · obtain rfl : l = [] := List.eq_nil_of_length_eq_zero h0
    by_cases hm : news = []
    · subst hm
      exact ⟨_, _, run_appI_none w tx ty i hi x hs', hown, .inl ⟨rfl, rfl⟩, hown⟩
    · have hpos : 0 < news.length := List.length_pos_iff.2 hm
      have hr := run_append_grow_src (P := Try.prog) w 22 tx ty 3 i (.int .i64 0) Try.underlying22 hi hz none 0 0 [] (run_firstCells_none w.drew i.size 0 0 0) x news.length _ hs' (by omega) (by omega) (by rw [hby]; exact growslice_fits (by omega) (by simp at hb ⊢; omega))
      have hgr := grown 0 (by simp; omega)
      simp only [List.length_nil, Nat.zero_add, List.map_nil, List.nil_append] at hgr hr ⊢
      exact ⟨_, _, hr, hgr, .inr (.inl ⟨rfl, (Below.refl _ _).drew.alloc (Nat.le_refl _) _⟩), World.ownsRow_nil _ _ _ _⟩
  · by_cases hroom : l.length + news.length ≤ cap
    · have hfit : l.length * i.size + (news.map (Value.int .i64)).length ≤ cur.size := by rw [hsz, hcs]; simp; omega
      have hst := run_storeCells_at Try.prog g (l.length * i.size) 3 (news.map (Value.int .i64)) 0 cur w hg (by simpa using hfit) hs.one
      simp only [Nat.add_zero] at hst
      have hr : (Builtin.append_ #[22, tx] ty #[.slice (some ⟨g, 0, none⟩) l.length cap, x]).run Try.prog w =
          .ok (.slice (some ⟨g, 0, none⟩) (l.length + news.length) cap) (w.setRow g (cur.toList.take (l.length * i.size) ++ news.map (Value.int .i64) ++ cur.toList.drop (l.length * i.size + (news.map (Value.int .i64)).length)).toArray) := by
        rcases hs'.kind with ⟨e', hk⟩ | hk <;> simp [Builtin.append_, run_underlying Try.underlying22, run_underlying hk, sizeOf, typeInfo, hi, hs'.len, hroom, hs'.cells, Addr.add_lit, hst]
      refine ⟨_, _, hr, ⟨by simp, .inr ⟨g, cap, _, by rw [List.length_append], hbg, setRow_heap w g cur _ 3 _ hg, by rw [List.length_append]; exact hroom, hcm, ?_, ?_⟩⟩, .inr (.inr ⟨rfl, by simp [World.setRow], ⟨rfl, rfl, rfl, by simp, fun k _ hk => setRow_other w g k _ (fun e => hk (by simp [Value.ownBlock, e]))⟩⟩), ⟨by simp, .inr ⟨g, cap, _, rfl, hbg, setRow_heap w g cur _ 3 _ hg, hnc, hcm, ?_, ?_⟩⟩⟩
      · rw [hsz]
        simp only [List.size_toArray, List.length_append, List.length_take, List.length_drop, Array.length_toList, List.length_map]
        omega
      · rw [hsz, htake]
        simp only [List.map_append]
        rw [List.take_append_of_le_length (by simp)]
        exact List.take_of_length_le (by simp)
      · rw [hsz]
        simp only [List.size_toArray, List.length_append, List.length_take, List.length_drop, Array.length_toList, List.length_map]
        omega
      · rw [hsz, htake]
        simp only [List.append_assoc]
        rw [List.take_append_of_le_length (by simp)]
        exact List.take_of_length_le (by simp)
    · have holds : ∀ j u, (l.map (Value.int .i64))[j]? = some u → w.drew.cell? ((⟨g, 0, none⟩ : Addr).add j) = some u := World.ownsRow.cells hown (g := g) rfl
      have hr := run_append_grow_src (P := Try.prog) w 22 tx ty 3 i (.int .i64 0) Try.underlying22 hi hz (some ⟨g, 0, none⟩) l.length cap (l.map (Value.int .i64)) (run_firstCells_some w.drew i.size l.length ⟨g, 0, none⟩ l.length cap _ (by rw [hsz]; simp) holds) x news.length _ hs' (by omega) (by omega) (by rw [hby]; exact growslice_fits (by omega) (by omega))
      exact ⟨_, _, hr, grown cap (by omega), .inr (.inl ⟨rfl, (Below.refl _ _).drew.alloc (Nat.le_refl _) _⟩), hown.below ((Below.refl w.heap.size w).drew.alloc (Nat.le_refl _) _) (Nat.le_refl _)⟩

theorem wpList_appI {w : World} {ops : Array Oper} {rest : List Oper} {o : Oper} {a : Act} {Q : Exit → Act → World → Prop} (hgd : o.guard = none) (s x : Operand) (tx : TypeId)
    (ho : o.op = .call { callee := .builtin .append, args := #[s, x], argTypes := #[22, tx] }) (base : Nat) (v xv : Value) (l news : List Int) (hv : a.eval s = v) (hown : OI w base v l) (hx : a.eval x = xv) (hs : Src Try.prog 1 tx xv news.length (news.map (Value.int .i64)) w)
    (hb : l.length + news.length ≤ 17592186044416) (hbase : base ≤ w.heap.size)
    (h : ∀ v' w', OI w' base v' (l ++ news) → Grew w w' v v' → wpList Try.prog ops Q rest (a.put o.dst v') w') : wpList Try.prog ops Q (o :: rest) a w := by
  refine wpList_plain hgd fun K hK => ?_
  obtain ⟨v', w', hr, h2, h3, _⟩ := run_appI w base tx o.type v xv l news hown hs hb hbase
  unfold Oper.wp
  simp [execOp, ho, resolve, invoke, builtin, hv, hx, hr, Result.andThen]
  exact hK _ _ (h v' w' h2 h3)

theorem wpList_appK {w : World} {ops : Array Oper} {rest : List Oper} {o : Oper} {a : Act} {Q : Exit → Act → World → Prop} (hgd : o.guard = none) (s x : Operand) (tx : TypeId)
    (ho : o.op = .call { callee := .builtin .append, args := #[s, x], argTypes := #[22, tx] }) (base : Nat) (v xv : Value) (l news : List Int) (hv : a.eval s = v) (hown : OI w base v l) (hx : a.eval x = xv) (hs : Src Try.prog 1 tx xv news.length (news.map (Value.int .i64)) w)
    (hb : l.length + news.length ≤ 17592186044416) (hbase : base ≤ w.heap.size)
    (h : ∀ v' w', OI w' base v' (l ++ news) → Grew w w' v v' → OI w' base v l → wpList Try.prog ops Q rest (a.put o.dst v') w') : wpList Try.prog ops Q (o :: rest) a w := by
  refine wpList_plain hgd fun K hK => ?_
  obtain ⟨v', w', hr, h2, h3, h4⟩ := run_appI w base tx o.type v xv l news hown hs hb hbase
  unfold Oper.wp
  simp [execOp, ho, resolve, invoke, builtin, hv, hx, hr, Result.andThen]
  exact hK _ _ (h v' w' h2 h3 h4)

theorem SI.src {w : World} {v : Value} {l : List Int} (h : SI w v l) : Src Try.prog 1 22 v l.length (l.map (Value.int .i64)) w := by
  obtain ⟨ao, cap, rfl, h1, h2, h3, h4⟩ := h
  cases ao with
  | none =>
    have hc := h3 rfl
    obtain rfl : l = [] := List.eq_nil_of_length_eq_zero (by omega)
    exact Src.ofNil w Try.underlying22 cap
  | some a =>
    refine Src.ofSlice w Try.underlying22 a l.length cap _ (by simp) (fun j u hj => ?_) (fun u hu => by obtain ⟨n, _, rfl⟩ := List.mem_map.1 hu; rfl)
    obtain ⟨hjl, rfl⟩ := List.getElem?_eq_some_iff.1 hj
    have hjl' : j < l.length := by simpa using hjl
    rw [h4 a rfl j hjl']
    simp [hjl']

theorem built_srcI (w : World) (cs : List Int) : Src Try.prog 1 22 (.slice (some ⟨w.heap.size, 0, none⟩) cs.length cs.length) cs.length (cs.map (Value.int .i64)) (w.alloc (.cells (cs.map (Value.int .i64)).toArray 3)) := by
  refine Src.ofSlice _ Try.underlying22 _ _ _ _ (by simp) (fun j u hj => ?_) (fun u hu => by obtain ⟨n, _, rfl⟩ := List.mem_map.1 hu; rfl)
  have e := heap_alloc_new w (.cells (cs.map (Value.int .i64)).toArray 3)
  rw [Addr.add_lit]
  unfold World.cell?
  simp only [e, Nat.zero_add]
  simpa using hj

theorem OI.alloc {w : World} {base : Nat} {v : Value} {l : List Int} (h : OI w base v l) (o : Obj) : OI (w.alloc o) base v l := h.move fun k hk => Below.heap_alloc w o k (h.lt k hk).2

theorem wpList_mkI {w : World} {ops : Array Oper} {rest : List Oper} {o : Oper} {a : Act} {Q : Exit → Act → World → Prop} (hg : o.guard = none) (l c : Operand) (hop : o.op = Op.makeSlice 22 l c)
    (kl kc : IntKind) (L C : Int) (n m : Nat) (hl : a.eval l = .int kl L) (hc : a.eval c = .int kc C) (hL : L = (n : Int)) (hC : C = (m : Int)) (hnm : n ≤ m) (b2 : m ≤ 17592186044416)
    (hK : ∀ w', w'.heap[w.heap.size]? = some (.cells (List.replicate m (Value.int .i64 0)).toArray 3 (0, 0)) → Below w.heap.size w w' → wpList Try.prog ops Q rest (a.put o.dst (.slice (some ⟨w.heap.size, 0, none⟩) n m)) w') :
    wpList Try.prog ops Q (o :: rest) a w := by
  obtain ⟨i0, hi, hz0, hz1, hz2⟩ := info_parts infoInt
  refine wpList_plain hg fun K hK' => ?_
  have hr := run_make (P := Try.prog) w 22 3 i0 (.int .i64 0) Try.underlying22 hi hz0 kl kc (n : Int) (m : Int) (by omega) (by omega) (by rw [hz2]; omega) (by omega)
  subst hL hC
  unfold Oper.wp
  simp [execOp, hop, hl, hc, hr, Result.andThen]
  refine hK' _ _ (hK _ ?_ ((Below.refl _ _).alloc (Nat.le_refl _) _))
  rw [heap_alloc_new, hz1, Nat.mul_one]
  have e : (madeCells (Value.int .i64 0).cells m) = (List.replicate m (Value.int .i64 0)).toArray := by
    apply Array.ext'
    exact madeInts m
  rw [e]

theorem sizeInt : (Try.prog.info? 3).map (·.size) = some 1 := by kernel_rfl

def eqI (l1 l2 : List Int) : Bool := decide (l1 = l2)

theorem isame_any (v1 v2 : Value) (l1 l2 : List Int) (w : World) (h1 : SI w v1 l1) (h2 : SI w v2 l2) :
    Calls Try.prog 9 #[v1, v2] w fun e w' => e = .returned (.bool (eqI l1 l2)) ∧ ∃ n, w' = w.drewN n := by
  obtain ⟨ao1, cap1, rfl, hlc1, hcm1, hnil1, hcell1⟩ := h1
  obtain ⟨ao2, cap2, rfl, hlc2, hcm2, hnil2, hcell2⟩ := h2
  unfold maxLen at hcm1 hcm2
  by_cases hne : l1.length = l2.length
  case neg =>
    have hd : ((l1.length : Int) == l2.length) = false := by simp; omega
    have hd' : ((l1.length : Int) != l2.length) = true := by simp; omega
    have HE : Hid (eqI l1 l2 = false) := by show _ = _; simp [eqI]; intro h; exact hne (by rw [h])
    clear hne
    go_enter Try.func9, Try.ntmps9
    go_wp2
    go_ret
    rw [HE.out]
    exact ⟨rfl, 0, rfl⟩
  case pos =>
    have hd' : ((l1.length : Int) != l2.length) = false := by simp; omega
    have HNE : Hid (l1.length = l2.length) := hne
    by_cases h0 : l1.length = 0
    · obtain rfl : l1 = [] := List.eq_nil_of_length_eq_zero h0
      obtain rfl : l2 = [] := List.eq_nil_of_length_eq_zero (by omega)
      clear hne hcell1 hcell2 hnil1 hnil2
      go_enter Try.func9, Try.ntmps9
      go_wp2
      refine wp_loop_rounds 1 ?_
      rw [rounds_succ]
      go_wp2
      go_ret
      exact ⟨by simp [eqI], 0, rfl⟩
    · cases ao1 with
      | none => have := hnil1 rfl; omega
      | some x1 =>
      cases ao2 with
      | none => have := hnil2 rfl; omega
      | some x2 =>
      obtain ⟨b1, o1, rfl⟩ := addr_lit (hcell1 x1 rfl 0 (by omega))
      obtain ⟨b2, o2, rfl⟩ := addr_lit (hcell2 x2 rfl 0 (by omega))
      have g1 : ∀ k, k < l1.length → w.cell? ⟨b1, o1 + k, none⟩ = some (.int .i64 (l1.getD k 0)) := fun k hk => by have := hcell1 _ rfl k hk; rwa [Addr.add_lit] at this
      have g2 : ∀ k, k < l1.length → w.cell? ⟨b2, o2 + k, none⟩ = some (.int .i64 (l2.getD k 0)) := fun k hk => by have := hcell2 _ rfl k (by omega); rwa [Addr.add_lit] at this
      clear hcell1 hcell2 hnil1 hnil2 hne
      have G1 : Hid (∀ k, k < l1.length → w.cell? ⟨b1, o1 + k, none⟩ = some (.int .i64 (l1.getD k 0))) := g1
      have G2 : Hid (∀ k, k < l1.length → w.cell? ⟨b2, o2 + k, none⟩ = some (.int .i64 (l2.getD k 0))) := g2
      clear g1 g2
      go_enter Try.func9, Try.ntmps9
      go_wp2
      go_loopw [5] (fun i wr => ∃ k n : Nat, k ≤ l1.length ∧ i = .int .i64 k ∧ wr = w.drewN n ∧ Hid (l1.take k = l2.take k)) (fun i _ => l1.length - (intOf i).toNat)
      case atStart => exact ⟨0, 0, Nat.zero_le _, rfl, rfl, rfl⟩
      case round =>
        obtain ⟨k, n, hk, rfl, rfl, HT⟩ := hrel
        by_cases hlt : k < l1.length
        · have hlt2 : (k : Int) < (l2.length : Int) := by have := HNE.out; omega
          obtain ⟨c1, hc1, HC1⟩ : ∃ c, w.cell? ⟨b1, o1 + k, none⟩ = some (.int .i64 c) ∧ Hid (c = l1.getD k 0) := ⟨_, G1.out k hlt, rfl⟩
          obtain ⟨c2, hc2, HC2⟩ : ∃ c, w.cell? ⟨b2, o2 + k, none⟩ = some (.int .i64 c) ∧ Hid (c = l2.getD k 0) := ⟨_, G2.out k hlt, rfl⟩
          have HK := take_step (l1 := l1) (l2 := l2) (k := k) (by omega) HNE.out HT.out
          by_cases hcc : c1 = c2
          · subst hcc
            go_wp2
            go_quiet (fail)
            go_wp2
            go_roundw
            case rel => exact ⟨k + 1, _, by omega, by go_num, rfl, HK.1 (by rw [← HC1.out, ← HC2.out])⟩
            case measure => simp [intOf]; omega
          · have hcb : (c1 != c2) = true := by simpa using hcc
            have HX : Hid (eqI l1 l2 = false) := by show _ = _; simp only [eqI, decide_eq_false_iff_not]; exact HK.2 (by rw [← HC1.out, ← HC2.out]; exact hcc)
            go_wp2
            go_quiet (fail)
            go_wp2
            go_ret
            rw [HX.out]
            exact ⟨rfl, _, World.drewN_drewN _ _ _⟩
        · go_wp2
          go_ret
          refine ⟨?_, n, rfl⟩
          have : l1 = l2 := by
            have h := HT.out
            rwa [List.take_of_length_le (by omega), List.take_of_length_le (by rw [← HNE.out]; omega)] at h
          simp [eqI, this]

theorem SI.get {W w : World} {ao : Option Addr} {cap : Nat} {l : List Int} (h : SI W (.slice ao l.length cap) l) (hb : Below W.heap.size W w) {k : Nat} (hk : k < l.length) : ∃ b o, ao = some ⟨b, o, none⟩ ∧ w.cell? ⟨b, o + k, none⟩ = some (.int .i64 (l.getD k 0)) := by
  obtain ⟨ao', cap', he, h1, h2, h3, h4⟩ := h
  simp only [Value.slice.injEq] at he
  obtain ⟨rfl, -, rfl⟩ := he
  cases ao with
  | none => have := h3 rfl; omega
  | some x =>
    obtain ⟨b, o, rfl⟩ := addr_lit (h4 x rfl 0 (by omega))
    have hc := h4 _ rfl k hk
    have hbl := World.block_lt_of_cell? _ _ hc
    rw [Addr.add_lit] at hc hbl
    exact ⟨b, o, rfl, (hb.cell hbl).trans hc⟩

theorem SI.open {w : World} {v : Value} {l : List Int} (h : SI w v l) : ∃ ao cap, v = .slice ao l.length cap ∧ l.length ≤ cap ∧ cap ≤ 9223372036854775807 := by
  obtain ⟨ao, cap, rfl, h1, h2, _⟩ := h
  unfold maxLen at h2
  exact ⟨ao, cap, rfl, h1, by omega⟩

theorem OI.get {w : World} {base : Nat} {v : Value} {l : List Int} (h : OI w base v l) {b : Nat} (hv : v.ownBlock = some b) {i : Nat} (hi : i < l.length) : w.cell? ⟨b, i, none⟩ = some (.int .i64 (l.getD i 0)) := by
  rcases h.2 with ⟨rfl, h0⟩ | ⟨g, cap, cur, rfl, h1, h2, h3, h4, h5, h6⟩
  · simp [Value.ownBlock] at hv
  · simp [Value.ownBlock] at hv
    subst hv
    have := World.ownsRow.cells h (g := g) rfl i (.int .i64 (l.getD i 0)) (by simp [hi])
    rwa [Addr.add_lit, Nat.zero_add] at this

theorem OI.put {w : World} {B : Nat} {v : Value} {l : List Int} (h : OI w B v l) {k : Nat} (hk : k < l.length) (m : Int) :
    ∃ g c, v = .slice (some ⟨g, 0, none⟩) l.length c ∧ (∃ u, w.cell? ⟨g, k, none⟩ = some u) ∧ w.frozen? ⟨g, k, none⟩ = false ∧ OI (w.setCell ⟨g, k, none⟩ (.int .i64 m)) B v (l.set k m) := by
  rcases h.2 with ⟨hv, h0⟩ | ⟨g, cap, cur, rfl, h1, h2, h3, h4, h5, h6⟩
  · omega
  · refine ⟨g, cap, rfl, ⟨_, h.get rfl hk⟩, frozen_of_row _ _ _ _ _ h2, ?_⟩
    unfold OI
    rw [List.length_set, List.map_set]
    refine ⟨by simp, .inr ⟨g, cap, _, rfl, h1, heap_setCell_same _ _ _ _ _ _ h2, h3, h4, by simpa using h5, ?_⟩⟩
    simp only [Array.toList_setIfInBounds, List.take_set]
    rw [h6]

theorem OI.form {w : World} {base : Nat} {v : Value} {l : List Int} (h : OI w base v l) (h0 : 0 < l.length) : ∃ g c, v = .slice (some ⟨g, 0, none⟩) l.length c ∧ base ≤ g ∧ g < w.heap.size ∧ l.length ≤ c ∧ c ≤ 9223372036854775807 := by
  rcases h.2 with ⟨hv, hz⟩ | ⟨g, cap, cur, rfl, h1, h2, h3, h4, h5, h6⟩
  · omega
  · unfold maxLen at h4
    exact ⟨g, cap, rfl, h1, (h.lt g rfl).2, h3, by omega⟩

/-- A list that lies in more than it says. -/
theorem OI.front {w : World} {base g c : Nat} {l r : List Int} (h : OI w base (.slice (some ⟨g, 0, none⟩) (l ++ r).length c) (l ++ r)) : SI w (.slice (some ⟨g, 0, none⟩) l.length c) l := by
  obtain ⟨ao', cap', he, h1, h2, h3, h4⟩ := h.sb
  simp only [Value.slice.injEq] at he
  obtain ⟨rfl, -, rfl⟩ := he
  rw [List.length_append] at h1
  refine ⟨_, c, rfl, by omega, h2, h3, fun x hx i hi => ?_⟩
  rw [h4 x hx i (by rw [List.length_append]; omega)]
  simp only [List.getD, List.getElem?_append_left hi]
end Go.Proofs.Ytdfggdafflkkcaa

namespace Go.Proofs.Ytdfggdafflkkcaa
open Go.RowKit Go.Maps
set_option maxRecDepth 20000

theorem take_snoc {l : List Int} {k : Nat} (h : k < l.length) : l.take (k + 1) = l.take k ++ [l.getD k 0] := by
  rw [List.take_succ_eq_append_getElem h]
  simp [h]

/-- One more behind an owned row. -/
theorem grow_one {w wr w3 : World} {u v3 : Value} {D : List Int} {o : Obj} (hB : Below w.heap.size w wr) (hO : OI wr w.heap.size u D) (hg : Grew (wr.alloc o) w3 u v3) : Below w.heap.size w w3 :=
  (hB.alloc hB.size _).grown hg.by (by have := hB.size; simp; omega) (fun j hj => by have := hO.lt j hj; omega)

theorem copied_any (v : Value) (l : List Int) (w : World) (h : SI w v l) (hr : l.length ≤ 17592186043904) :
    Calls Try.prog 6 #[v] w fun e w' => ∃ a c, e = .returned (.slice a l.length c) ∧ OI w' w.heap.size (.slice a l.length c) l ∧ Below w.heap.size w w' := by
  have HS := hide h
  obtain ⟨ao, cap, rfl, hlc, hcm⟩ := h.open
  clear h
  go_enter Try.func6, Try.ntmps6
  go_wp2
  go_loopw [3, 4] (fun u i wr => ∃ k : Nat, k ≤ l.length ∧ i = .int .i64 k ∧ Hid (OI wr w.heap.size u (l.take k)) ∧ Hid (Below w.heap.size w wr)) (fun _ i _ => l.length - (intOf i).toNat)
  case atStart => exact ⟨0, Nat.zero_le _, rfl, World.ownsRow_nil _ _ _ _, Below.refl _ _⟩
  case round =>
    obtain ⟨k, hk, rfl, HO, HB⟩ := hrel
    by_cases hlt : k < l.length
    · have hlt' : (k : Int) < (l.length : Int) := by omega
      obtain ⟨b, o, rfl, hc⟩ := HS.out.get HB.out hlt
      have HD := hide (take_snoc hlt)
      obtain ⟨y, HY⟩ : ∃ y, Hid (y = l.getD k 0) := ⟨_, rfl⟩
      rw [← HY.out] at hc HD
      obtain ⟨D, HDD⟩ : ∃ D, Hid (D = l.take k) := ⟨_, rfl⟩
      have hDl : D.length ≤ k := by rw [HDD.out, List.length_take]; omega
      rw [← HDD.out] at HO HD
      have hBw := HB.out.size
      obtain ⟨a1, p1, hu⟩ := HO.out.shape
      subst hu
      have HALC : Hid (OI (wr.alloc (.cells #[.int .i64 y] 3)) w.heap.size (.slice a1 D.length p1) D) := HO.out.alloc _
      have HSR : Hid (Src Try.prog 1 22 (.slice (some ⟨wr.heap.size, 0, none⟩) 1 1) ([y] : List Int).length (([y] : List Int).map (Value.int .i64)) (wr.alloc (.cells #[.int .i64 y] 3))) := built_srcI wr [y]
      go_wp2_with (at_builtin; refine wpList_appI rfl _ _ 22 rfl w.heap.size _ _ D [y] rfl HALC.out rfl HSR.out (by simp; omega) (by simp; omega) ?_)
      intro v3 w3 ho3 hgr3
      have HN : Hid (OI w3 w.heap.size v3 (l.take (k + 1)) ∧ Below w.heap.size w w3) := ⟨by rw [HD.out]; exact ho3, grow_one HB.out HO.out hgr3⟩
      clear ho3 hgr3
      go_wp2
      go_roundw
      case rel => exact ⟨k + 1, by omega, by go_num, HN.out.1, HN.out.2⟩
      case measure => simp [intOf]; omega
    · obtain rfl : k = l.length := by omega
      have hlt' : ¬ (l.length : Int) < (l.length : Int) := by omega
      have HF : Hid (OI wr w.heap.size u3 l) := by have := HO.out; rwa [List.take_of_length_le (Nat.le_refl _)] at this
      clear HO
      obtain ⟨a1, p1, hu⟩ := HF.out.shape
      subst hu
      go_wp2
      go_ret
      exact ⟨_, _, rfl, HF.out, HB.out⟩

def mk8 : List Int := List.replicate 8 (-77)

/-- A list with eight marks behind it. -/
def Lent (w : World) (base g c : Nat) (l : List Int) : Prop := OI w base (.slice (some ⟨g, 0, none⟩) (l.length + 8) c) (l ++ mk8)

theorem length_l8 (l : List Int) : (l ++ mk8).length = l.length + 8 := by rw [List.length_append]; rfl

theorem Lent.cap {w : World} {base g c : Nat} {l : List Int} (h : Lent w base g c l) : l.length + 8 ≤ c ∧ c ≤ 9223372036854775807 := by
  obtain ⟨g', c', hv, h1, h2, h3, h4⟩ := OI.form h (by rw [length_l8]; omega)
  simp only [Value.slice.injEq] at hv
  obtain ⟨-, -, rfl⟩ := hv
  rw [length_l8] at h3
  exact ⟨h3, h4⟩

theorem Lent.si {w : World} {base g c : Nat} {l : List Int} (h : Lent w base g c l) : SI w (.slice (some ⟨g, 0, none⟩) l.length c) l := OI.front (r := mk8) (by rw [length_l8]; exact h)

theorem Lent.below {w w' : World} {base g c B : Nat} {l : List Int} (h : Lent w base g c l) (hb : Below B w w') (hB : w.heap.size ≤ B) : Lent w' base g c l := OI.below h hb hB

theorem rep_snoc (l : List Int) (k : Nat) : l ++ List.replicate (k + 1) (-77 : Int) = (l ++ List.replicate k (-77)) ++ [-77] := by
  rw [List.replicate_succ', List.append_assoc]

end Go.Proofs.Ytdfggdafflkkcaa

namespace Go.Proofs.Ytdfggdafflkkcaa
open Go.RowKit Go.Maps
set_option maxRecDepth 20000

/-- The first so many lie within 0 and hi. -/
def bnd (l : List Int) (hi : Int) (k : Nat) : Prop := ∀ i, i < k → 0 ≤ l.getD i 0 ∧ l.getD i 0 ≤ hi

def bnb (l : List Int) (hi : Int) : Bool := l.all fun x => decide (0 ≤ x) && decide (x ≤ hi)

theorem bnb_iff {l : List Int} {hi : Int} : bnb l hi = true ↔ bnd l hi l.length := by
  unfold bnb bnd
  simp only [List.all_eq_true, Bool.and_eq_true, decide_eq_true_eq]
  constructor
  · intro h i hi
    rw [show l.getD i 0 = l[i] by simp [hi]]
    exact h _ (List.getElem_mem hi)
  · intro h x hx
    obtain ⟨i, hi, rfl⟩ := List.getElem_of_mem hx
    have := h i hi
    rwa [show l.getD i 0 = l[i] by simp [hi]] at this

theorem bnd_succ {l : List Int} {hi : Int} {k : Nat} (h : bnd l hi k) (hk : 0 ≤ l.getD k 0 ∧ l.getD k 0 ≤ hi) : bnd l hi (k + 1) := fun i hi => by
  by_cases e : i = k
  · subst e; exact hk
  · exact h i (by omega)

theorem bnb_no {l : List Int} {hi : Int} {k : Nat} (hk : k < l.length) (h : ¬ (0 ≤ l.getD k 0 ∧ l.getD k 0 ≤ hi)) : bnb l hi = false := by
  cases e : bnb l hi with
  | false => rfl
  | true => exact absurd (bnb_iff.1 e k hk) h

theorem weighable_any (v : Value) (l : List Int) (w : World) (h : SI w v l) :
    Calls Try.prog 13 #[v] w fun e w' => e = .returned (.bool (bnb l 4294967296)) ∧ w' = w := by
  have HS := hide h
  obtain ⟨ao, cap, rfl, hlc, hcm⟩ := h.open
  clear h
  go_enter Try.func13, Try.ntmps13
  go_wp2
  go_loopw [7] (fun i wr => ∃ k : Nat, k ≤ l.length ∧ i = .int .i64 k ∧ wr = w ∧ Hid (bnd l 4294967296 k)) (fun i _ => l.length - (intOf i).toNat)
  case atStart => exact ⟨0, Nat.zero_le _, rfl, rfl, fun i hi => by omega⟩
  case round =>
    obtain ⟨k, hk, rfl, rfl, HT⟩ := hrel
    by_cases hlt : k < l.length
    · have hlt' : (k : Int) < (l.length : Int) := by omega
      obtain ⟨b, o, rfl, hc⟩ := HS.out.get (Below.refl _ _) hlt
      obtain ⟨x, HX⟩ : ∃ x, Hid (x = l.getD k 0) := ⟨_, rfl⟩
      rw [← HX.out] at hc
      by_cases hb : 0 ≤ x ∧ x ≤ 4294967296
      · have HN : Hid (bnd l 4294967296 (k + 1)) := bnd_succ HT.out (by rw [← HX.out]; exact hb)
        obtain ⟨b0, b1⟩ := hb
        have b0' : ¬ x < 0 := by omega
        have b1' : ¬ 4294967296 < x := by omega
        clear HT
        go_wp2
        go_roundw
        case rel => exact ⟨k + 1, by omega, by go_num, by trivial, HN⟩
        case measure => simp [intOf]; omega
      · have HE : Hid (bnb l 4294967296 = false) := bnb_no hlt (by rw [← HX.out]; exact hb)
        by_cases b0 : x < 0
        · clear hb
          go_wp2
          go_ret
          rw [HE.out]
          exact ⟨rfl, rfl⟩
        · have b1 : 4294967296 < x := by omega
          clear hb
          go_wp2
          go_ret
          rw [HE.out]
          exact ⟨rfl, rfl⟩
    · obtain rfl : k = l.length := by omega
      have hlt' : ¬ (l.length : Int) < (l.length : Int) := by omega
      have HE : Hid (bnb l 4294967296 = true) := bnb_iff.2 HT.out
      clear HT
      go_wp2
      go_ret
      rw [HE.out]
      exact ⟨rfl, rfl⟩

def cs (f n : List Int) : Nat → Int
  | 0 => 0
  | k + 1 => cs f n k + f.getD k 0 * n.getD k 0

def cstE (f n : List Int) : Int := if 288 < f.length ∨ n.length ≠ f.length ∨ bnb n 288 = false then 1 else if bnb f 4294967296 = false then 61 else 0
def cstV (f n : List Int) : Int := if cstE f n = 0 then cs f n f.length else 0

theorem cs_bound {f n : List Int} {k : Nat} (hf : bnd f 4294967296 k) (hn : bnd n 288 k) : 0 ≤ cs f n k ∧ cs f n k ≤ 1236950581248 * k := by
  induction k with
  | zero => simp [cs]
  | succ k ih =>
    obtain ⟨a, b⟩ := ih (fun i hi => hf i (by omega)) (fun i hi => hn i (by omega))
    obtain ⟨c, d⟩ := hf k (by omega)
    obtain ⟨p, q⟩ := hn k (by omega)
    simp only [cs]
    have h1 : 0 ≤ f.getD k 0 * n.getD k 0 := Int.mul_nonneg c p
    have h2 : f.getD k 0 * n.getD k 0 ≤ 4294967296 * 288 := Int.mul_le_mul d q p (by omega)
    omega

/-- Both take the lists: where the arguments may be. -/
theorem cost_any (vf vn : Value) (f n : List Int) (w : World) (hf : SI w vf f) (hn : SI w vn n) :
    Calls Try.prog 10 #[vf, vn] w fun e w' => e = .returned (.tuple #[.int .i64 (cstV f n), .int .i64 (cstE f n)]) ∧ ∃ q, w' = w.drewN q := by
  have HF := hide hf
  have HN := hide hn
  obtain ⟨af, cf, rfl, hlf, hmf⟩ := hf.open
  obtain ⟨an, cn, rfl, hln, hmn⟩ := hn.open
  clear hf hn
  by_cases h1 : 288 < f.length
  · have h1' : (288 : Int) < (f.length : Int) := by omega
    have HE : Hid (cstE f n = 1) := if_pos (.inl h1)
    have HV : Hid (cstV f n = 0) := if_neg (by rw [HE.out]; decide)
    rw [HE.out, HV.out]
    go_enter Try.func10, Try.ntmps10
    go_wp2
    go_ret2
    exact ⟨rfl, 0, rfl⟩
  have h1' : ¬ (288 : Int) < (f.length : Int) := by omega
  by_cases h2 : n.length = f.length
  case neg =>
    have h2' : ((n.length : Int) != (f.length : Int)) = true := by simp; omega
    have HE : Hid (cstE f n = 1) := if_pos (.inr (.inl h2))
    have HV : Hid (cstV f n = 0) := if_neg (by rw [HE.out]; decide)
    rw [HE.out, HV.out]
    clear h2
    go_enter Try.func10, Try.ntmps10
    go_wp2
    go_ret2
    exact ⟨rfl, 0, rfl⟩
  have h2' : ((n.length : Int) != (f.length : Int)) = false := by simp; omega
  have H2 := hide h2
  clear h2
  go_enter Try.func10, Try.ntmps10
  go_wp2
  go_loopw [23] (fun i wr => ∃ k : Nat, k ≤ n.length ∧ i = .int .i64 k ∧ wr = w ∧ Hid (bnd n 288 k)) (fun i _ => n.length - (intOf i).toNat)
  case atStart => exact ⟨0, Nat.zero_le _, rfl, rfl, fun i hi => by omega⟩
  case round =>
    obtain ⟨k, hk, rfl, rfl, HT⟩ := hrel
    by_cases hlt : k < n.length
    · have hlt' : (k : Int) < (n.length : Int) := by omega
      obtain ⟨b, o, rfl, hc⟩ := HN.out.get (Below.refl _ _) hlt
      obtain ⟨x, HX⟩ : ∃ x, Hid (x = n.getD k 0) := ⟨_, rfl⟩
      rw [← HX.out] at hc
      by_cases hb : 0 ≤ x ∧ x ≤ 288
      · have HN2 : Hid (bnd n 288 (k + 1)) := bnd_succ HT.out (by rw [← HX.out]; exact hb)
        obtain ⟨b0, b1⟩ := hb
        have b0' : ¬ x < 0 := by omega
        have b1' : ¬ 288 < x := by omega
        clear HT
        go_wp2
        go_roundw
        case rel => exact ⟨k + 1, by omega, by go_num, by trivial, HN2⟩
        case measure => simp [intOf]; omega
      · have HE : Hid (cstE f n = 1) := if_pos (.inr (.inr (bnb_no hlt (by rw [← HX.out]; exact hb))))
        have HV : Hid (cstV f n = 0) := if_neg (by rw [HE.out]; decide)
        by_cases b0 : x < 0
        · clear hb
          go_wp2
          go_ret2
          rw [HE.out, HV.out]
          exact ⟨rfl, 0, rfl⟩
        · have b1 : 288 < x := by omega
          clear hb
          go_wp2
          go_ret2
          rw [HE.out, HV.out]
          exact ⟨rfl, 0, rfl⟩
    · obtain rfl : k = n.length := by omega
      have hlt' : ¬ (n.length : Int) < (n.length : Int) := by omega
      have hne : ¬ (288 < f.length ∨ n.length ≠ f.length ∨ bnb n 288 = false) := by
        rintro (q | q | q)
        · omega
        · exact q H2.out
        · rw [bnb_iff.2 HT.out] at q; cases q
      cases hw : bnb f 4294967296 with
      | false =>
        have HE : Hid (cstE f n = 61) := by show cstE f n = 61; unfold cstE; rw [if_neg hne, if_pos hw]
        have HV : Hid (cstV f n = 0) := if_neg (by rw [HE.out]; decide)
        have HW := hide hw
        clear hw hne HT
        go_wp2_with fail
        refine (weighable_any _ f _ HF.out).mono ?_
        rintro e w1 ⟨rfl, rfl⟩
        rw [HW.out]
        go_wp2
        go_ret2
        rw [HE.out, HV.out]
        exact ⟨rfl, 0, rfl⟩
      | true =>
        have HE : Hid (cstE f n = 0) := by show cstE f n = 0; unfold cstE; rw [if_neg hne, if_neg (by rw [hw]; decide)]
        have HV : Hid (cstV f n = cs f n f.length) := if_pos HE.out
        have HW := hide hw
        have HBN : Hid (bnd n 288 f.length) := by rw [← H2.out]; exact HT.out
        have HBF : Hid (bnd f 4294967296 f.length) := bnb_iff.1 hw
        clear hw hne HT
        go_wp2_with fail
        refine (weighable_any _ f _ HF.out).mono ?_
        rintro e w1 ⟨rfl, rfl⟩
        rw [HW.out]
        go_wp2
        go_loopw [8, 39] (fun s i wr => ∃ k q : Nat, k ≤ f.length ∧ i = .int .i64 k ∧ s = .int .i64 (cs f n k) ∧ wr = w1.drewN q) (fun _ i _ => f.length - (intOf i).toNat)
        case atStart => exact ⟨0, 0, Nat.zero_le _, rfl, rfl, rfl⟩
        case round =>
          obtain ⟨k, q, hk2, rfl, rfl, rfl⟩ := hrel
          by_cases hlt2 : k < f.length
          · have hlt2' : (k : Int) < (f.length : Int) := by omega
            have hbb := cs_bound (f := f) (n := n) (k := k) (fun i hi => HBF.out i (by omega)) (fun i hi => HBN.out i (by omega))
            have hbs := cs_bound (f := f) (n := n) (k := k + 1) (fun i hi => HBF.out i (by omega)) (fun i hi => HBN.out i (by omega))
            have hfk := HBF.out k hlt2
            have hnk := HBN.out k hlt2
            simp only [cs] at hbs
            have HC : Hid (cs f n (k + 1) = cs f n k + f.getD k 0 * n.getD k 0) := rfl
            obtain ⟨b1, o1, rfl, hc1⟩ := HF.out.get (w := w1.drewN q) (below_drewN (Below.refl _ _) q) hlt2
            obtain ⟨b2, o2, rfl, hc2⟩ := HN.out.get (w := w1.drewN q) (below_drewN (Below.refl _ _) q) (k := k) (by rw [H2.out]; exact hlt2)
            have hkn : (k : Int) < (n.length : Int) := by have := H2.out; omega
            obtain ⟨x, HX⟩ : ∃ x, Hid (x = f.getD k 0) := ⟨_, rfl⟩
            obtain ⟨y, HY⟩ : ∃ x, Hid (x = n.getD k 0) := ⟨_, rfl⟩
            obtain ⟨s, HSS⟩ : ∃ x, Hid (x = cs f n k) := ⟨_, rfl⟩
            rw [← HX.out] at hc1 hfk hbs HC
            rw [← HY.out] at hc2 hnk hbs HC
            rw [← HSS.out] at hbb hbs HC ⊢
            obtain ⟨z, hz⟩ : ∃ z, x * y = z := ⟨_, rfl⟩
            have hzb : 0 ≤ z ∧ z ≤ 4294967296 * 288 := by rw [← hz]; exact ⟨Int.mul_nonneg hfk.1 hnk.1, Int.mul_le_mul hfk.2 hnk.2 hnk.1 (by omega)⟩
            rw [hz] at hbs HC
            have hwz : IntKind.i64.wrap (x * y) = z := by rw [hz]; rw [IntKind.wrap_i64]; omega
            have hc1' : w1.cell? ⟨b1, o1 + k, none⟩ = some (.int .i64 x) := hc1
            have hc2' : w1.cell? ⟨b2, o2 + k, none⟩ = some (.int .i64 y) := hc2
            clear hz
            go_wp2
            go_roundw
            case rel => exact ⟨k + 1, q, by omega, by go_num, by rw [HC.out], rfl⟩
            case measure => simp [intOf]; omega
          · obtain rfl : k = f.length := by omega
            have hlt2' : ¬ (f.length : Int) < (f.length : Int) := by omega
            go_wp2
            go_ret2
            rw [HE.out, HV.out]
            exact ⟨rfl, q, rfl⟩
end Go.Proofs.Ytdfggdafflkkcaa

namespace Go.Proofs.Ytdfggdafflkkcaa
open Go.RowKit Go.Maps
set_option maxRecDepth 20000
set_option linter.unusedVariables false

/-- Numbers as ints. -/
def ci (l : List Nat) : List Int := l.map fun s : Nat => (s : Int)

theorem ci_len (l : List Nat) : (ci l).length = l.length := by simp [ci]

theorem ci_get {l : List Nat} {k : Nat} : (ci l).getD k 0 = ((l.getD k 0 : Nat) : Int) := by
  simp only [ci, List.getD_eq_getElem?_getD, List.getElem?_map]
  cases l[k]? <;> simp

theorem getD_mem {l : List Nat} {k : Nat} (h : k < l.length) : l.getD k 0 ∈ l := by
  rw [show l.getD k 0 = l[k] by simp [h]]
  exact List.getElem_mem h

/-- The symbols that are used, among the first k. -/
def usk (l : List Int) (k : Nat) : List Nat := (List.range k).filter fun s => decide (0 < l.getD s 0)
def us (l : List Int) : List Nat := usk l l.length

theorem usk_succ (l : List Int) (k : Nat) : usk l (k + 1) = usk l k ++ if 0 < l.getD k 0 then [k] else [] := by
  unfold usk
  rw [List.range_succ, List.filter_append]
  by_cases h : 0 < l.getD k 0
  · rw [if_pos h]; congr 1; rw [List.filter_cons_of_pos (by simpa using h)]; rfl
  · rw [if_neg h]; congr 1; rw [List.filter_cons_of_neg (by simpa using h)]; rfl

theorem usk_len (l : List Int) (k : Nat) : (usk l k).length ≤ k := by
  have := List.length_filter_le (fun s => decide (0 < l.getD s 0)) (List.range k)
  rw [List.length_range] at this
  exact this

theorem mem_us {l : List Int} {s : Nat} : s ∈ us l ↔ s < l.length ∧ 0 < l.getD s 0 := by
  unfold us usk
  simp [List.mem_filter]

theorem us_nodup (l : List Int) : (us l).Nodup := List.nodup_range.filter _

theorem us_rise (l : List Int) : (us l).Pairwise (· < ·) := List.pairwise_lt_range.filter _

theorem OI.putg {w : World} {B g n c : Nat} {l : List Int} (h : OI w B (.slice (some ⟨g, 0, none⟩) n c) l) {k : Nat} (hk : k < l.length) (m : Int) :
    (∃ u, w.cell? ⟨g, k, none⟩ = some u) ∧ w.frozen? ⟨g, k, none⟩ = false ∧ OI (w.setCell ⟨g, k, none⟩ (.int .i64 m)) B (.slice (some ⟨g, 0, none⟩) n c) (l.set k m) := by
  obtain ⟨g', c', hv, h1, h2, h3⟩ := h.put hk m
  simp only [Value.slice.injEq, Option.some.injEq, Addr.mk.injEq, and_true] at hv
  obtain ⟨rfl, -, -⟩ := hv
  exact ⟨h1, h2, h3⟩

theorem mk_oi {w w' : World} {n : Nat} (hg : w'.heap[w.heap.size]? = some (.cells (List.replicate n (Value.int .i64 0)).toArray 3 (0, 0))) (hn : n ≤ 1000000) : OI w' w.heap.size (.slice (some ⟨w.heap.size, 0, none⟩) n n) (List.replicate n 0) := by
  have h := OI.of_full (w := w') (base := w.heap.size) (g := w.heap.size) (l := List.replicate n 0) (by rw [List.map_replicate]; exact hg) (Nat.le_refl _) (by rw [List.length_replicate]; unfold maxLen; omega)
  rwa [List.length_replicate] at h

theorem used_any (v : Value) (l : List Int) (w : World) (h : SI w v l) (hr : l.length ≤ 288) :
    Calls Try.prog 14 #[v] w fun e w' => ∃ a c, e = .returned (.slice a (us l).length c) ∧ OI w' w.heap.size (.slice a (us l).length c) (ci (us l)) ∧ Below w.heap.size w w' := by
  have HS := hide h
  obtain ⟨ao, cap, rfl, hlc, hcm⟩ := h.open
  clear h
  go_enter Try.func14, Try.ntmps14
  go_wp2
  go_loopw [3, 8] (fun u i wr => ∃ k : Nat, k ≤ l.length ∧ i = .int .i64 k ∧ Hid (OI wr w.heap.size u (ci (usk l k))) ∧ Hid (Below w.heap.size w wr)) (fun _ i _ => l.length - (intOf i).toNat)
  case atStart => exact ⟨0, Nat.zero_le _, rfl, hide (show OI _ _ _ [] from World.ownsRow_nil _ _ _ _), Below.refl _ _⟩
  case round =>
    obtain ⟨k, hk, rfl, HO, HB⟩ := hrel
    by_cases hlt : k < l.length
    · have hlt' : (k : Int) < (l.length : Int) := by omega
      obtain ⟨b, o, rfl, hc⟩ := HS.out.get HB.out hlt
      have HD : Hid (ci (usk l (k + 1)) = ci (usk l k) ++ if 0 < l.getD k 0 then [(k : Int)] else []) := by
        show _ = _
        rw [usk_succ]
        unfold ci
        rw [List.map_append]
        by_cases q : 0 < l.getD k 0
        · rw [if_pos q, if_pos q]; rfl
        · rw [if_neg q, if_neg q]; rfl
      have hDl0 := usk_len l k
      obtain ⟨y, HY⟩ : ∃ y, Hid (y = l.getD k 0) := ⟨_, rfl⟩
      rw [← HY.out] at hc HD
      obtain ⟨D, HDD⟩ : ∃ D, Hid (D = ci (usk l k)) := ⟨_, rfl⟩
      have hDl : D.length ≤ k := by rw [HDD.out, ci_len]; exact hDl0
      rw [← HDD.out] at HO HD
      clear hDl0
      have hBw := HB.out.size
      obtain ⟨a1, p1, hu⟩ := HO.out.shape
      subst hu
      by_cases hy : 0 < y
      · have HE : Hid (ci (usk l (k + 1)) = D ++ [(k : Int)]) := by show _ = _; rw [HD.out, if_pos hy]
        have HALC : Hid (OI (wr.alloc (.cells #[.int .i64 (k : Int)] 3)) w.heap.size (.slice a1 D.length p1) D) := HO.out.alloc _
        have HSR : Hid (Src Try.prog 1 22 (.slice (some ⟨wr.heap.size, 0, none⟩) 1 1) ([(k : Int)] : List Int).length (([(k : Int)] : List Int).map (Value.int .i64)) (wr.alloc (.cells #[.int .i64 (k : Int)] 3))) := built_srcI wr [(k : Int)]
        go_wp2_with (at_builtin; refine wpList_appI rfl _ _ 22 rfl w.heap.size _ _ D [(k : Int)] rfl HALC.out rfl HSR.out (by simp; omega) (by simp; omega) ?_)
        intro v3 w3 ho3 hgr3
        have HN : Hid (OI w3 w.heap.size v3 (ci (usk l (k + 1))) ∧ Below w.heap.size w w3) := ⟨by rw [HE.out]; exact ho3, grow_one HB.out HO.out hgr3⟩
        clear ho3 hgr3
        go_wp2
        go_roundw
        case rel => exact ⟨k + 1, by omega, by go_num, HN.out.1, HN.out.2⟩
        case measure => simp [intOf]; omega
      · have HE : Hid (OI wr w.heap.size (.slice a1 D.length p1) (ci (usk l (k + 1)))) := by show OI _ _ _ _; rw [HD.out, if_neg hy, List.append_nil]; exact HO.out
        go_wp2
        go_roundw
        case rel => exact ⟨k + 1, by omega, by go_num, HE, HB⟩
        case measure => simp [intOf]; omega
    · obtain rfl : k = l.length := by omega
      have hlt' : ¬ (l.length : Int) < (l.length : Int) := by omega
      have HF : Hid (OI wr w.heap.size u3 (ci (us l))) := HO.out
      clear HO
      obtain ⟨a1, p1, hu⟩ := HF.out.shape
      rw [ci_len] at hu
      subst hu
      go_wp2
      go_ret
      exact ⟨_, _, rfl, HF.out, HB.out⟩

/-- n numbers, g's at the places of S, 0 elsewhere. -/
def spr (n : Nat) (S : List Nat) (g : Nat → Int) : List Int := (List.range n).map fun s => if s ∈ S then g s else 0

theorem spr_len (n : Nat) (S : List Nat) (g : Nat → Int) : (spr n S g).length = n := by simp [spr]

theorem spr_nil (n : Nat) (g : Nat → Int) : spr n [] g = List.replicate n 0 := by
  unfold spr
  simp [List.map_const']

theorem spr_step {n : Nat} {S : List Nat} (g : Nat → Int) {k : Nat} (hk : k < S.length) : (spr n (S.take k) g).set (S.getD k 0) (g (S.getD k 0)) = spr n (S.take (k + 1)) g := by
  apply List.ext_getElem
  · simp [spr]
  · intro i h1 h2
    rw [List.getElem_set]
    have e : S.take (k + 1) = S.take k ++ [S.getD k 0] := by
      rw [List.take_succ_eq_append_getElem hk]
      simp [hk]
    by_cases c : S.getD k 0 = i
    · rw [if_pos c]
      simp only [spr, List.getElem_map, List.getElem_range]
      rw [if_pos (by rw [e, ← c]; simp), c]
    · rw [if_neg c]
      simp only [spr, List.getElem_map, List.getElem_range]
      have : i ∈ S.take (k + 1) ↔ i ∈ S.take k := by
        rw [e, List.mem_append]
        constructor
        · rintro (h | h)
          · exact h
          · simp at h; exact absurd h.symm (by simpa using c)
        · exact .inl
      by_cases q : i ∈ S.take k
      · rw [if_pos q, if_pos (this.2 q)]
      · rw [if_neg q, if_neg fun h => q (this.1 h)]

theorem few_any (n : Nat) (v : Value) (S : List Nat) (w : World) (h : SI w v (ci S)) (hS : ∀ s ∈ S, s < n) (hn : n ≤ 288) (hL : S.length ≤ 288) :
    Calls Try.prog 15 #[.int .i64 n, v] w fun e w' => ∃ a c, e = .returned (.slice a n c) ∧ OI w' w.heap.size (.slice a n c) (spr n S fun _ => 1) ∧ Below w.heap.size w w' := by
  have HS := hide h
  obtain ⟨ao, cap, rfl, hlc, hcm⟩ := h.open
  rw [ci_len] at hlc
  clear h
  rw [ci_len] at HS ⊢
  have HR := hide hS
  clear hS
  go_enter Try.func15, Try.ntmps15
  go_wp2_with (at_make; refine wpList_mkI rfl _ _ rfl _ _ _ _ n n rfl rfl rfl rfl (Nat.le_refl _) (by omega) ?_)
  intro w1 hg hb1
  have HO1 : Hid (OI w1 w.heap.size (.slice (some ⟨w.heap.size, 0, none⟩) n n) (spr n (S.take 0) fun _ => 1)) := by show OI _ _ _ _; rw [List.take_zero, spr_nil]; exact mk_oi hg (by omega)
  have HB1 := hide hb1
  have HSI : Hid (SI w (.slice ao (ci S).length cap) (ci S)) := by rw [ci_len]; exact HS.out
  clear hg hb1
  go_wp2
  go_loopw [12] (fun i wr => ∃ k : Nat, k ≤ S.length ∧ i = .int .i64 k ∧ Hid (OI wr w.heap.size (.slice (some ⟨w.heap.size, 0, none⟩) n n) (spr n (S.take k) fun _ => 1)) ∧ Hid (Below w.heap.size w wr)) (fun i _ => S.length - (intOf i).toNat)
  case atStart => exact ⟨0, Nat.zero_le _, rfl, HO1, HB1⟩
  case round =>
    obtain ⟨k, hk, rfl, HO, HB⟩ := hrel
    by_cases hlt : k < S.length
    · have hlt' : (k : Int) < (S.length : Int) := by omega
      obtain ⟨b, o, rfl, hc⟩ := HSI.out.get HB.out (k := k) (by rw [ci_len]; exact hlt)
      rw [ci_get] at hc
      have hsn := HR.out _ (getD_mem hlt)
      have HST := hide (spr_step (n := n) (S := S) (fun _ => 1) hlt)
      obtain ⟨s, hs⟩ : ∃ s, s = S.getD k 0 := ⟨_, rfl⟩
      rw [← hs] at hc hsn HST
      clear hs
      obtain ⟨⟨u, hu⟩, hfz, ho⟩ := HO.out.putg (k := s) (by rw [spr_len]; exact hsn) 1
      have HN : Hid (OI (wr.setCell ⟨w.heap.size, s, none⟩ (.int .i64 1)) w.heap.size (.slice (some ⟨w.heap.size, 0, none⟩) n n) (spr n (S.take (k + 1)) fun _ => 1)) := by rw [← HST.out]; exact ho
      have HBN : Hid (Below w.heap.size w (wr.setCell ⟨w.heap.size, s, none⟩ (.int .i64 1))) := HB.out.setCell (Nat.le_refl _) _
      clear ho
      go_wp2
      go_roundw
      case rel => exact ⟨k + 1, by omega, by go_num, HN, HBN⟩
      case measure => simp [intOf]; omega
    · obtain rfl : k = S.length := by omega
      have hlt' : ¬ (S.length : Int) < (S.length : Int) := by omega
      have HF : Hid (OI wr w.heap.size (.slice (some ⟨w.heap.size, 0, none⟩) n n) (spr n S fun _ => 1)) := by have := HO.out; rwa [List.take_of_length_le (Nat.le_refl _)] at this
      go_wp2
      go_ret
      exact ⟨_, _, rfl, HF.out, HB.out⟩

theorem gm_get {S : List Nat} {g : Nat → Int} {k : Nat} (h : k < S.length) : (S.map g).getD k 0 = g (S.getD k 0) := by
  rw [List.getD_eq_getElem?_getD, List.getElem?_map, List.getElem?_eq_getElem h]
  simp [h]

theorem spread_any (n : Nat) (v vl : Value) (S : List Nat) (g : Nat → Int) (w : World) (h : SI w v (ci S)) (hl : SI w vl (S.map g)) (hS : ∀ s ∈ S, s < n) (hn : n ≤ 288) (hL : S.length ≤ 288) :
    Calls Try.prog 16 #[.int .i64 n, v, vl] w fun e w' => ∃ a c, e = .returned (.slice a n c) ∧ OI w' w.heap.size (.slice a n c) (spr n S g) ∧ Below w.heap.size w w' := by
  have HS := hide h
  have HL := hide hl
  obtain ⟨ao, cap, rfl, hlc, hcm⟩ := h.open
  obtain ⟨al, cal, rfl, hlc2, hcm2⟩ := hl.open
  rw [ci_len] at hlc
  rw [List.length_map] at hlc2
  clear h hl
  rw [ci_len] at HS ⊢
  rw [List.length_map] at HL ⊢
  have HR := hide hS
  clear hS
  go_enter Try.func16, Try.ntmps16
  go_wp2_with (at_make; refine wpList_mkI rfl _ _ rfl _ _ _ _ n n rfl rfl rfl rfl (Nat.le_refl _) (by omega) ?_)
  intro w1 hg hb1
  have HO1 : Hid (OI w1 w.heap.size (.slice (some ⟨w.heap.size, 0, none⟩) n n) (spr n (S.take 0) g)) := by show OI _ _ _ _; rw [List.take_zero, spr_nil]; exact mk_oi hg (by omega)
  have HB1 := hide hb1
  have HSI : Hid (SI w (.slice ao (ci S).length cap) (ci S)) := by rw [ci_len]; exact HS.out
  have HLI : Hid (SI w (.slice al (S.map g).length cal) (S.map g)) := by rw [List.length_map]; exact HL.out
  clear hg hb1
  go_wp2
  go_loopw [14] (fun i wr => ∃ k : Nat, k ≤ S.length ∧ i = .int .i64 k ∧ Hid (OI wr w.heap.size (.slice (some ⟨w.heap.size, 0, none⟩) n n) (spr n (S.take k) g)) ∧ Hid (Below w.heap.size w wr)) (fun i _ => S.length - (intOf i).toNat)
  case atStart => exact ⟨0, Nat.zero_le _, rfl, HO1, HB1⟩
  case round =>
    obtain ⟨k, hk, rfl, HO, HB⟩ := hrel
    by_cases hlt : k < S.length
    · have hlt' : (k : Int) < (S.length : Int) := by omega
      obtain ⟨b, o, rfl, hc⟩ := HSI.out.get HB.out (k := k) (by rw [ci_len]; exact hlt)
      obtain ⟨b2, o2, rfl, hc2⟩ := HLI.out.get HB.out (k := k) (by rw [List.length_map]; exact hlt)
      rw [ci_get] at hc
      rw [gm_get hlt] at hc2
      have hsn := HR.out _ (getD_mem hlt)
      have HST := hide (spr_step (n := n) (S := S) g hlt)
      obtain ⟨s, hs⟩ : ∃ s, s = S.getD k 0 := ⟨_, rfl⟩
      rw [← hs] at hc hc2 hsn HST
      clear hs
      obtain ⟨y, hy⟩ : ∃ y, y = g s := ⟨_, rfl⟩
      rw [← hy] at hc2 HST
      clear hy
      obtain ⟨⟨u, hu⟩, hfz, ho⟩ := HO.out.putg (k := s) (by rw [spr_len]; exact hsn) y
      have HN : Hid (OI (wr.setCell ⟨w.heap.size, s, none⟩ (.int .i64 y)) w.heap.size (.slice (some ⟨w.heap.size, 0, none⟩) n n) (spr n (S.take (k + 1)) g)) := by rw [← HST.out]; exact ho
      have HBN : Hid (Below w.heap.size w (wr.setCell ⟨w.heap.size, s, none⟩ (.int .i64 y))) := HB.out.setCell (Nat.le_refl _) _
      clear ho
      go_wp2
      go_roundw
      case rel => exact ⟨k + 1, by omega, by go_num, HN, HBN⟩
      case measure => simp [intOf]; omega
    · obtain rfl : k = S.length := by omega
      have hlt' : ¬ (S.length : Int) < (S.length : Int) := by omega
      have HF : Hid (OI wr w.heap.size (.slice (some ⟨w.heap.size, 0, none⟩) n n) (spr n S g)) := by have := HO.out; rwa [List.take_of_length_le (Nat.le_refl _)] at this
      go_wp2
      go_ret
      exact ⟨_, _, rfl, HF.out, HB.out⟩

/-- The first k of g's numbers of S, zeros behind them. -/
def pik (S : List Nat) (g : Nat → Int) (k : Nat) : List Int := (S.take k).map g ++ List.replicate (S.length - k) 0

theorem pik_len {S : List Nat} (g : Nat → Int) {k : Nat} (h : k ≤ S.length) : (pik S g k).length = S.length := by
  simp [pik]; omega

theorem pik_step {S : List Nat} (g : Nat → Int) {k : Nat} (hk : k < S.length) : (pik S g k).set k (g (S.getD k 0)) = pik S g (k + 1) := by
  unfold pik
  obtain ⟨m, hm⟩ : ∃ m, S.length - k = m + 1 := ⟨S.length - k - 1, by omega⟩
  have hm2 : S.length - (k + 1) = m := by omega
  have hl : ((S.take k).map g).length = k := by simp; omega
  rw [hm, hm2, List.take_succ_eq_append_getElem hk, List.map_append]
  conv => lhs; arg 2; rw [← hl]
  rw [List.set_append_right _ _ (Nat.le_refl _), Nat.sub_self, List.replicate_succ, List.set_cons_zero]
  simp [hk]

theorem pick_any (v vs : Value) (l : List Int) (S : List Nat) (w : World) (h : SI w v l) (hs : SI w vs (ci S)) (hS : ∀ s ∈ S, s < l.length) (hL : S.length ≤ 288) :
    Calls Try.prog 18 #[v, vs] w fun e w' => ∃ a c, e = .returned (.slice a S.length c) ∧ OI w' w.heap.size (.slice a S.length c) (S.map fun s => l.getD s 0) ∧ Below w.heap.size w w' := by
  have HS := hide hs
  have HL := hide h
  obtain ⟨ao, cap, rfl, hlc, hcm⟩ := hs.open
  obtain ⟨al, cal, rfl, hlc2, hcm2⟩ := h.open
  rw [ci_len] at hlc
  clear h hs
  rw [ci_len] at HS ⊢
  have HR := hide hS
  clear hS
  go_enter Try.func18, Try.ntmps18
  go_wp2_with (at_make; refine wpList_mkI rfl _ _ rfl _ _ _ _ S.length S.length rfl rfl rfl rfl (Nat.le_refl _) (by omega) ?_)
  intro w1 hg hb1
  have HO1 : Hid (OI w1 w.heap.size (.slice (some ⟨w.heap.size, 0, none⟩) S.length S.length) (pik S (fun s => l.getD s 0) 0)) := by
    show OI _ _ _ _
    have e : pik S (fun s => l.getD s 0) 0 = List.replicate S.length 0 := by simp [pik]
    rw [e]; exact mk_oi hg (by omega)
  have HB1 := hide hb1
  have HSI : Hid (SI w (.slice ao (ci S).length cap) (ci S)) := by rw [ci_len]; exact HS.out
  clear hg hb1
  go_wp2
  go_loopw [13] (fun i wr => ∃ k : Nat, k ≤ S.length ∧ i = .int .i64 k ∧ Hid (OI wr w.heap.size (.slice (some ⟨w.heap.size, 0, none⟩) S.length S.length) (pik S (fun s => l.getD s 0) k)) ∧ Hid (Below w.heap.size w wr)) (fun i _ => S.length - (intOf i).toNat)
  case atStart => exact ⟨0, Nat.zero_le _, rfl, HO1, HB1⟩
  case round =>
    obtain ⟨k, hk, rfl, HO, HB⟩ := hrel
    by_cases hlt : k < S.length
    · have hlt' : (k : Int) < (S.length : Int) := by omega
      obtain ⟨b, o, rfl, hc⟩ := HSI.out.get HB.out (k := k) (by rw [ci_len]; exact hlt)
      rw [ci_get] at hc
      have hsn := HR.out _ (getD_mem hlt)
      have HST := hide (pik_step (S := S) (fun s => l.getD s 0) hlt)
      obtain ⟨s, hs⟩ : ∃ s, s = S.getD k 0 := ⟨_, rfl⟩
      rw [← hs] at hc hsn HST
      clear hs
      have hsn' : (s : Int) < (l.length : Int) := by omega
      obtain ⟨b2, o2, rfl, hc2⟩ := HL.out.get HB.out hsn
      obtain ⟨y, hy⟩ : ∃ y, y = l.getD s 0 := ⟨_, rfl⟩
      rw [← hy] at hc2 HST
      clear hy
      obtain ⟨⟨u, hu⟩, hfz, ho⟩ := HO.out.putg (k := k) (by rw [pik_len _ hk]; exact hlt) y
      have HN : Hid (OI (wr.setCell ⟨w.heap.size, k, none⟩ (.int .i64 y)) w.heap.size (.slice (some ⟨w.heap.size, 0, none⟩) S.length S.length) (pik S (fun s => l.getD s 0) (k + 1))) := by rw [← HST.out]; exact ho
      have HBN : Hid (Below w.heap.size w (wr.setCell ⟨w.heap.size, k, none⟩ (.int .i64 y))) := HB.out.setCell (Nat.le_refl _) _
      clear ho
      go_wp2
      go_roundw
      case rel => exact ⟨k + 1, by omega, by go_num, HN, HBN⟩
      case measure => simp [intOf]; omega
    · obtain rfl : k = S.length := by omega
      have hlt' : ¬ (S.length : Int) < (S.length : Int) := by omega
      have HF : Hid (OI wr w.heap.size (.slice (some ⟨w.heap.size, 0, none⟩) S.length S.length) (S.map fun s => l.getD s 0)) := by
        have := HO.out
        unfold pik at this
        rwa [List.take_of_length_le (Nat.le_refl _), Nat.sub_self, List.replicate_zero, List.append_nil] at this
      go_wp2
      go_ret
      exact ⟨_, _, rfl, HF.out, HB.out⟩
end Go.Proofs.Ytdfggdafflkkcaa

