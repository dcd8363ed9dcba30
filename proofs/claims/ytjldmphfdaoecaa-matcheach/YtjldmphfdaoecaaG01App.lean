import Derived.Laws.BitsLemmas
import Derived.Test.YtjldmphfdaoecaaRows
import Derived.WalkKit
import Derived.ProofKit
import Derived.OpenShut
import Derived.ShutString
import Derived.ChangeOld
import Derived.Below
import Derived.WalkLawsBesides
import Derived.WalkSpells
import Derived.Deep.QuietTactic
import Derived.BigQuiet
import Derived.Laws.CopyOwn
import Derived.SizedLaws
import Derived.Maps.Own
import Derived.Laws.BytesArg
import Derived.Maps.AppendAt
import Derived.Deep.AppendSrc
import Derived.Deep.AppendLies
import Derived.Deep.RegionLaw
namespace Go.Proofs.Ytjldmphfdaoecaa

def Bit (l : List Int) : Prop := ∀ b ∈ l, b = 0 ∨ b = 1

def Byt (d : List Int) : Prop := ∀ i, 0 ≤ d.getD i 0 ∧ d.getD i 0 < 256

theorem Bit.take {a : List Int} (h : Bit a) (n : Nat) : Bit (a.take n) := fun x hx => h x (List.mem_of_mem_take hx)

theorem byt_take {l : List Int} (h : Byt l) (k : Nat) : Byt (l.take k) := by
  intro i
  by_cases hi : i < k
  · have : (l.take k).getD i 0 = l.getD i 0 := by simp [List.getD, hi]
    rw [this]; exact h i
  · have : (l.take k).getD i 0 = 0 := by
      have e : (l.take k)[i]? = none := List.getElem?_eq_none (by rw [List.length_take]; omega)
      simp [List.getD, e]
    rw [this]; decide

end Go.Proofs.Ytjldmphfdaoecaa

namespace Go.Proofs.Ytjldmphfdaoecaa
open Go.RowKit

def SB (w : World) (v : Value) (l : List Int) : Prop :=
  ∃ ao cap, v = .slice ao l.length cap ∧ l.length ≤ cap ∧ cap ≤ maxLen ∧ (ao = none → cap = 0) ∧ ∀ x, ao = some x → ∀ i, i < l.length → w.cell? (x.add i) = some (.int .u8 (l.getD i 0))

def OB (w : World) (base : Nat) (v : Value) (l : List Int) : Prop := w.ownsRow base 5 1 v l.length (l.map (Value.int .u8))

theorem hide {p : Prop} (h : p) : Hid p := h
theorem unhide {p : Prop} (h : Hid p) : p := h

theorem add_block (x : Addr) (i : Nat) : (x.add i).block = x.block := by unfold Addr.add; split <;> rfl

theorem SB.move {w w' : World} {v : Value} {l : List Int} (h : SB w v l) (hc : ∀ a u, w.cell? a = some u → v.ownBlock = some a.block → w'.cell? a = some u) : SB w' v l := by
  obtain ⟨ao, cap, rfl, h1, h2, h3, h4⟩ := h
  refine ⟨ao, cap, rfl, h1, h2, h3, fun x hx i hi => hc _ _ (h4 x hx i hi) ?_⟩
  subst hx; simp [Value.ownBlock, add_block]

theorem SB.below {w w' : World} {v : Value} {l : List Int} (h : SB w v l) (hb : Below w.heap.size w w') : SB w' v l :=
  h.move fun a _ ha _ => (hb.cell (World.block_lt_of_cell? w a ha)).trans ha

theorem OB.lt {w : World} {base : Nat} {v : Value} {l : List Int} (h : OB w base v l) : ∀ k, v.ownBlock = some k → base ≤ k ∧ k < w.heap.size := World.ownsRow.lt h

theorem OB.sb {w : World} {base : Nat} {v : Value} {l : List Int} (h : OB w base v l) : SB w v l := by
  have hc := @World.ownsRow.cells _ _ _ _ _ _ _ h
  rcases h.2 with ⟨rfl, h0⟩ | ⟨g, cap, cur, rfl, _, _, h3, h4, _, _⟩
  · obtain rfl : l = [] := List.eq_nil_of_length_eq_zero h0
    exact ⟨none, 0, rfl, Nat.le_refl _, Nat.zero_le _, fun _ => rfl, fun x hx => by cases hx⟩
  · refine ⟨some ⟨g, 0, none⟩, cap, rfl, h3, h4, (fun e => by cases e), fun x hx i hi => ?_⟩
    cases hx
    refine hc (g := g) rfl i _ ?_
    simp [hi]

theorem OB.shape {w : World} {base : Nat} {v : Value} {l : List Int} (h : OB w base v l) : ∃ a c, v = .slice a l.length c := by
  rcases h.2 with ⟨rfl, h0⟩ | ⟨g, cap, cur, rfl, _⟩
  · exact ⟨none, 0, by rw [h0]⟩
  · exact ⟨_, _, rfl⟩

theorem OB.move {w w' : World} {base : Nat} {v : Value} {l : List Int} (h : OB w base v l) (hb : ∀ k, v.ownBlock = some k → w'.heap[k]? = w.heap[k]?) : OB w' base v l := by
  refine ⟨h.1, ?_⟩
  rcases h.2 with h2 | ⟨g, cap, cur, rfl, h1, h2, r⟩
  · exact .inl h2
  · exact .inr ⟨g, cap, cur, rfl, h1, (hb g rfl).trans h2, r⟩

theorem OB.base {w : World} {base base' : Nat} {v : Value} {l : List Int} (h : OB w base v l) (hb : base' ≤ base) : OB w base' v l := by
  refine ⟨h.1, ?_⟩
  rcases h.2 with h2 | ⟨g, cap, cur, rfl, h1, r⟩
  · exact .inl h2
  · exact .inr ⟨g, cap, cur, rfl, Nat.le_trans hb h1, r⟩

theorem OB.below {w w' : World} {base B : Nat} {v : Value} {l : List Int} (h : OB w base v l) (hb : Below B w w') (hB : w.heap.size ≤ B) : OB w' base v l :=
  h.move fun k hk => hb.block k (Nat.lt_of_lt_of_le (h.lt k hk).2 hB)

theorem size_alloc' (w : World) (o : Obj) : (w.alloc o).heap.size = w.heap.size + 1 := by simp

theorem heap_two (w : World) (o p : Obj) : ((w.alloc o).alloc p).heap[w.heap.size + 1]? = some p ∧ ((w.alloc o).alloc p).heap[w.heap.size]? = some o := by
  have e := heap_alloc_new (w.alloc o) p
  rw [size_alloc'] at e
  exact ⟨e, (Below.heap_alloc (w.alloc o) p w.heap.size (by rw [size_alloc']; omega)).trans (heap_alloc_new w o)⟩

theorem info5 : (Try.prog.info? 5).map (fun i => (i.zero, i.size, i.bytes)) = some (some (.int .u8 0), 1, 1) := by kernel_rfl

theorem addr_lit {w : World} {x : Addr} {u : Value} (h : w.cell? (x.add 0) = some u) : ∃ b o, x = ⟨b, o, none⟩ := by
  have hs := World.cell?_spot h
  obtain ⟨b, o, s⟩ := x
  refine ⟨b, o, ?_⟩
  unfold Addr.add at hs
  cases s with
  | none => rfl
  | some q => simp at hs

theorem size_setCell (w : World) (a : Addr) (u : Value) : (w.setCell a u).heap.size = w.heap.size := by simp [World.setCell]

theorem setCell_others (w : World) (g o : Nat) (u : Value) : ∀ k, k ≠ g → (w.setCell ⟨g, o, none⟩ u).heap[k]? = w.heap[k]? := fun k hk => Below.heap_setCell w _ u k hk

end Go.Proofs.Ytjldmphfdaoecaa

namespace Go.Proofs.Ytjldmphfdaoecaa
open Go.RowKit

def eqB (l1 l2 : List Int) : Bool := decide (l1 = l2)

end Go.Proofs.Ytjldmphfdaoecaa

namespace Go.Proofs.Ytjldmphfdaoecaa
open Go.RowKit Go.Maps

def Grew (w w' : World) (v v' : Value) : Prop := (v' = v ∧ w' = w) ∨ (v'.ownBlock = some w.heap.size ∧ Below w.heap.size w w') ∨ (v'.ownBlock = v.ownBlock ∧ w'.heap.size = w.heap.size ∧ w.grownBy w' v.ownBlock)

theorem run_app_none (w : World) (tx ty : TypeId) (i : TypeInfo) (hi : Try.prog.info? 5 = some i) (x : Value) (hs : Src Try.prog i.size tx x 0 [] w) :
    (Builtin.append_ #[22, tx] ty #[.slice none 0 0, x]).run Try.prog w = .ok (.slice none 0 0) w := by
  rcases hs.kind with ⟨e', hk⟩ | hk <;> simp [Builtin.append_, run_underlying Try.underlying22, run_underlying hk, sizeOf, typeInfo, hi, hs.len, hs.cells]

theorem run_app (w : World) (base : Nat) (tx ty : TypeId) (v x : Value) (l news : List Int) (hown : OB w base v l) (hs : Src Try.prog 1 tx x news.length (news.map (Value.int .u8)) w)
    (hb : l.length + news.length ≤ 140737488355328) (hbase : base ≤ w.heap.size) :
    ∃ v' w', (Builtin.append_ #[22, tx] ty #[v, x]).run Try.prog w = .ok v' w' ∧ OB w' base v' (l ++ news) ∧ Grew w w' v v' := by
  obtain ⟨i, hi, hz, hsz, hby⟩ := info_parts info5
  have hs' : Src Try.prog i.size tx x news.length (news.map (Value.int .u8)) w := by rw [hsz]; exact hs
  have hmx : l.length + news.length ≤ maxLen := by unfold maxLen; omega
  have grown : ∀ old, old < l.length + news.length → (OB (w.drew.alloc (.cells ((l.map (Value.int .u8) ++ news.map (Value.int .u8)).toArray ++ Builtin.zeroCells (Value.int .u8 0).cells (grownCap w (l.length + news.length) old 5 - (l.length + news.length))) 5)) base
      (.slice (some ⟨w.heap.size, 0, none⟩) (l.length + news.length) (grownCap w (l.length + news.length) old 5)) (l ++ news)) := by
    intro old ho
    have hge := grownCap_ge w (l.length + news.length) old 5
    have hcm : grownCap w (l.length + news.length) old 5 ≤ maxLen := grownCap_le_maxLen w (l.length + news.length) old 5 hmx
    refine ⟨by simp, .inr ⟨w.heap.size, grownCap w (l.length + news.length) old 5, _, by rw [List.length_append], hbase, heap_alloc_new w.drew _, by rw [List.length_append]; exact hge, hcm, ?_, ?_⟩⟩
    · simp only [Array.size_append, List.size_toArray, List.length_append, List.length_map, size_zeroCells, Value.cells]
      simp
      omega
    · simp only [Array.toList_append, List.map_append]
      rw [List.take_append_of_le_length (by simp)]
      exact List.take_of_length_le (by simp)
  rcases hown.2 with ⟨rfl, h0⟩ | ⟨g, cap, cur, rfl, hbg, hg, hnc, hcm, hcs, htake⟩
  · obtain rfl : l = [] := List.eq_nil_of_length_eq_zero h0
    by_cases hm : news = []
    · subst hm
      exact ⟨_, _, run_app_none w tx ty i hi x hs', hown, .inl ⟨rfl, rfl⟩⟩
    · have hpos : 0 < news.length := List.length_pos_iff.2 hm
      have hr := run_append_grow_src (P := Try.prog) w 22 tx ty 5 i (.int .u8 0) Try.underlying22 hi hz none 0 0 [] (run_firstCells_none w.drew i.size 0 0 0) x news.length _ hs' (by omega) (by omega) (by rw [hby]; exact growslice_fits (by omega) (by simp at hb ⊢; omega))
      have hgr := grown 0 (by simp; omega)
      simp only [List.length_nil, Nat.zero_add, List.map_nil, List.nil_append] at hgr hr ⊢
      exact ⟨_, _, hr, hgr, .inr (.inl ⟨rfl, (Below.refl _ _).drew.alloc (Nat.le_refl _) _⟩)⟩
  · by_cases hroom : l.length + news.length ≤ cap
    · have hfit : l.length * i.size + (news.map (Value.int .u8)).length ≤ cur.size := by rw [hsz, hcs]; simp; omega
      have hst := run_storeCells_at Try.prog g (l.length * i.size) 5 (news.map (Value.int .u8)) 0 cur w hg (by simpa using hfit) hs.one
      simp only [Nat.add_zero] at hst
      have hr : (Builtin.append_ #[22, tx] ty #[.slice (some ⟨g, 0, none⟩) l.length cap, x]).run Try.prog w =
          .ok (.slice (some ⟨g, 0, none⟩) (l.length + news.length) cap) (w.setRow g (cur.toList.take (l.length * i.size) ++ news.map (Value.int .u8) ++ cur.toList.drop (l.length * i.size + (news.map (Value.int .u8)).length)).toArray) := by
        rcases hs'.kind with ⟨e', hk⟩ | hk <;> simp [Builtin.append_, run_underlying Try.underlying22, run_underlying hk, sizeOf, typeInfo, hi, hs'.len, hroom, hs'.cells, Addr.add_lit, hst]
      refine ⟨_, _, hr, ⟨by simp, .inr ⟨g, cap, _, by rw [List.length_append], hbg, setRow_heap w g cur _ 5 _ hg, by rw [List.length_append]; exact hroom, hcm, ?_, ?_⟩⟩, .inr (.inr ⟨rfl, by simp [World.setRow], ⟨rfl, rfl, rfl, by simp, fun k _ hk => setRow_other w g k _ (fun e => hk (by simp [Value.ownBlock, e]))⟩⟩)⟩
      · rw [hsz]
        simp only [List.size_toArray, List.length_append, List.length_take, List.length_drop, Array.length_toList, List.length_map]
        omega
      · rw [hsz, htake]
        simp only [List.map_append]
        rw [List.take_append_of_le_length (by simp)]
        exact List.take_of_length_le (by simp)
    · have holds : ∀ j u, (l.map (Value.int .u8))[j]? = some u → w.drew.cell? ((⟨g, 0, none⟩ : Addr).add j) = some u := World.ownsRow.cells hown (g := g) rfl
      have hr := run_append_grow_src (P := Try.prog) w 22 tx ty 5 i (.int .u8 0) Try.underlying22 hi hz (some ⟨g, 0, none⟩) l.length cap (l.map (Value.int .u8)) (run_firstCells_some w.drew i.size l.length ⟨g, 0, none⟩ l.length cap _ (by rw [hsz]; simp) holds) x news.length _ hs' (by omega) (by omega) (by rw [hby]; exact growslice_fits (by omega) (by omega))
      exact ⟨_, _, hr, grown cap (by omega), .inr (.inl ⟨rfl, (Below.refl _ _).drew.alloc (Nat.le_refl _) _⟩)⟩

theorem wpList_app {w : World} {ops : Array Oper} {rest : List Oper} {o : Oper} {a : Act} {Q : Exit → Act → World → Prop} (hgd : o.guard = none) (s x : Operand) (tx : TypeId)
    (ho : o.op = .call { callee := .builtin .append, args := #[s, x], argTypes := #[22, tx] }) (base : Nat) (v xv : Value) (l news : List Int) (hv : a.eval s = v) (hown : OB w base v l) (hx : a.eval x = xv) (hs : Src Try.prog 1 tx xv news.length (news.map (Value.int .u8)) w)
    (hb : l.length + news.length ≤ 140737488355328) (hbase : base ≤ w.heap.size)
    (h : ∀ v' w', OB w' base v' (l ++ news) → Grew w w' v v' → wpList Try.prog ops Q rest (a.put o.dst v') w') : wpList Try.prog ops Q (o :: rest) a w := by
  refine wpList_plain hgd fun K hK => ?_
  obtain ⟨v', w', hr, h2, h3⟩ := run_app w base tx o.type v xv l news hown hs hb hbase
  unfold Oper.wp
  simp [execOp, ho, resolve, invoke, builtin, hv, hx, hr, Result.andThen]
  exact hK _ _ (h v' w' h2 h3)

theorem SB.src {w : World} {v : Value} {l : List Int} (h : SB w v l) : Src Try.prog 1 22 v l.length (l.map (Value.int .u8)) w := by
  obtain ⟨ao, cap, rfl, h1, h2, h3, h4⟩ := h
  cases ao with
  | none =>
    have hc := h3 rfl
    obtain rfl : l = [] := List.eq_nil_of_length_eq_zero (by omega)
    exact Src.ofNil w Try.underlying22 cap
  | some a =>
    refine Src.ofSlice w Try.underlying22 a l.length cap _ (by simp) (fun j u hj => ?_) (fun u hu => by obtain ⟨n, _, rfl⟩ := List.mem_map.1 hu; rfl)
    obtain ⟨hjl, rfl⟩ := List.getElem?_eq_some_iff.1 hj
    have hjl' : j < l.length := by simpa using hjl
    rw [h4 a rfl j hjl']
    simp [hjl']

theorem heap_setCell_at {w : World} {g k : Nat} {cur : Array Value} {t : TypeId} (u : Value) (h : w.heap[g]? = some (.cells cur t (0, 0))) : (w.setCell ⟨g, k, none⟩ u).heap[g]? = some (.cells (cur.setIfInBounds k u) t (0, 0)) := by
  simp [World.setCell, Array.getElem?_modify, h]

theorem Grew.by {w w' : World} {v v' : Value} (h : Grew w w' v v') : w.grownBy w' v.ownBlock := by
  rcases h with ⟨_, rfl⟩ | ⟨_, hb⟩ | ⟨_, _, hg⟩
  · exact World.grownBy.refl _ _
  · exact ⟨hb.os, hb.tape, hb.output, hb.size, fun k hk _ => hb.block k hk⟩
  · exact hg

theorem Grew.at {w w' : World} {v v' : Value} (h : Grew w w' v v') : v'.ownBlock = some w.heap.size ∨ v'.ownBlock = v.ownBlock := by
  rcases h with ⟨rfl, _⟩ | ⟨h, _⟩ | ⟨h, _⟩
  · exact .inr rfl
  · exact .inl h
  · exact .inr h

theorem built_src (w : World) (cs : List Int) : Src Try.prog 1 22 (.slice (some ⟨w.heap.size, 0, none⟩) cs.length cs.length) cs.length (cs.map (Value.int .u8)) (w.alloc (.cells (cs.map (Value.int .u8)).toArray 5)) := by
  refine Src.ofSlice _ Try.underlying22 _ _ _ _ (by simp) (fun j u hj => ?_) (fun u hu => by obtain ⟨n, _, rfl⟩ := List.mem_map.1 hu; rfl)
  have e := heap_alloc_new w (.cells (cs.map (Value.int .u8)).toArray 5)
  rw [Addr.add_lit]
  unfold World.cell?
  simp only [e, Nat.zero_add]
  simpa using hj

theorem OB.alloc {w : World} {base : Nat} {v : Value} {l : List Int} (h : OB w base v l) (o : Obj) : OB (w.alloc o) base v l := h.move fun k hk => Below.heap_alloc w o k (h.lt k hk).2

end Go.Proofs.Ytjldmphfdaoecaa

