import Derived.Laws.BitsLemmas
import Derived.Test.YtogplagiheoaiaaRows
import Derived.WalkKit
import Derived.ProofKit
import Derived.OpenShut
import Derived.ShutString
import Derived.ChangeOld
import Derived.Below
import Derived.WalkLawsBesides
import Derived.WalkSpells
import Derived.Deep.QuietTactic
import Derived.BigQuiet
import Derived.Laws.CopyOwn
import Derived.SizedLaws
import Derived.Maps.Own
import Derived.Laws.BytesArg
import Derived.Lib.SmallJoins
import Derived.Deep.Slices
namespace Go.Proofs.Ytogplagiheoaiaa

def Byt (d : List Int) : Prop := ∀ i, 0 ≤ d.getD i 0 ∧ d.getD i 0 < 256

theorem byt_cons {b : Int} {d : List Int} (h : Byt (b :: d)) : (0 ≤ b ∧ b < 256) ∧ Byt d :=
  ⟨by simpa using h 0, fun i => by have := h (i + 1); simpa using this⟩

theorem byt_cons_mk {b : Int} {d : List Int} (h0 : 0 ≤ b) (h1 : b < 256) (h : Byt d) : Byt (b :: d) := by
  intro i
  cases i with
  | zero => simpa using ⟨h0, h1⟩
  | succ i => simpa using h i

theorem byt_append {a b : List Int} (h : Byt a) (k : Byt b) : Byt (a ++ b) := by
  induction a with
  | nil => exact k
  | cons x a ih =>
    obtain ⟨h0, h1⟩ := byt_cons h
    exact byt_cons_mk h0.1 h0.2 (ih h1)

theorem byt_take {l : List Int} (h : Byt l) (k : Nat) : Byt (l.take k) := by
  intro i
  by_cases hi : i < k
  · have : (l.take k).getD i 0 = l.getD i 0 := by simp [List.getD, hi]
    rw [this]; exact h i
  · have : (l.take k).getD i 0 = 0 := by
      have e : (l.take k)[i]? = none := List.getElem?_eq_none (by rw [List.length_take]; omega)
      simp [List.getD, e]
    rw [this]; decide

end Go.Proofs.Ytogplagiheoaiaa

namespace Go.Proofs.Ytogplagiheoaiaa
open Go.RowKit

def SB (w : World) (v : Value) (l : List Int) : Prop :=
  ∃ ao cap, v = .slice ao l.length cap ∧ l.length ≤ cap ∧ cap ≤ maxLen ∧ (ao = none → cap = 0) ∧ ∀ x, ao = some x → ∀ i, i < l.length → w.cell? (x.add i) = some (.int .u8 (l.getD i 0))

def OB (w : World) (base : Nat) (v : Value) (l : List Int) : Prop := w.ownsRow base 5 1 v l.length (l.map (Value.int .u8))

theorem hide {p : Prop} (h : p) : Hid p := h
theorem unhide {p : Prop} (h : Hid p) : p := h

theorem add_block (x : Addr) (i : Nat) : (x.add i).block = x.block := by unfold Addr.add; split <;> rfl

theorem SB.move {w w' : World} {v : Value} {l : List Int} (h : SB w v l) (hc : ∀ a u, w.cell? a = some u → v.ownBlock = some a.block → w'.cell? a = some u) : SB w' v l := by
  obtain ⟨ao, cap, rfl, h1, h2, h3, h4⟩ := h
  refine ⟨ao, cap, rfl, h1, h2, h3, fun x hx i hi => hc _ _ (h4 x hx i hi) ?_⟩
  subst hx; simp [Value.ownBlock, add_block]

theorem SB.below {w w' : World} {v : Value} {l : List Int} (h : SB w v l) (hb : Below w.heap.size w w') : SB w' v l :=
  h.move fun a _ ha _ => (hb.cell (World.block_lt_of_cell? w a ha)).trans ha

theorem OB.lt {w : World} {base : Nat} {v : Value} {l : List Int} (h : OB w base v l) : ∀ k, v.ownBlock = some k → base ≤ k ∧ k < w.heap.size := World.ownsRow.lt h

theorem OB.sb {w : World} {base : Nat} {v : Value} {l : List Int} (h : OB w base v l) : SB w v l := by
  have hc := @World.ownsRow.cells _ _ _ _ _ _ _ h
  rcases h.2 with ⟨rfl, h0⟩ | ⟨g, cap, cur, rfl, _, _, h3, h4, _, _⟩
  · obtain rfl : l = [] := List.eq_nil_of_length_eq_zero h0
    exact ⟨none, 0, rfl, Nat.le_refl _, Nat.zero_le _, fun _ => rfl, fun x hx => by cases hx⟩
  · refine ⟨some ⟨g, 0, none⟩, cap, rfl, h3, h4, (fun e => by cases e), fun x hx i hi => ?_⟩
    cases hx
    refine hc (g := g) rfl i _ ?_
    simp [hi]

theorem OB.shape {w : World} {base : Nat} {v : Value} {l : List Int} (h : OB w base v l) : ∃ a c, v = .slice a l.length c := by
  rcases h.2 with ⟨rfl, h0⟩ | ⟨g, cap, cur, rfl, _⟩
  · exact ⟨none, 0, by rw [h0]⟩
  · exact ⟨_, _, rfl⟩

theorem OB.move {w w' : World} {base : Nat} {v : Value} {l : List Int} (h : OB w base v l) (hb : ∀ k, v.ownBlock = some k → w'.heap[k]? = w.heap[k]?) : OB w' base v l := by
  refine ⟨h.1, ?_⟩
  rcases h.2 with h2 | ⟨g, cap, cur, rfl, h1, h2, r⟩
  · exact .inl h2
  · exact .inr ⟨g, cap, cur, rfl, h1, (hb g rfl).trans h2, r⟩

theorem size_alloc' (w : World) (o : Obj) : (w.alloc o).heap.size = w.heap.size + 1 := by simp

theorem heap_two (w : World) (o p : Obj) : ((w.alloc o).alloc p).heap[w.heap.size + 1]? = some p ∧ ((w.alloc o).alloc p).heap[w.heap.size]? = some o := by
  have e := heap_alloc_new (w.alloc o) p
  rw [size_alloc'] at e
  exact ⟨e, (Below.heap_alloc (w.alloc o) p w.heap.size (by rw [size_alloc']; omega)).trans (heap_alloc_new w o)⟩

theorem info5 : (Try.prog.info? 5).map (fun i => (i.zero, i.size, i.bytes)) = some (some (.int .u8 0), 1, 1) := by kernel_rfl

theorem addr_lit {w : World} {x : Addr} {u : Value} (h : w.cell? (x.add 0) = some u) : ∃ b o, x = ⟨b, o, none⟩ := by
  have hs := World.cell?_spot h
  obtain ⟨b, o, s⟩ := x
  refine ⟨b, o, ?_⟩
  unfold Addr.add at hs
  cases s with
  | none => rfl
  | some q => simp at hs

theorem size_setCell (w : World) (a : Addr) (u : Value) : (w.setCell a u).heap.size = w.heap.size := by simp [World.setCell]

theorem setCell_others (w : World) (g o : Nat) (u : Value) : ∀ k, k ≠ g → (w.setCell ⟨g, o, none⟩ u).heap[k]? = w.heap[k]? := fun k hk => Below.heap_setCell w _ u k hk

end Go.Proofs.Ytogplagiheoaiaa

namespace Go.Proofs.Ytogplagiheoaiaa
open Go.ChangeShapes Go.WideShapes Go.ChangeAt Go.RowKit Go.Joins Go.Deep

theorem own : ownKnob Try.prog.godebug = none := by kernel_rfl
theorem laidOut : laidOutB Try.prog = true := by kernel_rfl
theorem bytesByte : Try.prog.bytesOf 5 = 1 := by kernel_rfl

theorem byte_wf {n : Int} (h : (Lit.int .u8 n).wf = true) : 0 ≤ n ∧ n < 256 := by
  simp [Lit.wf, IntKind.min, IntKind.max, IntKind.signed, IntKind.bits] at h
  omega

theorem open_bytes {H : Type} {enc : TypeId × Value → H} {W : World} {ao : Option Addr} {len cap : Nat} {d : DataW H} {ps : List MemPlace}
    (h : DataW.Trod enc Try.prog W 0 (fun _ => true) true 22 (.slice ao len cap) d ps) :
    ∃ l, SB W (.slice ao len cap) l ∧ Byt l ∧ (l = [] ∨ ∃ elems spare, d = .slice elems spare ∧ l.length ≤ elems.length + spare.length) := by
  obtain ⟨fuel, hf⟩ := h
  rcases open_ints Try.underlying22 Try.underlying5 (by kernel_rfl) hf with ⟨hcs, _⟩ | ⟨x, ll, c, zs, hcs, _, hl, hm, hz, hx, hcell, hwz⟩
  · simp [Value.cells] at hcs
    obtain ⟨rfl, rfl, rfl⟩ := hcs
    exact ⟨[], ⟨none, 0, rfl, Nat.le_refl _, Nat.zero_le _, fun _ => rfl, fun x hx => by cases hx⟩, (fun i => by simp), .inl rfl⟩
  · simp [Value.cells] at hcs
    obtain ⟨rfl, rfl, rfl⟩ := hcs
    simp only [if_true] at hz
    have e : (zs.take len).length = len := by rw [List.length_take]; omega
    simp only [Prod.mk.injEq] at hx
    have hbz : Byt zs := by
      intro i
      by_cases hi : i < zs.length
      · have : zs.getD i 0 = zs[i] := by simp [hi]
        rw [this]
        exact byte_wf (hwz _ (List.getElem_mem hi))
      · have : zs.getD i 0 = 0 := by simp [hi]
        rw [this]; decide
    refine ⟨zs.take len, ⟨some x, cap, by rw [e], by omega, hm, (fun h => by cases h), fun y hy i hi => ?_⟩, byt_take hbz _, .inr ⟨_, _, hx.1, ?_⟩⟩
    · cases hy
      rw [e] at hi
      rw [hcell i (by omega)]
      simp [List.getD, hi]
    · simp [lits]

theorem reach_bytes {H : Type} {ts : List TypeId} {ds : List (DataW H)} {j : Nat} {l : List Int} {d : DataW H} (h : (DataW.weightsEach Try.prog ts ds).all (· ≤ reachBytes) = true) (ht : ts[j]? = some 22) (hd : ds[j]? = some d)
    (hl : l = [] ∨ ∃ elems spare, d = .slice elems spare ∧ l.length ≤ elems.length + spare.length) : l.length ≤ 140737488351232 := by
  rcases hl with rfl | ⟨elems, spare, rfl, hl⟩
  · simp
  · have := sized_slice h ht hd Try.underlying22
    rw [bytesByte] at this
    simp only [reachBytes] at this
    omega

end Go.Proofs.Ytogplagiheoaiaa

