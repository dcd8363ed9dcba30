import Derived.Test.YteiajeeincapoabTornA
import Derived.Test.YteiajeeincapoabTornP
import Derived.Test.YteiajeeincapoabFused
namespace Go.Proofs.Yteiajeeincapoab
open Go.RowKit Go.Maps

theorem infoBytes : (Try.prog.info? 22).map (fun i => (i.zero, i.size, i.bytes)) = some (some (.slice none 0 0), 1, 24) := by kernel_rfl

structure MomV (B : Nat) (w : World) (K : Nat → Nat) (v : Value) (ms : List (List Int)) (cs : List Value) : Prop where
  row : w.ownsRow B 22 1 v ms.length cs
  role : Role K v 0
  el : ∀ (j : Nat) (m : List Int), ms[j]? = some m → ∃ av cv, cs[j]? = some (.slice av m.length cv) ∧ SB w (.slice av m.length cv) m ∧ ∀ k, (Value.slice av m.length cv).ownBlock = some k → K k = 0 ∧ k < w.heap.size ∧ v.ownBlock ≠ some k
  len : ∀ m ∈ ms, m.length ≤ 16777216

theorem MomV.shape {B : Nat} {w : World} {K : Nat → Nat} {v : Value} {ms : List (List Int)} {cs : List Value} (h : MomV B w K v ms cs) : ∃ a c, v = .slice a ms.length c := by
  rcases h.row.2 with ⟨rfl, h0⟩ | ⟨g, cap, cur, rfl, _⟩
  · exact ⟨none, 0, by rw [h0]⟩
  · exact ⟨_, _, rfl⟩

theorem MomV.sm {B : Nat} {w : World} {K : Nat → Nat} {v : Value} {ms : List (List Int)} {cs : List Value} (h : MomV B w K v ms cs) : SM w v ms := by
  have hc := @World.ownsRow.cells _ _ _ _ _ _ _ h.row
  rcases h.row.2 with ⟨rfl, h0⟩ | ⟨g, cap, cur, rfl, _, _, h3, h4, _, _⟩
  · obtain rfl : ms = [] := List.eq_nil_of_length_eq_zero h0
    exact ⟨none, 0, rfl, Nat.le_refl _, Nat.zero_le _, fun j m hj => by simp at hj⟩
  · refine ⟨some ⟨g, 0, none⟩, cap, rfl, h3, h4, fun j m hj => ?_⟩
    obtain ⟨av, cv, h5, h6, _⟩ := h.el j m hj
    refine ⟨g, 0, av, cv, rfl, ?_, h6⟩
    have := hc (g := g) rfl j _ h5
    rwa [Addr.add_lit] at this

theorem MomV.nil (B : Nat) (w : World) (K : Nat → Nat) : MomV B w K (.slice none 0 0) [] [] :=
  ⟨World.ownsRow_nil _ _ _ _, roleNil _ _, (fun j m hj => by simp at hj), (fun m hm => by cases hm)⟩

theorem MomV.keep {B : Nat} {w w' : World} {K K' : Nat → Nat} {v : Value} {ms : List (List Int)} {cs : List Value} (h : MomV B w K v ms cs) (hsz : w.heap.size ≤ w'.heap.size) (hb : ∀ k, k < w.heap.size → K k = 0 → w'.heap[k]? = w.heap[k]? ∧ K' k = 0) : MomV B w' K' v ms cs := by
  have hlt := World.ownsRow.lt h.row
  refine ⟨ownsRow_same h.row fun k hk => (hb k (hlt k hk).2 (h.role k hk)).1, fun k hk => (hb k (hlt k hk).2 (h.role k hk)).2, fun j m hj => ?_, h.len⟩
  obtain ⟨av, cv, h1, h2, h3⟩ := h.el j m hj
  exact ⟨av, cv, h1, h2.same fun k hk => (hb k (h3 k hk).2.1 (h3 k hk).1).1, fun k hk => ⟨(hb k (h3 k hk).2.1 (h3 k hk).1).2, Nat.lt_of_lt_of_le (h3 k hk).2.1 hsz, (h3 k hk).2.2⟩⟩

theorem MomV.fr {B : Nat} {w w' : World} {K K' : Nat → Nat} {v : Value} {ms : List (List Int)} {cs : List Value} (h : MomV B w K v ms cs) (hF : Fr K K' w w') : MomV B w' K' v ms cs :=
  h.keep hF.size fun k hk h0 => ⟨hF.block k hk (.inl h0), (hF.role k hk).trans h0⟩

theorem MomV.below {B : Nat} {w w' : World} {K : Nat → Nat} {v : Value} {ms : List (List Int)} {cs : List Value} (h : MomV B w K v ms cs) (hb : Below w.heap.size w w') : MomV B w' K v ms cs :=
  h.keep hb.size fun k hk h0 => ⟨hb.block k hk, h0⟩

theorem MomV.add {B : Nat} {w w' : World} {K : Nat → Nat} {g : Nat} {st : St} {v v' : Value} {ms : List (List Int)} {cs : List Value} {a : Option Addr} {c : Nat} {m : List Int} {O : Obj} (h : MomV B w K v ms cs) (hr : Rep w K g st)
    (hob : SB w (.slice a m.length c) m) (hk : ∀ k, (Value.slice a m.length c).ownBlock = some k → K k = 0 ∧ k < w.heap.size ∧ v.ownBlock ≠ some k) (hm : m.length ≤ 16777216)
    (hown : w'.ownsRow B 22 1 v' (ms.length + 1) (cs ++ [.slice a m.length c])) (hgr : (w.alloc O).grownBy w' v.ownBlock) (hloc : v'.ownBlock = v.ownBlock ∨ v'.ownBlock = some (w.heap.size + 1)) :
    MomV B w' K v' (ms ++ [m]) (cs ++ [.slice a m.length c]) := by
  obtain ⟨_, _, _, _, _, hV⟩ := hr
  have hsz : w.heap.size + 1 ≤ w'.heap.size := by have := hgr.size; rwa [size_alloc'] at this
  have hcl : cs.length = ms.length := by have := h.row.1; omega
  have hkb : ∀ k, k < w.heap.size → v.ownBlock ≠ some k → w'.heap[k]? = w.heap[k]? := fun k hk hne => (hgr.block k (by rw [size_alloc']; omega) (fun e => hne e.symm)).trans (Below.heap_alloc _ _ k hk)
  have hnew : ∀ k, k < w.heap.size → v.ownBlock ≠ some k → v'.ownBlock ≠ some k := fun k hk hne e => by
    rcases hloc with e2 | e2
    · exact hne (e2.symm.trans e)
    · rw [e2] at e
      simp at e
      omega
  refine ⟨by rw [List.length_append]; exact hown, fun k hk' => ?_, fun j m' hj => ?_, fun m' hm' => ?_⟩
  · rcases hloc with e2 | e2
    · exact h.role k (e2.symm.trans hk')
    · rw [e2] at hk'
      simp at hk'
      by_cases e : K k = 0
      · exact e
      · have := hV.sup k e; omega
  · by_cases hjl : j < ms.length
    · rw [List.getElem?_append_left hjl] at hj
      obtain ⟨av, cv, h1, h2, h3⟩ := h.el j m' hj
      refine ⟨av, cv, by rw [List.getElem?_append_left (by omega)]; exact h1, h2.same fun k hk' => hkb k (h3 k hk').2.1 (h3 k hk').2.2, fun k hk' => ⟨(h3 k hk').1, by have := (h3 k hk').2.1; omega, hnew k (h3 k hk').2.1 (h3 k hk').2.2⟩⟩
    · rw [List.getElem?_append_right (by omega)] at hj
      have ej : j = ms.length := by
        have := (List.getElem?_eq_some_iff.1 hj).1
        simp at this
        omega
      subst ej
      simp at hj
      subst hj
      exact ⟨a, c, by rw [List.getElem?_append_right (by omega)]; simp [hcl], hob.same fun k hk' => hkb k (hk k hk').2.1 (hk k hk').2.2, fun k hk' => ⟨(hk k hk').1, by have := (hk k hk').2.1; omega, hnew k (hk k hk').2.1 (hk k hk').2.2⟩⟩
  · rcases List.mem_append.1 hm' with h1 | h1
    · exact h.len m' h1
    · rw [List.mem_singleton.1 h1]; exact hm

theorem Live.grow {W w w' : World} {K : Nat → Nat} {g : Nat} {st : St} {v : Value} {ms : List (List Int)} {cs : List Value} {O : Obj} (h : Live W w K g st) (hm : MomV W.heap.size w K v ms cs) (hgr : (w.alloc O).grownBy w' v.ownBlock) : Live W w' K g st := by
  have hlt := World.ownsRow.lt hm.row
  have hsz : w.heap.size + 1 ≤ w'.heap.size := by have := hgr.size; rwa [size_alloc'] at this
  have hb := h.bel
  have hrep := h.rep
  obtain ⟨_, _, _, _, _, hV⟩ := h.rep
  have hkb : ∀ k, k < w.heap.size → v.ownBlock ≠ some k → w'.heap[k]? = w.heap[k]? := fun k hk hne => (hgr.block k (by rw [size_alloc']; omega) (fun e => hne e.symm)).trans (Below.heap_alloc _ _ k hk)
  refine ⟨hrep.far (by omega) fun k hk => hkb k (hV.sup k hk) (fun e => hk (hm.role k e)), h.up, ⟨hgr.os.trans hb.os, hgr.tape.trans hb.tape, hgr.output.trans hb.output, by have := hb.size; omega, fun k hk => ?_⟩⟩
  rw [hkb k (by have := hb.size; omega) (fun e => by have := (hlt k e).1; omega)]
  exact hb.block k hk


theorem MomV.one {B : Nat} {w1 w2 : World} {K : Nat → Nat} {g : Nat} {st : St} {l : List Int} (hr : Rep w1 K g st) (ho : OB w2 w1.heap.size (.slice (some ⟨w1.heap.size, 0, none⟩) l.length l.length) l) (hB : B ≤ w1.heap.size) (hl : l.length ≤ 16777216) :
    MomV B (w2.alloc (.cells #[.slice (some ⟨w1.heap.size, 0, none⟩) l.length l.length] 22)) K (.slice (some ⟨w2.heap.size, 0, none⟩) 1 1) [l] [.slice (some ⟨w1.heap.size, 0, none⟩) l.length l.length] := by
  obtain ⟨_, _, _, _, _, hV⟩ := hr
  have hlt := (ho.lt w1.heap.size rfl).2
  have hz : ∀ k, w1.heap.size ≤ k → K k = 0 := fun k hk => by
    by_cases e : K k = 0
    · exact e
    · have := hV.sup k e; omega
  refine ⟨⟨rfl, .inr ⟨w2.heap.size, 1, _, rfl, by omega, heap_alloc_new _ _, Nat.le_refl _, by unfold maxLen; omega, rfl, rfl⟩⟩, fun k hk => ?_, fun j m hj => ?_, fun m hm => ?_⟩
  · simp only [Value.ownBlock, Option.some.injEq] at hk
    exact hz k (by omega)
  · match j, hj with
    | 0, hj =>
      simp at hj
      subst hj
      refine ⟨_, _, rfl, ho.sb.alloc' _, fun k hk => ?_⟩
      simp only [Value.ownBlock, Option.some.injEq] at hk
      refine ⟨hz k (by omega), by rw [size_alloc']; omega, ?_⟩
      simp only [Value.ownBlock, ne_eq, Option.some.injEq]
      omega
    | j + 1, hj => simp at hj
  · rw [List.mem_singleton.1 hm]; exact hl
end Go.Proofs.Yteiajeeincapoab
