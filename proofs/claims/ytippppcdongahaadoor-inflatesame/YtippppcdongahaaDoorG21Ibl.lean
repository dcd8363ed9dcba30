import Derived.Test.YtippppcdongahaaDoorG20Ibk
import Derived.Test.YtippppcdongahaaDoorG16Exq
import Derived.Stop.RegionWithIn
import Derived.TacticsInMore
import Derived.LoopNIn
import Derived.LoopIn
import Derived.OwnWalkIn
import Derived.Shelf.RegionOpen
import Derived.RangeFuncBound
namespace Go.Proofs.YtippppcdongahaaDoor
open Go.RowKit Go.Maps Go.Shelf
attribute [local go_sem] Oper.semAt_some
set_option maxRecDepth 20000
set_option linter.unusedVariables false

/-! The iterator that Blocks hands back. -/

theorem wtake_up {w w' : World} {B : Nat} (h : ∀ k, k < B → w'.heap[k]? = w.heap[k]?) (ho : w'.os = w.os) (ht : w'.tape = w.tape) (hp : w'.output = w.output) (h1 : B ≤ w.heap.size) (h2 : B ≤ w'.heap.size) : Below (wtake w B).heap.size (wtake w B) (wtake w' B) := by
  have e := wtake_size h1
  rw [e]
  exact ⟨ho, ht, hp, by have := wtake_size h2; omega, fun k hk => (wtake_at hk).trans ((h k hk).trans (wtake_at hk).symm)⟩

def BGo (J : Nat → (Nat → Prop) → World → Prop) (Jx : World → Prop) (k : Nat) (S : Nat → Prop) (u : Value) (U : World) (c : Bool) (U' : World) : Prop :=
  (c = true ∧ J (k + 1) (fun b => S b ∧ u.ownBlock ≠ some b) U' ∧ (∀ b, S b → u.ownBlock ≠ some b → U'.heap[b]? = U.heap[b]?) ∧ U.heap.size ≤ U'.heap.size) ∨ (c = false ∧ Jx U')

def BTurns (ps : List Pc) (o : List Int) (l : Nat) (J : Nat → (Nat → Prop) → World → Prop) (Jx : World → Prop) : Prop :=
  ∀ k x S U u, ps[k]? = some x → J k S U → (∀ b, S b → b < U.heap.size) → OB U 0 u (sg o x) → (∀ b, u.ownBlock = some b → S b) → YieldAt Fence.wide 1 Tryd.prog l #[.agg (pcq x), u] U fun e U' => ∃ c, e = .returned (.bool c) ∧ BGo J Jx k S u U c U'

def BBears (J : Nat → (Nat → Prop) → World → Prop) : Prop := ∀ k S S' w w', J k S w → Mvb S w w' → (∀ b, S b → b < w.heap.size) → (∀ b, S b → S' b) → (∀ b, S' b → (S b ∨ w.heap.size ≤ b) ∧ b < w'.heap.size) → J k S' w'

structure Bhd (ps : List Pc) (o0 row : List Int) (L B : Nat) (J : Nat → (Nat → Prop) → World → Prop) (tB g r : Nat) (dn : Bool) (k : Nat) (S : Nat → Prop) (p : Nat) (out : List Int) (W : World) : Prop where
  ist : Ist (fun b => S b ∧ b ≠ tB) B W g r row p L out dn
  box : W.heap[tB]? = some (.cells #[.pointer (some ⟨g, 0, none⟩)] 44 (0, 0))
  sB : S tB
  bnd : ∀ b, S b → b < W.heap.size
  j : J k S W
  kl : k ≤ ps.length
  way : (dn = false ∧ ∃ E q, Txt row L p out (ps.drop k) E q o0) ∨ (dn = true ∧ k = ps.length)

theorem Txt.step {row : List Int} {L p : Nat} {out : List Int} {ps : List Pc} {E : Int} {q : Nat} {o0 : List Int} (h : Txt row L p out ps E q o0) {e : Int} {f : Bool} {k : Int} {q1 : Nat} {o1 : List Int} (hb : Blk row L p out e f k q1 o1) :
    (e ≠ 0 → ps = []) ∧ (e = 0 → ∃ rest, ps = ⟨k, f, p, q1, out.length, o1.length⟩ :: rest ∧ (∃ t, o0 = o1 ++ t) ∧ ((f = true ∧ rest = []) ∨ (f = false ∧ Txt row L q1 o1 rest E q o0))) := by
  cases h with
  | bad h1 h2 =>
    obtain ⟨rfl, _⟩ := h1.det hb
    exact ⟨fun _ => rfl, fun e0 => absurd e0 h2⟩
  | last h1 =>
    obtain ⟨rfl, h2⟩ := h1.det hb
    obtain ⟨rfl, rfl, rfl, rfl⟩ := h2 rfl
    exact ⟨fun e0 => absurd rfl e0, fun _ => ⟨[], rfl, ⟨[], by simp⟩, .inl ⟨rfl, rfl⟩⟩⟩
  | go h1 h3 =>
    obtain ⟨rfl, h2⟩ := h1.det hb
    obtain ⟨rfl, rfl, rfl, rfl⟩ := h2 rfl
    exact ⟨fun e0 => absurd rfl e0, fun _ => ⟨_, rfl, h3.pre, .inr ⟨rfl, h3⟩⟩⟩

theorem drop_cons {α : Type} {ps rest : List α} {x : α} {k : Nat} (h : ps.drop k = x :: rest) : ps[k]? = some x ∧ ps.drop (k + 1) = rest ∧ k < ps.length := by
  have h1 : k < ps.length := by
    rcases Nat.lt_or_ge k ps.length with q | q
    · exact q
    · rw [List.drop_eq_nil_of_le q] at h; cases h
  rw [List.drop_eq_getElem_cons h1] at h
  injection h with h2 h3
  exact ⟨by rw [List.getElem?_eq_getElem h1, h2], h3, h1⟩

variable {ps : List Pc} {o0 row : List Int} {L B : Nat} {J : Nat → (Nat → Prop) → World → Prop} {tB g r : Nat} {dn : Bool} {k : Nat} {S : Nat → Prop} {p : Nat} {out : List Int} {W : World}

structure Bmid (ps : List Pc) (o0 row : List Int) (L B : Nat) (J : Nat → (Nat → Prop) → World → Prop) (tB g r pB : Nat) (dn : Bool) (k : Nat) (S : Nat → Prop) (p q : Nat) (out o : List Int) (x : Pc) (Wr w2 : World) : Prop where
  hd : Bhd ps o0 row L B J tB g r false k S p out Wr
  pz : pB = Wr.heap.size
  got : ps[k]? = some x
  is : x = ⟨x.kind, dn, p, q, out.length, o.length⟩
  seg : ∃ s t, o = out ++ s ∧ o0 = o ++ t
  way : (dn = false ∧ ∃ E q', Txt row L q o (ps.drop (k + 1)) E q' o0) ∨ (dn = true ∧ k + 1 = ps.length)
  gone : ∃ V, V.heap.size = Wr.heap.size + 1 ∧ Below Wr.heap.size Wr V ∧ Gone (fun b => S b ∧ b ≠ tB) B pB V w2 g r row p L out dn x.kind q o
  lt : p < q ∧ q ≤ row.length

theorem Bhd.one (h : Bhd ps o0 row L B J tB g r false k S p out W) (O1 : Obj) {w2 : World} {E : Int} {f : Bool} {kk : Int} {q : Nat} {o : List Int} (hb : Blk row L p out E f kk q o) :
    (E ≠ 0 → k = ps.length) ∧ (E = 0 → Gone (fun b => S b ∧ b ≠ tB) B W.heap.size (W.alloc O1) w2 g r row p L out f kk q o → Bmid ps o0 row L B J tB g r W.heap.size f k S p q out o ⟨kk, f, p, q, out.length, o.length⟩ W w2) := by
  obtain ⟨hbit, -⟩ := h.ist.fact
  rcases h.way with ⟨_, E', q', ht⟩ | ⟨h0, _⟩
  · obtain ⟨h1, h2⟩ := ht.step hb
    refine ⟨fun he => ?_, fun he hg => ?_⟩
    · have := h1 he
      have h3 := h.kl
      rcases Nat.lt_or_ge k ps.length with q | q
      · rw [List.drop_eq_getElem_cons q] at this; cases this
      · omega
    · obtain ⟨rest, h3, h4, h5⟩ := h2 he
      obtain ⟨d1, d2, d3⟩ := drop_cons h3
      obtain ⟨s, hs⟩ := hb.pre
      obtain ⟨t, ht2⟩ := h4
      subst he
      have hlt := hb.lt hbit rfl
      refine ⟨h, rfl, d1, rfl, ⟨s, t, hs, ht2⟩, ?_, ⟨W.alloc O1, by simp, (Below.refl _ _).alloc (Nat.le_refl _) _, hg⟩, by omega⟩
      rcases h5 with ⟨rfl, h6⟩ | ⟨rfl, h6⟩
      · right
        refine ⟨rfl, ?_⟩
        have := congrArg List.length d2
        rw [h6, List.length_drop] at this
        simp at this
        omega
      · exact .inl ⟨rfl, E', q', by rw [d2]; exact h6⟩
  · cases h0

section
variable {q : Nat} {o : List Int} {x : Pc} {pB : Nat} {Wr w2 : World}

theorem Bmid.tbox (h : Bmid ps o0 row L B J tB g r pB dn k S p q out o x Wr w2) : w2.heap[tB]? = some (.cells #[.pointer (some ⟨g, 0, none⟩)] 44 (0, 0)) := by
  obtain ⟨V, h1, h2, h3⟩ := h.gone
  have hz := h.hd.bnd _ h.hd.sB
  refine h3.cell ((h2.block _ hz).trans h.hd.box) (fun e => e.2 rfl) (by rw [h.pz]; omega)

theorem Bmid.pbox (h : Bmid ps o0 row L B J tB g r pB dn k S p q out o x Wr w2) : w2.heap[pB]? = some (pcO x.kind dn p q out.length o.length) := by
  obtain ⟨V, h1, h2, S', h3, h4, h5, h6⟩ := h.gone
  exact h5

theorem Bmid.mvb (h : Bmid ps o0 row L B J tB g r pB dn k S p q out o x Wr w2) : Mvb S Wr w2 := by
  obtain ⟨V, h1, h2, S', h3, h4, h5, h6, h7⟩ := h.gone
  refine ⟨h6.os.trans h2.os, h6.tape.trans h2.tape, h6.output.trans h2.output, Nat.le_trans h2.size h6.size, fun b hb hS => (h6.blk b (by omega) (fun e => ?_)).trans (h2.block b hb)⟩
  rcases e with e | e
  · exact hS e.1
  · have := h.pz; omega

theorem Bmid.turn (h : Bmid ps o0 row L B J tB g r pB dn k S p q out o x Wr w2) (hJ : BBears J) {w3 : World} (hb : Below w2.heap.size w2 w3) : J k (grb S Wr w3) w3 ∧ ∀ b, grb S Wr w3 b → b < w3.heap.size := by
  have hm := h.mvb
  have hs := hm.size
  have hs2 := hb.size
  have hz : ∀ b, grb S Wr w3 b → b < w3.heap.size := fun b e => by
    rcases e with e | e
    · have := h.hd.bnd b e; omega
    · exact e.2
  refine ⟨hJ k S _ Wr w3 h.hd.j ⟨hb.os.trans hm.os, hb.tape.trans hm.tape, hb.output.trans hm.output, by omega, fun b e hS => (hb.block b (by omega)).trans (hm.blk b e hS)⟩ h.hd.bnd (fun b e => .inl e) (fun b e => ⟨?_, hz b e⟩), hz⟩
  rcases e with e | e
  · exact .inl e
  · exact .inr e.1

theorem Bmid.next (h : Bmid ps o0 row L B J tB g r pB dn k S p q out o x Wr w2) {w3 w4 : World} {u : Value} (hb : Below w2.heap.size w2 w3) (hu : ∀ b, u.ownBlock = some b → w2.heap.size ≤ b)
    (hj : J (k + 1) (fun b => grb S Wr w3 b ∧ u.ownBlock ≠ some b) w4) (hk : ∀ b, grb S Wr w3 b → u.ownBlock ≠ some b → w4.heap[b]? = w3.heap[b]?) (hs : w3.heap.size ≤ w4.heap.size) :
    Bhd ps o0 row L B J tB g r dn (k + 1) (fun b => grb S Wr w3 b ∧ u.ownBlock ≠ some b) q o w4 := by
  have hm := h.mvb
  have hs1 := hm.size
  have hs2 := hb.size
  have hzt := h.hd.bnd _ h.hd.sB
  have htb := h.tbox
  obtain ⟨V, h1, h2, S', h3, h4, h5, h6, h7⟩ := h.gone
  have hun : ∀ b, b < w2.heap.size → u.ownBlock ≠ some b := fun b hb e => by have := hu b e; omega
  have key : ∀ b, S' b → (grb S Wr w3 b ∧ u.ownBlock ≠ some b) ∧ b ≠ tB ∧ b < w2.heap.size := fun b e => by
    rcases h4 b e with e | e
    · have := h.hd.bnd b e.1
      exact ⟨⟨.inl e.1, hun b (by omega)⟩, e.2, by omega⟩
    · exact ⟨⟨.inr ⟨by omega, by omega⟩, hun b e.2⟩, by omega, e.2⟩
  refine ⟨h3.move (by omega) (fun b e => ?_) (fun b e => ⟨(key b e).1, (key b e).2.1⟩), ?_, ⟨.inl h.hd.sB, hun _ (by omega)⟩, fun b e => ?_, hj, ?_, h.way⟩
  · exact (hk b (key b e).1.1 (key b e).1.2).trans (hb.block b (key b e).2.2)
  · exact (hk tB (.inl h.hd.sB) (hun _ (by omega))).trans ((hb.block tB (by omega)).trans htb)
  · rcases e.1 with e | e
    · have := h.hd.bnd b e; omega
    · omega
  · have := h.got
    have := (List.getElem?_eq_some_iff.1 this).1
    omega
end
end Go.Proofs.YtippppcdongahaaDoor

