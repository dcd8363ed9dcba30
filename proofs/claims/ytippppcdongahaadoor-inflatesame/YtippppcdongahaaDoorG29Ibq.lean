import Derived.Test.YtippppcdongahaaDoorG25Ibm
import Derived.Test.YtippppcdongahaaDoorG28Rg9
namespace Go.Proofs.YtippppcdongahaaDoor
open Go.RowKit Go.Maps Go.Shelf
set_option maxRecDepth 20000
set_option linter.unusedVariables false

/-! A loop over what Blocks hands back. -/

def blkEnd (T : Nat → (Nat → Prop) → Obj → World → Prop) (Ix : Code → Obj → World → Prop) (u : Value) (k : Nat) (S : Nat → Prop) (o : Obj) (W0 : World) : Exit → Act → World → Prop
  | .normal, _, W => T (k + 1) (fun b => S b ∧ u.ownBlock ≠ some b) o W ∧ (∀ b, S b → u.ownBlock ≠ some b → W.heap[b]? = W0.heap[b]?) ∧ W0.heap.size ≤ W.heap.size
  | .ret, _, W => Ix .ret o W
  | .exit id, _, W => Ix (.exit id) o W
  | .goto t, _, W => Ix (.goto t) o W
  | .panic _, _, _ => False
  | .outgrown, _, _ => False

def BI (T : Nat → (Nat → Prop) → Obj → World → Prop) (q : Nat × (Nat → Prop) × World × Value) (o : Obj) (W : World) : Prop :=
  T q.1 q.2.1 o W ∧ (∀ b, q.2.1 b → b < q.2.2.1.heap.size ∧ W.heap[b]? = q.2.2.1.heap[b]?) ∧ q.2.2.1.heap.size ≤ W.heap.size

theorem putObj_at8 (W : World) {l b : Nat} (o : Obj) (h : b ≠ l) : (W.putObj l o).heap[b]? = W.heap[b]? := by
  show (W.heap.setIfInBounds l o)[b]? = _
  rw [Array.getElem?_setIfInBounds_ne (fun e => h e.symm)]

theorem putObj_size8 (W : World) (l : Nat) (o : Obj) : (W.putObj l o).heap.size = W.heap.size := by show (W.heap.setIfInBounds l o).size = _; simp

theorem bi_rec {T : Nat → (Nat → Prop) → Obj → World → Prop} {l : Nat} (rT : ∀ k S, H4.Rec l (T k S)) (hnS : ∀ k S o W, T k S o W → ¬ S l) (q : Nat × (Nat → Prop) × World × Value) : H4.Rec l (BI T q) :=
  ⟨fun o W h => (rT _ _).get _ _ h.1, fun o o' W h => ⟨(rT _ _).put _ _ _ h.1, fun b hb => by
    refine ⟨(h.2.1 b hb).1, ?_⟩
    rw [putObj_at8 _ _ (fun e => hnS _ _ _ _ h.1 (by subst e; exact hb))]
    exact (h.2.1 b hb).2, by rw [putObj_size8]; exact h.2.2⟩⟩

theorem heap_two8 (w : World) (x y : Obj) : ((w.alloc x).alloc y).heap[w.heap.size + 1]? = some y ∧ ((w.alloc x).alloc y).heap[w.heap.size]? = some x := by
  have e1 := heap_alloc_new (w.alloc x) y
  rw [size_alloc'] at e1
  exact ⟨e1, (Below.heap_alloc _ _ _ (by simp)).trans (heap_alloc_new w x)⟩

theorem wp_blocks {g : Operand} {pm : Array Tmp} {assign body : Code} {Q : Exit → Act → World → Prop} {a : Act} {w : World} (dB lB : Nat) {data : List Int} {limit : Int} {ps : List Pc} {o0 : List Int} {v : Value} {E : Int} {q0 : Nat}
    (hg : a.eval g = .func (.func 23) #[] #[.pointer (some ⟨dB, 0, none⟩), .pointer (some ⟨lB, 0, none⟩)]) (hps : pm.size = 2) (hdm : data.length ≤ 33554432 ∧ 0 ≤ limit ∧ limit ≤ 16777216) (ht : Txt (unpack data) limit.toNat 0 [] ps E q0 o0) (hB : Byt data)
    (T : Nat → (Nat → Prop) → Obj → World → Prop) (Ix : Code → Obj → World → Prop) (rT : ∀ k S, H4.Rec (w.heap.size + 1) (T k S)) (hnS : ∀ k S o W, T k S o W → ¬ S (w.heap.size + 1)) (rx : ∀ c, H4.Rec (w.heap.size + 1) (Ix c))
    (hdd : ∀ o W, T 0 (fun _ => False) o W → SB W v data ∧ W.cell? ⟨dB, 0, none⟩ = some v ∧ W.cell? ⟨lB, 0, none⟩ = some (.int .i64 limit)) (hmv : ∀ o, BBears fun k S W => T k S o W)
    (hTO : ∀ o k S W B, T k S o W → w.heap.size + 2 ≤ B → B ≤ W.heap.size → Tab (wtake W B) ∧ Odr (wtake W B))
    (hsz : ∀ k S o W, T k S o W → w.heap.size + 2 ≤ W.heap.size)
    (h0 : ∀ o, T 0 (fun _ => False) o ((w.alloc (.deferred (some []))).alloc o)) (act : Pc → Value → Nat → Act)
    (hassign : ∀ (x : Pc) (u : Value) (V : World) (c : Nat) (K : Act → World → Prop), V.heap.size = c → K (act x u c) (V.alloc (.cells (pcq x) 36)) →
      assign.wpIn (Fence.wide.inRound (w.heap.size + 1)) 1 Tryd.prog (Exit.then K (fun _ _ _ => False)) { tmps := (pm.zip #[.agg (pcq x), u]).foldl (fun t (p, v) => t.setIfInBounds p v) a.tmps, defers := [] } V)
    (hbody : ∀ k x S o V c u, ps[k]? = some x → T k S o V → (∀ b, S b → b < V.heap.size) → V.heap[c]? = some (.cells (pcq x) 36 (0, 0)) → w.heap.size + 1 < c → ¬ S c → OB V 0 u (sg o0 x) → (∀ b, u.ownBlock = some b → S b) → body.wpIn (Fence.wide.inRound (w.heap.size + 1)) 1 Tryd.prog (blkEnd T Ix u k S o V) (act x u c) V)
    (hdone : ∀ S o V, T ps.length S o V → Q .normal { a with defers := { target := .collected w.heap.size, args := #[] } :: a.defers } V)
    (hstop : ∀ c o V, Ix c o V → c.wpIn Fence.wide 3 Tryd.prog Q { a with defers := { target := .collected w.heap.size, args := #[] } :: a.defers } V) :
    (Code.rangeFunc g pm assign body).wpIn Fence.wide 3 Tryd.prog Q a w := by
  refine wp_range3 (α := Pc × Value) (fun p q => q = (p.1 + 1, (fun b => p.2.1 b ∧ p.2.2.2.ownBlock ≠ some b), p.2.2.1, p.2.2.2)) (0, (fun _ => False), w, .slice none 0 0) rfl (by decide) hg trivial (enters_of Tryd.func23 (by kernel_rfl) rfl) (encs := fun x => #[.agg (pcq x.1), x.2]) (fun _ => hps.symm)
    (BI T) (fun q x o V => x.2 = q.2.2.2 ∧ ps[q.1]? = some x.1 ∧ BI T q o V ∧ OB V 0 x.2 (sg o0 x.1) ∧ ∀ b, x.2.ownBlock = some b → q.2.1 b) (fun o V => ∃ S, T ps.length S o V) Ix
    (bi_rec rT hnS) (fun q x => ⟨fun o V hh => (bi_rec rT hnS q).get _ _ hh.2.2.1, fun o o' V hh => ⟨hh.1, hh.2.1, (bi_rec rT hnS q).put _ _ _ hh.2.2.1, hh.2.2.2.1.move fun k hk => putObj_at8 _ _ (fun e => hnS _ _ _ _ hh.2.2.1.1 (by subst e; exact hh.2.2.2.2 _ hk)), hh.2.2.2.2⟩⟩)
    ⟨fun o V ⟨S, hh⟩ => (rT _ S).get _ _ hh, fun o o' V ⟨S, hh⟩ => ⟨S, (rT _ S).put _ _ _ hh⟩⟩ rx ?_ ?_
    (fun q x b o V => x.2 = q.2.2.2 ∧ ps[q.1]? = some x.1 ∧ BI T q o V ∧ OB V 0 x.2 (sg o0 x.1) ∧ (∀ b, x.2.ownBlock = some b → q.2.1 b) ∧ ∃ c, b = act x.1 x.2 c ∧ V.heap[c]? = some (.cells (pcq x.1) 36 (0, 0)) ∧ w.heap.size + 1 < c ∧ ¬ q.2.1 c)
    (fun q x b => ⟨fun o V hh => (bi_rec rT hnS q).get _ _ hh.2.2.1, fun o o' V ⟨h1, h2, h3, h4, h5, c, h6, h7, h8, h9⟩ => ⟨h1, h2, (bi_rec rT hnS q).put _ _ _ h3, h4.move fun k hk => putObj_at8 _ _ (fun e => hnS _ _ _ _ h3.1 (by subst e; exact h5 _ hk)), h5, c, h6, (putObj_at8 _ _ (by omega)).trans h7, h8, h9⟩⟩) ?_ ?_ ?_ hstop
  · intro o
    exact ⟨h0 o, fun b hb => hb.elim, by simp; omega⟩
  · intro o Jx hY V hV
    obtain ⟨v1, v2, v3⟩ := hV
    obtain ⟨d1, d2, d3⟩ := hdd _ _ v1
    refine blk2_any (w.heap.size + 1) dB lB (J := fun k S W => T k S o W) (Jx := Jx) hdm ht d1 hB d2 d3 (hmv o) (fun k S W hW hB2 => hTO o k S W _ hW (hsz _ _ _ _ v1) hB2) ?_ v1 Fence.wide rfl
    · intro k x S U u hk hj hSb ho hu
      refine (hY (k, S, U, u) (x, u) U ⟨rfl, hk, ⟨hj, fun b hb => ⟨hSb b hb, rfl⟩, Nat.le_refl _⟩, ho, hu⟩).mono ?_
      rintro e U' (⟨rfl, q, rfl, hq1, hq2, hq3⟩ | ⟨rfl, hq⟩)
      · exact ⟨true, rfl, .inl ⟨rfl, hq1, fun b hb hne => (hq2 b ⟨hb, hne⟩).2, hq3⟩⟩
      · exact ⟨false, rfl, .inr ⟨rfl, hq⟩⟩
  · rintro ⟨k, S, U, u⟩ ⟨x, u'⟩ o V K ⟨hx, hk, ⟨v1, v2, v3⟩, ho, hu⟩ hK
    have hl := (Array.getElem?_eq_some_iff.1 ((rT k S).get _ _ v1)).1
    have hb : Below V.heap.size V (V.alloc (.cells (pcq x) 36)) := (Below.refl _ _).alloc (Nat.le_refl _) _
    have hSb : ∀ b, S b → b < V.heap.size := fun b e => Nat.lt_of_lt_of_le (v2 b e).1 v3
    refine hassign x u' V _ K rfl (hK _ _ ⟨hx, hk, ⟨hmv o k S S V _ v1 (Mvb.of hb) hSb (fun b e => e) (fun b e => ⟨.inl e, Nat.lt_of_lt_of_le (hSb b e) hb.size⟩), fun b e => ⟨(v2 b e).1, (hb.block b (hSb b e)).trans (v2 b e).2⟩, Nat.le_trans v3 hb.size⟩, ho.alloc _, hu, _, rfl, heap_alloc_new V _, hl, fun e => ?_⟩)
    have := hSb _ e
    omega
  · rintro ⟨k, S, U, u⟩ ⟨x, u'⟩ b o V ⟨hx, hk, ⟨v1, v2, v3⟩, ho, hu, c, rfl, h5, h6, h7⟩
    obtain rfl : u' = u := hx
    refine wpIn_mono (hbody k x S o V c u' hk v1 (fun b hb => Nat.lt_of_lt_of_le (v2 b hb).1 v3) h5 h6 h7 ho hu) ?_
    rintro e a3 V3 hp
    cases e with
    | normal =>
      obtain ⟨q1, q2, q3⟩ := hp
      exact ⟨_, rfl, q1, fun b hb => ⟨(v2 b hb.1).1, (q2 b hb.1 hb.2).trans (v2 b hb.1).2⟩, Nat.le_trans v3 q3⟩
    | ret => exact hp
    | exit id => exact hp
    | goto t => exact hp
    | panic ch => exact hp
    | outgrown => exact hp
  · rintro o V ⟨S, hh⟩
    exact hdone S o V hh
end Go.Proofs.YtippppcdongahaaDoor

