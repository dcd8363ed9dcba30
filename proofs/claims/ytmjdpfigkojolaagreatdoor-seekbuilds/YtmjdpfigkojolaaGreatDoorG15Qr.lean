import Derived.Test.YtmjdpfigkojolaaGreatDoorG14QRng
import Derived.Shelf.Abstract
import Derived.Shelf.RegionOpen
import Derived.OwnWalkIn
import Derived.TacticsInMore
import Derived.LoopNIn
import Derived.LoopIn
import Derived.Test.YtmjdpfigkojolaaGreatDoorG05Rw3
import Derived.Test.YtmjdpfigkojolaaGreatDoorG00Oix
import Derived.Test.YtmjdpfigkojolaaGreatDoorG04Nxt
namespace Go.Proofs.YtmjdpfigkojolaaGreatDoor
open Go.RowKit
variable {F : Fence} {n : Nat} {P : Program}

end Go.Proofs.YtmjdpfigkojolaaGreatDoor

namespace Go.Proofs.YtmjdpfigkojolaaGreatDoor
open Go.RowKit
variable {F : Fence} {n : Nat} {P : Program}

def roundEnd3 {σ : Type} (R : σ → σ → Prop) (I : σ → Obj → World → Prop) (Ix : Code → Obj → World → Prop) (m : σ) (o : Obj) : Exit → Act → World → Prop
  | .normal, _, W => ∃ m', R m m' ∧ I m' o W
  | .ret, _, W => Ix .ret o W
  | .exit id, _, W => Ix (.exit id) o W
  | .goto t, _, W => Ix (.goto t) o W
  | .panic _, _, _ => False
  | .outgrown, _, _ => False

theorem wp_range3 {α σ : Type} (R : σ → σ → Prop) {g : Operand} {ps : Array Tmp} {assign body : Code} {Q : Exit → Act → World → Prop} {a : Act} {w : World} (m0 : σ)
    (hro : F.round = none) (h1 : 1 ≤ n) {gf : Nat} {lb : Array Value} (hg : a.eval g = .func (.func gf) #[] lb) (hFg : F.fn gf) (eg : ∀ args w, (callFunc gf args).run P w = .ok (.enter gf args) w)
    {encs : α → Array Value} (hps : ∀ x, (encs x).size = ps.size)
    (I : σ → Obj → World → Prop) (Iy : σ → α → Obj → World → Prop) (Ie : Obj → World → Prop) (Ix : Code → Obj → World → Prop)
    (rI : ∀ m, H4.Rec (w.heap.size + 1) (I m)) (ry : ∀ m x, H4.Rec (w.heap.size + 1) (Iy m x)) (re : H4.Rec (w.heap.size + 1) Ie) (rx : ∀ c, H4.Rec (w.heap.size + 1) (Ix c))
    (h0 : ∀ o, I m0 o ((w.alloc (.deferred (some []))).alloc o))
    (hseq : ∀ (o : Obj) (Jx : World → Prop), (∀ m x W, Iy m x o W → YieldAt F (n - 1 - 1) P (w.heap.size + 1) (encs x) W fun e W' => (e = .returned (.bool true) ∧ ∃ m', R m m' ∧ I m' o W') ∨ (e = .returned (.bool false) ∧ Jx W')) →
      ∀ W, I m0 o W → CallsIn F (n - 1) P gf (#[.func (.yield (w.heap.size + 1)) #[] #[]] ++ lb) W fun e W' => (∃ v, e = .returned v) ∧ (Ie o W' ∨ Jx W'))
    (Iz : σ → α → Act → Obj → World → Prop) (rz : ∀ m x b, H4.Rec (w.heap.size + 1) (Iz m x b))
    (hassign : ∀ m (x : α) o (W : World) (K : Act → World → Prop), Iy m x o W → (∀ b W', Iz m x b o W' → K b W') →
      assign.wpIn (F.inRound (w.heap.size + 1)) (n - 1 - 1) P (Exit.then K (fun _ _ _ => False)) { tmps := (ps.zip (encs x)).foldl (fun t (p, v) => t.setIfInBounds p v) a.tmps, defers := [] } W)
    (hbody : ∀ m x b o W, Iz m x b o W → body.wpIn (F.inRound (w.heap.size + 1)) (n - 1 - 1) P (roundEnd3 R I Ix m o) b W)
    (hdone : ∀ o W, Ie o W → Q .normal { a with defers := { target := .collected w.heap.size, args := #[] } :: a.defers } W)
    (hstop : ∀ c o W, Ix c o W → c.wpIn F n P Q { a with defers := { target := .collected w.heap.size, args := #[] } :: a.defers } W) :
    (Code.rangeFunc g ps assign body).wpIn F n P Q a w := by
  refine wpIn_rangeFunc ?_
  intro fn hfn
  rw [hro]
  obtain ⟨rec, hrec⟩ : ∃ rec : LoopState → Option Code → Loop, rec = fun st pe => { state := st, pending := pe, fn, tmps := a.tmps, params := ps, assign, body, defers := w.heap.size } := ⟨_, rfl⟩
  obtain ⟨W1, hW1⟩ : ∃ W1, (w.alloc (.deferred (some []))).alloc (.loop (rec .ready none)) = W1 := ⟨_, rfl⟩
  have hI1 : I m0 (.loop (rec .ready none)) W1 := by rw [← hW1]; exact h0 _
  refine ⟨w.heap.size + 1, [{ target := .collected w.heap.size, args := #[] }], W1, { target := .fn (.func gf) lb, args := #[.func (.yield (w.heap.size + 1)) #[] #[]] }, W1, gf,
    #[.func (.yield (w.heap.size + 1)) #[] #[]] ++ lb, W1, ?_, ?_, ?_, ?_, fun _ => h1, ?_⟩
  · rw [← hW1, hrec]; exact run_enterLoop_outer _ _ _ _ _
  · simp only [resolve, hg]
    simp [go_sem]
  · intro f' hf'; simp [Target.leads] at hf'; subst hf'; exact hFg
  · simp [invoke, go_sem, eg]
  · refine (hseq (.loop (rec .ready none)) (fun W => ∃ c, Ix c (.loop (rec .done (some c))) W) ?_ W1 hI1).mono ?_
    · rintro m x W hi
      have hl := (ry m x).get _ _ hi
      have hlt : w.heap.size + 1 < W.heap.size := (Array.getElem?_eq_some_iff.1 hl).1
      have hy := run_yield (P := P) (args := encs x) hl (by rw [hrec]; exact hps x)
      rw [hrec] at hy
      refine ⟨fn, _, assign, body, hy, roundIn_of_wpIn hfn (hassign m x _ W _ hi ?_)⟩
      intro b W' hz
      refine ⟨_, run_beginRound ((rz m x b).get _ _ hz) (by rw [hrec]), ?_⟩
      refine wpIn_mono (hbody m x b (.loop { rec .ready none with state := .busy }) _ ((rz m x b).put _ _ _ hz)) ?_
      have fin : ∀ (jump : Option Code) (W3 : World), W3.heap[w.heap.size + 1]? = some (.loop { rec .ready none with state := .busy }) →
          (Instr.endRound (w.heap.size + 1) jump).run P W3 = .ok (.bool jump.isNone) (W3.putObj (w.heap.size + 1) (.loop (rec (if jump.isNone then .ready else .done) jump))) := fun jump W3 hl3 => by
        have := run_endRound (P := P) jump hl3
        rw [hrec] at this ⊢
        exact this
      rintro e a3 W3 hp
      cases e with
      | normal =>
        obtain ⟨m', hm', hi3⟩ := hp
        exact ⟨_, _, fin none W3 ((rI m').get _ _ hi3), .inl ⟨rfl, m', hm', (rI m').put _ _ _ hi3⟩⟩
      | ret => exact ⟨_, _, fin (some .ret) W3 ((rx _).get _ _ hp), .inr ⟨rfl, .ret, (rx _).put _ _ _ hp⟩⟩
      | exit id => exact ⟨_, _, fin (some (.exit id)) W3 ((rx _).get _ _ hp), .inr ⟨rfl, .exit id, (rx _).put _ _ _ hp⟩⟩
      | goto t => exact ⟨_, _, fin (some (.goto t)) W3 ((rx _).get _ _ hp), .inr ⟨rfl, .goto t, (rx _).put _ _ _ hp⟩⟩
      | panic ch => exact hp.elim
      | outgrown => exact hp.elim
    · rintro e W2 ⟨⟨v, rfl⟩, (hi | ⟨c, hi⟩)⟩
      · exact ⟨none, _, by have := run_endLoop (P := P) (re.get _ _ hi) (by rw [hrec]; simp); rw [hrec] at this; exact this, hdone _ _ (re.put _ _ _ hi)⟩
      · exact ⟨some c, _, by have := run_endLoop (P := P) ((rx c).get _ _ hi) (by rw [hrec]; simp); rw [hrec] at this; exact this, hstop c _ _ ((rx c).put _ _ _ hi)⟩

end Go.Proofs.YtmjdpfigkojolaaGreatDoor

namespace Go.Proofs.YtmjdpfigkojolaaGreatDoor
open Go.RowKit Go.Maps Go.Shelf
set_option maxRecDepth 20000
set_option linter.unusedVariables false

/-! A loop over what Blocks hands back. -/

def blkEnd (T : Nat → (Nat → Prop) → Obj → World → Prop) (Ix : Code → Obj → World → Prop) (u : Value) (k : Nat) (S : Nat → Prop) (o : Obj) (W0 : World) : Exit → Act → World → Prop
  | .normal, _, W => T (k + 1) (fun b => S b ∧ u.ownBlock ≠ some b) o W ∧ (∀ b, S b → u.ownBlock ≠ some b → W.heap[b]? = W0.heap[b]?) ∧ W0.heap.size ≤ W.heap.size
  | .ret, _, W => Ix .ret o W
  | .exit id, _, W => Ix (.exit id) o W
  | .goto t, _, W => Ix (.goto t) o W
  | .panic _, _, _ => False
  | .outgrown, _, _ => False

def BI (T : Nat → (Nat → Prop) → Obj → World → Prop) (q : Nat × (Nat → Prop) × World × Value) (o : Obj) (W : World) : Prop :=
  T q.1 q.2.1 o W ∧ (∀ b, q.2.1 b → b < q.2.2.1.heap.size ∧ W.heap[b]? = q.2.2.1.heap[b]?) ∧ q.2.2.1.heap.size ≤ W.heap.size

theorem putObj_at8 (W : World) {l b : Nat} (o : Obj) (h : b ≠ l) : (W.putObj l o).heap[b]? = W.heap[b]? := by
  show (W.heap.setIfInBounds l o)[b]? = _
  rw [Array.getElem?_setIfInBounds_ne (fun e => h e.symm)]

theorem putObj_size8 (W : World) (l : Nat) (o : Obj) : (W.putObj l o).heap.size = W.heap.size := by show (W.heap.setIfInBounds l o).size = _; simp

theorem bi_rec {T : Nat → (Nat → Prop) → Obj → World → Prop} {l : Nat} (rT : ∀ k S, H4.Rec l (T k S)) (hnS : ∀ k S o W, T k S o W → ¬ S l) (q : Nat × (Nat → Prop) × World × Value) : H4.Rec l (BI T q) :=
  ⟨fun o W h => (rT _ _).get _ _ h.1, fun o o' W h => ⟨(rT _ _).put _ _ _ h.1, fun b hb => by
    refine ⟨(h.2.1 b hb).1, ?_⟩
    rw [putObj_at8 _ _ (fun e => hnS _ _ _ _ h.1 (by subst e; exact hb))]
    exact (h.2.1 b hb).2, by rw [putObj_size8]; exact h.2.2⟩⟩

theorem heap_two8 (w : World) (x y : Obj) : ((w.alloc x).alloc y).heap[w.heap.size + 1]? = some y ∧ ((w.alloc x).alloc y).heap[w.heap.size]? = some x := by
  have e1 := heap_alloc_new (w.alloc x) y
  rw [size_alloc'] at e1
  exact ⟨e1, (Below.heap_alloc _ _ _ (by simp)).trans (heap_alloc_new w x)⟩

theorem wp_blocks {g : Operand} {pm : Array Tmp} {assign body : Code} {Q : Exit → Act → World → Prop} {a : Act} {w : World} (dB lB : Nat) {data : List Int} {limit : Int} {ps : List Pc} {o0 : List Int} {v : Value} {E : Int} {q0 : Nat}
    (hg : a.eval g = .func (.func 46) #[] #[.pointer (some ⟨dB, 0, none⟩), .pointer (some ⟨lB, 0, none⟩)]) (hps : pm.size = 2) (hdm : data.length ≤ 33554432 ∧ 0 ≤ limit ∧ limit ≤ 16777216) (ht : Txt (unpack data) limit.toNat 0 [] ps E q0 o0) (hB : Byt data)
    (T : Nat → (Nat → Prop) → Obj → World → Prop) (Ix : Code → Obj → World → Prop) (rT : ∀ k S, H4.Rec (w.heap.size + 1) (T k S)) (hnS : ∀ k S o W, T k S o W → ¬ S (w.heap.size + 1)) (rx : ∀ c, H4.Rec (w.heap.size + 1) (Ix c))
    (hdd : ∀ o W, T 0 (fun _ => False) o W → SB W v data ∧ W.cell? ⟨dB, 0, none⟩ = some v ∧ W.cell? ⟨lB, 0, none⟩ = some (.int .i64 limit)) (hmv : ∀ o, BBears fun k S W => T k S o W)
    (hTO : ∀ o k S W B, T k S o W → w.heap.size + 2 ≤ B → B ≤ W.heap.size → Tab (wtake W B) ∧ Odr (wtake W B))
    (hsz : ∀ k S o W, T k S o W → w.heap.size + 2 ≤ W.heap.size)
    (h0 : ∀ o, T 0 (fun _ => False) o ((w.alloc (.deferred (some []))).alloc o)) (act : Pc → Value → Nat → Act)
    (hassign : ∀ (x : Pc) (u : Value) (V : World) (c : Nat) (K : Act → World → Prop), V.heap.size = c → K (act x u c) (V.alloc (.cells (pcq x) 36)) →
      assign.wpIn (Fence.wide.inRound (w.heap.size + 1)) 1 Tryz.prog (Exit.then K (fun _ _ _ => False)) { tmps := (pm.zip #[.agg (pcq x), u]).foldl (fun t (p, v) => t.setIfInBounds p v) a.tmps, defers := [] } V)
    (hbody : ∀ k x S o V c u, ps[k]? = some x → T k S o V → (∀ b, S b → b < V.heap.size) → V.heap[c]? = some (.cells (pcq x) 36 (0, 0)) → w.heap.size + 1 < c → ¬ S c → OB V 0 u (sgb o0 x) → (∀ b, u.ownBlock = some b → S b) → body.wpIn (Fence.wide.inRound (w.heap.size + 1)) 1 Tryz.prog (blkEnd T Ix u k S o V) (act x u c) V)
    (hdone : ∀ S o V, T ps.length S o V → Q .normal { a with defers := { target := .collected w.heap.size, args := #[] } :: a.defers } V)
    (hstop : ∀ c o V, Ix c o V → c.wpIn Fence.wide 3 Tryz.prog Q { a with defers := { target := .collected w.heap.size, args := #[] } :: a.defers } V) :
    (Code.rangeFunc g pm assign body).wpIn Fence.wide 3 Tryz.prog Q a w := by
  refine wp_range3 (α := Pc × Value) (fun p q => q = (p.1 + 1, (fun b => p.2.1 b ∧ p.2.2.2.ownBlock ≠ some b), p.2.2.1, p.2.2.2)) (0, (fun _ => False), w, .slice none 0 0) rfl (by decide) hg trivial (enters_of Tryz.func46 (by kernel_rfl) rfl) (encs := fun x => #[.agg (pcq x.1), x.2]) (fun _ => hps.symm)
    (BI T) (fun q x o V => x.2 = q.2.2.2 ∧ ps[q.1]? = some x.1 ∧ BI T q o V ∧ OB V 0 x.2 (sgb o0 x.1) ∧ ∀ b, x.2.ownBlock = some b → q.2.1 b) (fun o V => ∃ S, T ps.length S o V) Ix
    (bi_rec rT hnS) (fun q x => ⟨fun o V hh => (bi_rec rT hnS q).get _ _ hh.2.2.1, fun o o' V hh => ⟨hh.1, hh.2.1, (bi_rec rT hnS q).put _ _ _ hh.2.2.1, hh.2.2.2.1.move fun k hk => putObj_at8 _ _ (fun e => hnS _ _ _ _ hh.2.2.1.1 (by subst e; exact hh.2.2.2.2 _ hk)), hh.2.2.2.2⟩⟩)
    ⟨fun o V ⟨S, hh⟩ => (rT _ S).get _ _ hh, fun o o' V ⟨S, hh⟩ => ⟨S, (rT _ S).put _ _ _ hh⟩⟩ rx ?_ ?_
    (fun q x b o V => x.2 = q.2.2.2 ∧ ps[q.1]? = some x.1 ∧ BI T q o V ∧ OB V 0 x.2 (sgb o0 x.1) ∧ (∀ b, x.2.ownBlock = some b → q.2.1 b) ∧ ∃ c, b = act x.1 x.2 c ∧ V.heap[c]? = some (.cells (pcq x.1) 36 (0, 0)) ∧ w.heap.size + 1 < c ∧ ¬ q.2.1 c)
    (fun q x b => ⟨fun o V hh => (bi_rec rT hnS q).get _ _ hh.2.2.1, fun o o' V ⟨h1, h2, h3, h4, h5, c, h6, h7, h8, h9⟩ => ⟨h1, h2, (bi_rec rT hnS q).put _ _ _ h3, h4.move fun k hk => putObj_at8 _ _ (fun e => hnS _ _ _ _ h3.1 (by subst e; exact h5 _ hk)), h5, c, h6, (putObj_at8 _ _ (by omega)).trans h7, h8, h9⟩⟩) ?_ ?_ ?_ hstop
  · intro o
    exact ⟨h0 o, fun b hb => hb.elim, by simp; omega⟩
  · intro o Jx hY V hV
    obtain ⟨v1, v2, v3⟩ := hV
    obtain ⟨d1, d2, d3⟩ := hdd _ _ v1
    refine blk2_any (w.heap.size + 1) dB lB (J := fun k S W => T k S o W) (Jx := Jx) hdm ht d1 hB d2 d3 (hmv o) (fun k S W hW hB2 => hTO o k S W _ hW (hsz _ _ _ _ v1) hB2) ?_ v1 Fence.wide rfl
    · intro k x S U u hk hj hSb ho hu
      refine (hY (k, S, U, u) (x, u) U ⟨rfl, hk, ⟨hj, fun b hb => ⟨hSb b hb, rfl⟩, Nat.le_refl _⟩, ho, hu⟩).mono ?_
      rintro e U' (⟨rfl, q, rfl, hq1, hq2, hq3⟩ | ⟨rfl, hq⟩)
      · exact ⟨true, rfl, .inl ⟨rfl, hq1, fun b hb hne => (hq2 b ⟨hb, hne⟩).2, hq3⟩⟩
      · exact ⟨false, rfl, .inr ⟨rfl, hq⟩⟩
  · rintro ⟨k, S, U, u⟩ ⟨x, u'⟩ o V K ⟨hx, hk, ⟨v1, v2, v3⟩, ho, hu⟩ hK
    have hl := (Array.getElem?_eq_some_iff.1 ((rT k S).get _ _ v1)).1
    have hb : Below V.heap.size V (V.alloc (.cells (pcq x) 36)) := (Below.refl _ _).alloc (Nat.le_refl _) _
    have hSb : ∀ b, S b → b < V.heap.size := fun b e => Nat.lt_of_lt_of_le (v2 b e).1 v3
    refine hassign x u' V _ K rfl (hK _ _ ⟨hx, hk, ⟨hmv o k S S V _ v1 (Mvb.of hb) hSb (fun b e => e) (fun b e => ⟨.inl e, Nat.lt_of_lt_of_le (hSb b e) hb.size⟩), fun b e => ⟨(v2 b e).1, (hb.block b (hSb b e)).trans (v2 b e).2⟩, Nat.le_trans v3 hb.size⟩, ho.alloc _, hu, _, rfl, heap_alloc_new V _, hl, fun e => ?_⟩)
    have := hSb _ e
    omega
  · rintro ⟨k, S, U, u⟩ ⟨x, u'⟩ b o V ⟨hx, hk, ⟨v1, v2, v3⟩, ho, hu, c, rfl, h5, h6, h7⟩
    obtain rfl : u' = u := hx
    refine wpIn_mono (hbody k x S o V c u' hk v1 (fun b hb => Nat.lt_of_lt_of_le (v2 b hb).1 v3) h5 h6 h7 ho hu) ?_
    rintro e a3 V3 hp
    cases e with
    | normal =>
      obtain ⟨q1, q2, q3⟩ := hp
      exact ⟨_, rfl, q1, fun b hb => ⟨(v2 b hb.1).1, (q2 b hb.1 hb.2).trans (v2 b hb.1).2⟩, Nat.le_trans v3 q3⟩
    | ret => exact hp
    | exit id => exact hp
    | goto t => exact hp
    | panic ch => exact hp
    | outgrown => exact hp
  · rintro o V ⟨S, hh⟩
    exact hdone S o V hh
end Go.Proofs.YtmjdpfigkojolaaGreatDoor

namespace Go.Proofs.YtmjdpfigkojolaaGreatDoor
open Go.RowKit Go.Maps Go.Shelf
set_option maxRecDepth 20000
set_option linter.unusedVariables false

theorem wp_blocks_no {g : Operand} {pm : Array Tmp} {assign body : Code} {Q : Exit → Act → World → Prop} {a : Act} {w : World} (hg : a.eval g = .func (.func 45) #[] #[]) (hps : pm.size = 2) (T : Obj → World → Prop) (rT : H4.Rec (w.heap.size + 1) T) (h0 : ∀ o, T o ((w.alloc (.deferred (some []))).alloc o))
    (hdone : ∀ o V, T o V → Q .normal { a with defers := { target := .collected w.heap.size, args := #[] } :: a.defers } V) :
    (Code.rangeFunc g pm assign body).wpIn Fence.wide 3 Tryz.prog Q a w := by
  refine wp_range3 (α := Unit) (fun (_ _ : Unit) => True) () rfl (by decide) hg trivial (enters_of Tryz.func45 (by kernel_rfl) rfl) (encs := fun _ => #[.slice none 0 0, .slice none 0 0]) (fun _ => hps.symm)
    (fun _ o V => T o V) (fun _ _ _ _ => False) (fun o V => T o V) (fun _ _ _ => False)
    (fun _ => rT) (fun _ _ => ⟨fun o V h => h.elim, fun o o' V h => h.elim⟩) rT (fun _ => ⟨fun o V h => h.elim, fun o o' V h => h.elim⟩) h0 ?_
    (fun _ _ _ _ _ => False) (fun _ _ _ => ⟨fun o V h => h.elim, fun o o' V h => h.elim⟩) ?_ ?_ ?_ ?_
  · intro o Jx _ V hV
    refine callsIn_wide.2 ?_
    have HV := hide hV
    clear hV hdone h0 rT
    go_enter Tryz.func45, Tryz.ntmps45
    go_wp2
    refine bodyPost_end (results_none rfl _ _ _) rfl ?_
    exact ⟨⟨_, rfl⟩, .inl HV.out⟩
  · intro m x o V K h _; exact h.elim
  · intro m x b o V h; exact h.elim
  · exact fun o V h => hdone o V h
  · exact fun c o V h => h.elim

theorem wp_blocks_any {g : Operand} {pm : Array Tmp} {assign body : Code} {Q : Exit → Act → World → Prop} {a : Act} {w : World} (dB lB : Nat) {data : List Int} {limit : Int} {ps : List Pc} {o0 : List Int} {v : Value} (T : Nat → (Nat → Prop) → Obj → World → Prop) (Ix : Code → Obj → World → Prop)
    (hit : (a.eval g = .func (.func 45) #[] #[] ∧ ps = []) ∨ (a.eval g = .func (.func 46) #[] #[.pointer (some ⟨dB, 0, none⟩), .pointer (some ⟨lB, 0, none⟩)] ∧ (data.length ≤ 33554432 ∧ 0 ≤ limit ∧ limit ≤ 16777216) ∧ (∃ E q0, Txt (unpack data) limit.toNat 0 [] ps E q0 o0) ∧ ∀ o W, T 0 (fun _ => False) o W → SB W v data ∧ W.cell? ⟨dB, 0, none⟩ = some v ∧ W.cell? ⟨lB, 0, none⟩ = some (.int .i64 limit))) (hps : pm.size = 2) (hB : Byt data)
    (rT : ∀ k S, H4.Rec (w.heap.size + 1) (T k S)) (hnS : ∀ k S o W, T k S o W → ¬ S (w.heap.size + 1)) (rx : ∀ c, H4.Rec (w.heap.size + 1) (Ix c))
    (hmv : ∀ o, BBears fun k S W => T k S o W)
    (hTO : ∀ o k S W B, T k S o W → w.heap.size + 2 ≤ B → B ≤ W.heap.size → Tab (wtake W B) ∧ Odr (wtake W B))
    (hsz : ∀ k S o W, T k S o W → w.heap.size + 2 ≤ W.heap.size)
    (h0 : ∀ o, T 0 (fun _ => False) o ((w.alloc (.deferred (some []))).alloc o)) (act : Pc → Value → Nat → Act)
    (hassign : ∀ (x : Pc) (u : Value) (V : World) (c : Nat) (K : Act → World → Prop), V.heap.size = c → K (act x u c) (V.alloc (.cells (pcq x) 36)) →
      assign.wpIn (Fence.wide.inRound (w.heap.size + 1)) 1 Tryz.prog (Exit.then K (fun _ _ _ => False)) { tmps := (pm.zip #[.agg (pcq x), u]).foldl (fun t (p, v) => t.setIfInBounds p v) a.tmps, defers := [] } V)
    (hbody : ∀ k x S o V c u, ps[k]? = some x → T k S o V → (∀ b, S b → b < V.heap.size) → V.heap[c]? = some (.cells (pcq x) 36 (0, 0)) → w.heap.size + 1 < c → ¬ S c → OB V 0 u (sgb o0 x) → (∀ b, u.ownBlock = some b → S b) → body.wpIn (Fence.wide.inRound (w.heap.size + 1)) 1 Tryz.prog (blkEnd T Ix u k S o V) (act x u c) V)
    (hdone : ∀ S o V, T ps.length S o V → Q .normal { a with defers := { target := .collected w.heap.size, args := #[] } :: a.defers } V)
    (hstop : ∀ c o V, Ix c o V → c.wp Tryz.prog Q { a with defers := { target := .collected w.heap.size, args := #[] } :: a.defers } V) :
    (Code.rangeFunc g pm assign body).wp Tryz.prog Q a w := by
  refine (wpIn_wide (n := 3)).1 ?_
  rcases hit with ⟨hg, rfl⟩ | ⟨hg, hdm, ⟨E, q0, ht⟩, hdd⟩
  · exact wp_blocks_no hg hps (T 0 (fun _ => False)) (rT _ _) h0 (fun o V h => hdone _ o V h)
  · exact wp_blocks dB lB hg hps hdm ht hB T Ix rT hnS rx hdd hmv hTO hsz h0 act hassign hbody hdone (fun c o V h => wpIn_wide.2 (hstop c o V h))

set_option maxHeartbeats 1000000 in
theorem hBlocks {w : World} {v : Value} {data : List Int} (h : SB w v data) (limit : Int) :
    Calls Tryz.prog 26 #[v, .int .i64 limit] w fun e w' => Below w.heap.size w w' ∧ ((¬ (data.length ≤ 33554432 ∧ 0 ≤ limit ∧ limit ≤ 16777216) ∧ e = .returned (.func (.func 45) #[] #[])) ∨
      ((data.length ≤ 33554432 ∧ 0 ≤ limit ∧ limit ≤ 16777216) ∧ ∃ u, e = .returned (.func (.func 46) #[] #[.pointer (some ⟨w.heap.size, 0, none⟩), .pointer (some ⟨w.heap.size + 1, 0, none⟩)]) ∧ w'.heap[w.heap.size]? = some (.cells #[u] 22 (0, 0)) ∧ w'.heap[w.heap.size + 1]? = some (.cells #[.int .i64 limit] 3 (0, 0)) ∧ OB w' (w.heap.size + 2) u data)) := by
  obtain ⟨w2, hw2⟩ : ∃ w2, (w.alloc (.cells #[v] 22)).alloc (.cells #[.int .i64 limit] 3) = w2 := ⟨_, rfl⟩
  have hmf : ∀ (fn : Fn) (first cap : Array Value) (w : World), (Instr.makeFunc fn first cap).run Tryz.prog w = .ok (.func fn first cap) w := fun _ _ _ _ => rfl
  have b2 : Below w.heap.size w w2 := by
    rw [← hw2]
    have b1 : Below w.heap.size w (w.alloc (.cells #[v] 22)) := (Below.refl _ _).alloc (Nat.le_refl _) _
    exact b1.alloc b1.size _
  have s2 : w2.heap.size = w.heap.size + 2 := by rw [← hw2]; simp
  have e0 : w2.heap[w.heap.size]? = some (.cells #[v] 22 (0, 0)) := by rw [← hw2]; exact (Below.heap_alloc _ _ _ (by simp)).trans (heap_alloc_new w _)
  have e1 : w2.heap[w.heap.size + 1]? = some (.cells #[.int .i64 limit] 3 (0, 0)) := by rw [← hw2]; exact heap_alloc2_new w _ _
  have k0 := (one_cell e0).1
  have k1 := (one_cell e1).1
  have hsb := h.below b2
  obtain ⟨a, c, rfl, -⟩ := h
  have HM := hide (hmayBe a data.length c limit w2 _ rfl)
  have HW := hide hw2
  have HB2 := hide b2
  have HS2 := hide s2
  have HE0 := hide e0
  have HE1 := hide e1
  have HSB := hide hsb
  clear hw2 b2 s2 e0 e1 hsb
  go_enter Tryz.func26, Tryz.ntmps26
  go_wp2_with fail
  rw [HW.out]
  refine HM.out.mono ?_
  rintro e w3 ⟨rfl, hw3⟩
  subst hw3
  by_cases hc : data.length ≤ 33554432 ∧ 0 ≤ limit ∧ limit ≤ 16777216
  · rw [decide_eq_true hc]
    have HC := hide hc
    have HCL := hide (bclone_any _ data w3 HSB.out hc.1)
    clear hc HM
    go_wp2_with fail
    refine HCL.out.mono ?_
    rintro e w4 ⟨u, rfl, ho, hb⟩
    obtain ⟨ua, uc, rfl⟩ := ho.shape
    have f0 : w4.heap[w.heap.size]? = some (.cells #[.slice a data.length c] 22 (0, 0)) := (hb.block _ (by rw [HS2.out]; omega)).trans HE0.out
    have f1 : w4.heap[w.heap.size + 1]? = some (.cells #[.int .i64 limit] 3 (0, 0)) := (hb.block _ (by rw [HS2.out]; omega)).trans HE1.out
    obtain ⟨g0, g1⟩ := one_cell f0
    have HW4 := hide (wrt_set f0 (.slice ua data.length uc))
    have HO := hide ho
    have HB := hide hb
    have HF1 := hide f1
    clear ho hb f0 f1 HCL k0 k1
    go_wp2
    go_ret
    have hz := HS2.out
    refine ⟨?_, .inr ⟨HC.out, _, rfl, HW4.out.at, (HW4.out.ne _ (by omega)).trans HF1.out, ?_⟩⟩
    · exact (HB2.out.trans (HB.out.mono HB2.out.size)).setCell (p := ⟨w.heap.size, 0, none⟩) (Nat.le_refl _) _
    · have := HO.out.move (w' := w4.setCell ⟨w.heap.size, 0, none⟩ (.slice ua data.length uc)) fun k hk => HW4.out.ne k (by have := (HO.out.lt k hk).1; omega)
      rw [← hz]; exact this
  · rw [decide_eq_false hc]
    have HC := hide hc
    clear hc HM
    go_wp2
    go_ret
    exact ⟨HB2.out, .inl ⟨HC.out, rfl⟩⟩
end Go.Proofs.YtmjdpfigkojolaaGreatDoor

namespace Go.Proofs.YtmjdpfigkojolaaGreatDoor
open Go.RowKit Go.Maps
set_option maxRecDepth 20000
set_option linter.unusedVariables false

set_option maxHeartbeats 8000000 in
theorem vlenBits_any (s : Nat) (h0 : 257 ≤ s) (h1 : s ≤ 285) (w : World) : Calls Tryz.prog 119 #[.int .i64 s] w fun e w' => e = .returned (.int .i64 (lnF s)) ∧ w' = w := by
  have hs : s = 257 ∨ s = 258 ∨ s = 259 ∨ s = 260 ∨ s = 261 ∨ s = 262 ∨ s = 263 ∨ s = 264 ∨ s = 265 ∨ s = 266 ∨ s = 267 ∨ s = 268 ∨ s = 269 ∨ s = 270 ∨ s = 271 ∨ s = 272 ∨ s = 273 ∨ s = 274 ∨ s = 275 ∨ s = 276 ∨ s = 277 ∨ s = 278 ∨ s = 279 ∨ s = 280 ∨ s = 281 ∨ s = 282 ∨ s = 283 ∨ s = 284 ∨ s = 285 := by omega
  clear h1 h0
  go_enter Tryz.func119, Tryz.ntmps119
  rcases hs with rfl | rfl | rfl | rfl | rfl | rfl | rfl | rfl | rfl | rfl | rfl | rfl | rfl | rfl | rfl | rfl | rfl | rfl | rfl | rfl | rfl | rfl | rfl | rfl | rfl | rfl | rfl | rfl | rfl
  all_goals
    go_wp2
    go_ret
    exact ⟨rfl, rfl⟩

set_option maxHeartbeats 8000000 in
theorem vdistBits_any (s : Nat) (h1 : s ≤ 29) (w : World) : Calls Tryz.prog 121 #[.int .i64 s] w fun e w' => e = .returned (.int .i64 (dsF s)) ∧ w' = w := by
  have hs : s = 0 ∨ s = 1 ∨ s = 2 ∨ s = 3 ∨ s = 4 ∨ s = 5 ∨ s = 6 ∨ s = 7 ∨ s = 8 ∨ s = 9 ∨ s = 10 ∨ s = 11 ∨ s = 12 ∨ s = 13 ∨ s = 14 ∨ s = 15 ∨ s = 16 ∨ s = 17 ∨ s = 18 ∨ s = 19 ∨ s = 20 ∨ s = 21 ∨ s = 22 ∨ s = 23 ∨ s = 24 ∨ s = 25 ∨ s = 26 ∨ s = 27 ∨ s = 28 ∨ s = 29 := by omega
  clear h1
  go_enter Tryz.func121, Tryz.ntmps121
  rcases hs with rfl | rfl | rfl | rfl | rfl | rfl | rfl | rfl | rfl | rfl | rfl | rfl | rfl | rfl | rfl | rfl | rfl | rfl | rfl | rfl | rfl | rfl | rfl | rfl | rfl | rfl | rfl | rfl | rfl | rfl
  all_goals
    go_wp2
    go_ret
    exact ⟨rfl, rfl⟩

theorem vpower_any (n : Nat) (hn : n ≤ 20) (w : World) : Calls Tryz.prog 141 #[.int .i64 n] w fun e w' => e = .returned (.int .i64 ((2 ^ n : Nat) : Int)) ∧ w' = w := by
  have HP : Hid (∀ i : Fin 21, 2 ^ i.val ≤ 1048576) := by show ∀ i : Fin 21, _; decide
  go_enter Tryz.func141, Tryz.ntmps141
  go_wp2
  go_loopw [3, 4] (fun p i wr => ∃ k : Nat, k ≤ n ∧ i = .int .i64 k ∧ p = .int .i64 ((2 ^ k : Nat) : Int) ∧ wr = w) (fun _ i _ => n - (intOf i).toNat)
  case atStart => exact ⟨0, Nat.zero_le _, rfl, rfl, rfl⟩
  case round =>
    obtain ⟨k, hk, rfl, rfl, rfl⟩ := hrel
    have hb := HP.out ⟨k, by omega⟩
    obtain ⟨q, HQ⟩ : ∃ q : Nat, Hid (q = 2 ^ k) := ⟨_, rfl⟩
    simp only at hb
    rw [← HQ.out] at hb ⊢
    by_cases hlt : k < n
    · have hlt' : (k : Int) < (n : Int) := by omega
      go_wp2
      go_roundw
      case rel => exact ⟨k + 1, by omega, by simp, by rw [Nat.pow_succ, ← HQ.out]; simp; omega, by first | rfl | trivial⟩
      case measure => simp [intOf]; omega
    · obtain rfl : k = n := by omega
      go_wp2
      go_ret
      exact ⟨by rw [← HQ.out]; rfl, rfl⟩
end Go.Proofs.YtmjdpfigkojolaaGreatDoor

namespace Go.Proofs.YtmjdpfigkojolaaGreatDoor
open Go.RowKit Go.Maps
set_option maxRecDepth 20000

end Go.Proofs.YtmjdpfigkojolaaGreatDoor

namespace Go.Proofs.YtmjdpfigkojolaaGreatDoor
open Go.RowKit Go.Maps
set_option maxRecDepth 20000

theorem SB.len {w : World} {u : Value} {l : List Int} (h : SB w u l) : ∃ a c, u = .slice a l.length c := by
  obtain ⟨a, c, h, _⟩ := h
  exact ⟨a, c, h⟩

end Go.Proofs.YtmjdpfigkojolaaGreatDoor

namespace Go.Proofs.YtmjdpfigkojolaaGreatDoor
open Go.RowKit Go.Maps
set_option maxRecDepth 20000

end Go.Proofs.YtmjdpfigkojolaaGreatDoor

namespace Go.Proofs.YtmjdpfigkojolaaGreatDoor
open Go.RowKit Go.Maps
set_option maxRecDepth 20000

theorem WV.snoc {T : Nat} {rest : List Value} {w W w6 : World} {K : Nat → Nat} {g : Nat} {v v' : Value} {d : List Int} {q : Int} {o : Obj} (h : WV T rest w K g v d) (hW : W.heap = (w.alloc o).heap) (h1 : W.os = w.os) (h2 : W.tape = w.tape) (h3 : W.output = w.output) (ho : OB w6 0 v' (d ++ [q])) (hg : Grew W w6 v v') :
    ∃ K', WV T rest (w6.setCell ⟨g, 0, none⟩ v') K' g v' (d ++ [q]) ∧ Fr K K' w (w6.setCell ⟨g, 0, none⟩ v') := by
  have hgr : w.grownBy W v.ownBlock := ⟨h1, h2, h3, by rw [hW, size_alloc']; omega, fun k hk _ => by rw [hW]; exact Below.heap_alloc _ _ k hk⟩
  refine h.put (hgr.trans hg.by) ho ?_
  rcases hg.at with e | e
  · exact .inr (fun k hk => by rw [e, hW, size_alloc'] at hk; cases hk; omega)
  · exact .inl e

theorem WV.alloc1 {T : Nat} {rest : List Value} {w : World} {K : Nat → Nat} {g : Nat} {v : Value} {d : List Int} (h : WV T rest w K g v d) (q : Int) :
    (w.alloc (.cells #[.int .u8 q] 5)).cell? ⟨g, 0, none⟩ = some v ∧ (∀ W : World, W.heap = (w.alloc (.cells #[.int .u8 q] 5)).heap → OB W 0 v d) ∧
    (∀ W : World, W.heap = (w.alloc (.cells #[.int .u8 q] 5)).heap → Src Tryz.prog 1 22 (.slice (some ⟨w.heap.size, 0, none⟩) 1 1) ([q] : List Int).length (([q] : List Int).map (Value.int .u8)) W) ∧
    (∀ (W w6 : World) (u : Value), W.heap = (w.alloc (.cells #[.int .u8 q] 5)).heap → Grew W w6 v u → w6.cell? ⟨g, 0, none⟩ = some v ∧ w6.frozen? ⟨g, 0, none⟩ = false) := by
  have hgl := h.lt
  refine ⟨?_, fun W hW => OB.move (w := w) h.o fun x hx => by rw [hW]; exact Below.heap_alloc _ _ x (h.o.lt x hx).2, fun W hW => ((built_sb w [q] (by unfold maxLen; simp)).heap hW).src, fun W w6 u hW hg => ?_⟩
  · rw [((Below.refl w.heap.size w).alloc (Nat.le_refl _) _).cell hgl]; exact h.cell 0
  · have e1 : w6.heap[g]? = w.heap[g]? := (hg.by.block g (by rw [hW, size_alloc']; omega) (fun e => h.ng e.symm)).trans (by rw [hW]; exact Below.heap_alloc _ _ g hgl)
    have e2 := e1.trans h.s
    exact ⟨by simp [World.cell?, e2], by simp [World.frozen?, e2]⟩

def Rq (w : World) (K : Nat → Nat) (g : Nat) (row : List Int) (p : Nat) : Prop := ∃ v, WV 118 [.int .i64 p] w K g v row ∧ Bit row ∧ p ≤ row.length ∧ row.length ≤ 268435456 ∧ row.length % 8 = 0

theorem Rq.far {w w' : World} {K : Nat → Nat} {g : Nat} {row : List Int} {p : Nat} (h : Rq w K g row p) (hsz : w.heap.size ≤ w'.heap.size) (hb : ∀ k, K k ≠ 0 → w'.heap[k]? = w.heap[k]?) : Rq w' K g row p := by
  obtain ⟨v, h1, h2⟩ := h
  exact ⟨v, h1.far hsz hb, h2⟩

theorem Rq.drewN {w : World} {K : Nat → Nat} {g : Nat} {row : List Int} {p : Nat} (h : Rq w K g row p) (n : Nat) : Rq (w.drewN n) K g row p := h.far (Nat.le_refl _) (fun _ _ => rfl)

theorem Rq.sup {w : World} {K : Nat → Nat} {g : Nat} {row : List Int} {p : Nat} (h : Rq w K g row p) : ∀ k, K k ≠ 0 → k < w.heap.size := by
  obtain ⟨_, h, _⟩ := h
  exact h.sup

theorem Rq.move {w : World} {K : Nat → Nat} {g : Nat} {row : List Int} {p : Nat} (h : Rq w K g row p) (q : Nat) (x : Int) (hx : x = q) (hq : q ≤ row.length) : Rq (w.setCell ⟨g, 1, none⟩ (.int .i64 x)) K g row q ∧ Fr K K w (w.setCell ⟨g, 1, none⟩ (.int .i64 x)) := by
  subst hx
  obtain ⟨v, h1, h2, h3, h4⟩ := h
  obtain ⟨a1, a2⟩ := h1.set 0 (.int .i64 q)
  exact ⟨⟨v, a1, h2, hq, h4⟩, a2⟩

theorem qat_any {w : World} {K : Nat → Nat} {g : Nat} {row : List Int} {p : Nat} (h : Rq w K g row p) :
    Calls Tryz.prog 71 #[.pointer (some ⟨g, 0, none⟩)] w fun e w' => e = .returned (.int .i64 p) ∧ w' = w := by
  obtain ⟨v, h1, -⟩ := h
  have c1 : w.cell? ⟨g, 1, none⟩ = some (.int .i64 p) := h1.cell 1
  clear h1
  go_enter Tryz.func71, Tryz.ntmps71
  go_wp2
  go_ret
  exact ⟨rfl, rfl⟩

theorem qleft_any {w : World} {K : Nat → Nat} {g : Nat} {row : List Int} {p : Nat} (h : Rq w K g row p) :
    Calls Tryz.prog 95 #[.pointer (some ⟨g, 0, none⟩)] w fun e w' => e = .returned (.int .i64 ((row.length : Int) - p)) ∧ ∃ n, w' = w.drewN n := by
  obtain ⟨v, h1, h2, h3, h4, h5⟩ := h
  have c0 : w.cell? ⟨g, 0, none⟩ = some v := h1.cell 0
  have c1 : w.cell? ⟨g, 1, none⟩ = some (.int .i64 p) := h1.cell 1
  obtain ⟨a, c, rfl⟩ := h1.o.shape
  clear h1 h2 h5
  go_enter Tryz.func95, Tryz.ntmps95
  go_wp2
  go_quiet (fail)
  go_wp2
  go_ret
  exact ⟨rfl, _, rfl⟩

theorem qskip_any {w : World} {K : Nat → Nat} {g : Nat} {row : List Int} {p : Nat} (h : Rq w K g row p) (n : Int) :
    Calls Tryz.prog 140 #[.pointer (some ⟨g, 0, none⟩), .int .i64 n] w fun e w' => e = .returned (.int .i64 (skipE row p n)) ∧ Rq w' K g row (skipP row p n) ∧ Fr K K w w' := by
  have H := hide h
  obtain ⟨v, h1, h2, h3, h4, h5⟩ := h
  have c0 : w.cell? ⟨g, 0, none⟩ = some v := h1.cell 0
  have c1 : w.cell? ⟨g, 1, none⟩ = some (.int .i64 p) := h1.cell 1
  have cf : w.frozen? ⟨g, 1, none⟩ = false := h1.free 1
  obtain ⟨a, c, rfl⟩ := h1.o.shape
  clear h1 h2 h5
  by_cases hn : n < 0
  · have HE : Hid (skipE row p n = 1 ∧ skipP row p n = p) := ⟨if_pos hn, if_pos hn⟩
    go_enter Tryz.func140, Tryz.ntmps140
    go_wp2
    go_ret
    rw [HE.out.1, HE.out.2]
    exact ⟨rfl, H.out, Fr.refl _ _⟩
  by_cases hl : n ≤ (row.length : Int) - p
  · have HE : Hid (skipE row p n = 0 ∧ skipP row p n = p + n.toNat) := ⟨by show (if _ then _ else _) = _; rw [if_neg hn, if_pos hl], by show (if _ then _ else _) = _; rw [if_neg hn, if_pos hl]⟩
    obtain ⟨m, rfl⟩ : ∃ m : Nat, n = m := ⟨n.toNat, by omega⟩
    have HM : Hid (∀ q, Rq ((w.drewN q).setCell ⟨g, 1, none⟩ (.int .i64 ((p : Int) + m))) K g row (p + m) ∧ Fr K K w ((w.drewN q).setCell ⟨g, 1, none⟩ (.int .i64 ((p : Int) + m)))) := fun q => by
      obtain ⟨a1, a2⟩ := (H.out.drewN q).move (p + m) ((p : Int) + m) (by omega) (by omega)
      exact ⟨a1, ((Fr.refl _ _).drewN q).trans a2⟩
    go_enter Tryz.func140, Tryz.ntmps140
    go_wp2
    go_quiet (fail)
    go_wp2
    go_ret
    rw [HE.out.1, HE.out.2]
    exact ⟨rfl, HM.out _⟩
  · have HE : Hid (skipE row p n = 30 ∧ skipP row p n = p) := ⟨by show (if _ then _ else _) = _; rw [if_neg hn, if_neg hl], by show (if _ then _ else _) = _; rw [if_neg hn, if_neg hl]⟩
    go_enter Tryz.func140, Tryz.ntmps140
    go_wp2
    go_quiet (fail)
    go_wp2
    go_ret
    rw [HE.out.1, HE.out.2]
    exact ⟨rfl, H.out.drewN _, (Fr.refl _ _).drewN _⟩

theorem qalign_any {w : World} {K : Nat → Nat} {g : Nat} {row : List Int} {p : Nat} (h : Rq w K g row p) :
    Calls Tryz.prog 94 #[.pointer (some ⟨g, 0, none⟩)] w fun e w' => e = .returned (.tuple #[]) ∧ Rq w' K g row (algn p) ∧ Fr K K w w' := by
  have H := hide h
  obtain ⟨v, h1, h2, h3, h4, h5⟩ := h
  clear h1 h2
  go_enter Tryz.func94, Tryz.ntmps94
  go_wp2
  go_loopw [] (fun wr => ∃ q : Nat, p ≤ q ∧ q ≤ algn p ∧ Hid (Rq wr K g row q ∧ Fr K K w wr)) (fun wr => algn p - (intOf ((wr.cell? ⟨g, 1, none⟩).getD undef)).toNat)
  case atStart => exact ⟨p, Nat.le_refl _, by unfold algn; omega, H.out, Fr.refl _ _⟩
  case round =>
    obtain ⟨q, hq1, hq2, HQ⟩ := hrel
    obtain ⟨v', k1, -⟩ := HQ.out.1
    have c1 : wr.cell? ⟨g, 1, none⟩ = some (.int .i64 q) := k1.cell 1
    have cf : wr.frozen? ⟨g, 1, none⟩ = false := k1.free 1
    clear k1
    have hal : algn p ≤ row.length := by unfold algn; omega
    have hqa : algn p = algn q := by unfold algn at *; omega
    by_cases h8 : q % 8 = 0
    · have h8' : (q : Int) % 8 = 0 := by omega
      have HE : Hid (algn p = q) := by show _ = _; unfold algn at *; omega
      clear hqa
      go_wp2
      (try simp only [Exit.inBlock, Exit.then]); refine bodyPost_end (results_none rfl _ _ _) rfl ?_
      rw [HE.out]
      exact ⟨rfl, HQ.out⟩
    · have h8' : ((q : Int) % 8 == 0) = false := by simp; omega
      have h8b : ((q : Int) % 8 != 0) = true := by simp; omega
      have hlt : q < algn p := by unfold algn at *; omega
      have HM := hide (HQ.out.1.move (q + 1) ((q : Int) + 1) (by omega) (by omega))
      have HMS : Hid (algn p - (intOf (((wr.setCell ⟨g, 1, none⟩ (.int .i64 ((q : Int) + 1))).cell? ⟨g, 1, none⟩).getD undef)).toNat < algn p - (intOf ((wr.cell? ⟨g, 1, none⟩).getD undef)).toNat) := by
        obtain ⟨v2, z1, -⟩ := HM.out.1
        have z2 : (wr.setCell ⟨g, 1, none⟩ (.int .i64 ((q : Int) + 1))).cell? ⟨g, 1, none⟩ = some (.int .i64 ((q + 1 : Nat) : Int)) := z1.cell 1
        show _ < _
        rw [z2, c1]
        simp [intOf]
        omega
      clear hqa
      go_wp2
      go_roundw
      case rel => exact ⟨q + 1, by omega, by omega, HM.out.1, HQ.out.2.trans HM.out.2⟩
      case measure => exact HMS.out
end Go.Proofs.YtmjdpfigkojolaaGreatDoor

