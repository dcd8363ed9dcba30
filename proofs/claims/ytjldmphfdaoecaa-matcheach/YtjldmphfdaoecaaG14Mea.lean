import Derived.Test.YtjldmphfdaoecaaG12Mns
namespace Go.Proofs.Ytjldmphfdaoecaa
open Go.RowKit Go.Maps Go.Shelf
set_option maxRecDepth 20000
set_option linter.unusedVariables false

def gEnd (φ : Nat → Prop) (R : List Tk) (Ix : Code → Obj → World → Prop) (w : World) (gT k : Nat) (S : Nat → Prop) (o : Obj) (W0 : World) : Exit → Act → World → Prop
  | .normal, _, W => (φ (k + 1) ∧ TkJ R w w.heap.size gT (k + 1) S o W) ∧ (∀ b, S b ∨ (b < w.heap.size ∧ b ≠ gT) → W.heap[b]? = W0.heap[b]?) ∧ W0.heap.size ≤ W.heap.size
  | .ret, _, W => Ix .ret o W
  | .exit id, _, W => Ix (.exit id) o W
  | .goto t, _, W => Ix (.goto t) o W
  | .panic _, _, _ => False
  | .outgrown, _, _ => False

def LoopR (fv : Value) (R : List Tk) (Its : Nat → Prop) (wi : World) : Prop :=
  ∀ (g : Operand) (ps : Array Tmp) (assign body : Code) (Q : Exit → Act → World → Prop) (a : Act) (w : World) (gT : Nat) (Ix : Code → Obj → World → Prop) (act : Tk → Nat → Act) (φ : Nat → Prop),
    φ 0 → a.eval g = fv → ps.size = 1 → wi.heap.size ≤ w.heap.size → (∀ b, Its b → w.heap[b]? = wi.heap[b]?) → ¬ Its gT → w.heap[gT]? = some (.cells #[.slice none 0 0] 29 (0, 0)) →
    (∀ c, H4.Rec (w.heap.size + 1) (Ix c)) →
    (∀ (x : Tk) (V : World) (c : Nat) (K : Act → World → Prop), V.heap.size = c → K (act x c) (V.alloc (.cells #[.int .i64 x.1, .int .i64 x.2.1, .int .u8 x.2.2] 38)) →
      assign.wpIn (Fence.wide.inRound (w.heap.size + 1)) 1 Try.prog (Exit.then K (fun _ _ _ => False)) { tmps := (ps.zip #[.agg #[.int .i64 x.1, .int .i64 x.2.1, .int .u8 x.2.2]]).foldl (fun t (p, v) => t.setIfInBounds p v) a.tmps, defers := [] } V) →
    (∀ k S o V c, k < R.length → φ k → TkJ R w w.heap.size gT k S o V → (∀ b, S b → b < V.heap.size) → V.heap[c]? = some (.cells (tkc (R.getD k tk0)) 38 (0, 0)) → w.heap.size + 1 < c → ¬ S c → body.wpIn (Fence.wide.inRound (w.heap.size + 1)) 1 Try.prog (gEnd φ R Ix w gT k S o V) (act (R.getD k tk0) c) V) →
    (∀ S o V, φ R.length → TkJ R w w.heap.size gT R.length S o V → Q .normal { a with defers := { target := .collected w.heap.size, args := #[] } :: a.defers } V) →
    (∀ c o V, Ix c o V → c.wp Try.prog Q { a with defers := { target := .collected w.heap.size, args := #[] } :: a.defers } V) →
    (Code.rangeFunc g ps assign body).wp Try.prog Q a w

theorem LoopR.both {fv : Value} {R : List Tk} {Its : Nat → Prop} {wi : World} (h : LoopR fv R Its wi) {g : Operand} {ps : Array Tmp} {assign body : Code} {Q : Exit → Act → World → Prop} {a : Act} {w : World} (gT id n : Nat) (act : Tk → Nat → Act) (φ : Nat → Prop) (h0 : φ 0) (hg : a.eval g = fv) (hps : ps.size = 1)
    (hsz : wi.heap.size ≤ w.heap.size) (hits : ∀ b, Its b → w.heap[b]? = wi.heap[b]?) (hgT : ¬ Its gT) (hv : w.heap[gT]? = some (.cells #[.slice none 0 0] 29 (0, 0)))
    (hassign : ∀ (x : Tk) (V : World) (c : Nat) (K : Act → World → Prop), V.heap.size = c → K (act x c) (V.alloc (.cells #[.int .i64 x.1, .int .i64 x.2.1, .int .u8 x.2.2] 38)) →
      assign.wpIn (Fence.wide.inRound (w.heap.size + 1)) 1 Try.prog (Exit.then K (fun _ _ _ => False)) { tmps := (ps.zip #[.agg #[.int .i64 x.1, .int .i64 x.2.1, .int .u8 x.2.2]]).foldl (fun t (p, v) => t.setIfInBounds p v) a.tmps, defers := [] } V)
    (hbody : ∀ k S o V c, k < R.length → φ k → TkJ R w w.heap.size gT k S o V → (∀ b, S b → b < V.heap.size) → V.heap[c]? = some (.cells (tkc (R.getD k tk0)) 38 (0, 0)) → w.heap.size + 1 < c → ¬ S c → body.wpIn (Fence.wide.inRound (w.heap.size + 1)) 1 Try.prog (gEnd φ R (fun c o V => c = Code.exit id ∧ 1 ≤ n ∧ n ≤ R.length ∧ ∃ S, TkJ R w w.heap.size gT n S o V) w gT k S o V) (act (R.getD k tk0) c) V)
    (hexit : ∀ V, Q .normal { a with defers := { target := .collected w.heap.size, args := #[] } :: a.defers } V → (Code.exit id).wp Try.prog Q { a with defers := { target := .collected w.heap.size, args := #[] } :: a.defers } V)
    (hfin : ∀ V m S o, TkJ R w w.heap.size gT m S o V → (m = R.length ∧ φ m ∨ m = n ∧ 1 ≤ n ∧ n ≤ R.length) → Q .normal { a with defers := { target := .collected w.heap.size, args := #[] } :: a.defers } V) :
    (Code.rangeFunc g ps assign body).wp Try.prog Q a w := by
  have hgd : gT < w.heap.size := (Array.getElem?_eq_some_iff.1 hv).1
  refine h g ps assign body Q a w gT _ act φ h0 hg hps hsz hits hgT hv (fun cc => ⟨fun o V q => ?_, fun o o' V q => ?_⟩) hassign hbody (fun S o V q1 q2 => hfin V _ S o q2 (.inl ⟨rfl, q1⟩)) (fun c o V q => ?_)
  · obtain ⟨_, _, _, S, hh⟩ := q
    exact (TkJ.recs hgd n S).get _ _ hh
  · obtain ⟨h1, h2, h3, S, hh⟩ := q
    exact ⟨h1, h2, h3, S, (TkJ.recs hgd n S).put _ _ _ hh⟩
  · obtain ⟨rfl, h2, h3, S, hh⟩ := q
    exact hexit V (hfin V n S o hh (.inr ⟨rfl, h2, h3⟩))

theorem loop_no (wi : World) : LoopR (.func (.func 14) #[] #[]) [] (fun _ => False) wi := by
  intro g ps assign body Q a w gT Ix act φ hφ hg hps hsz hits hgT hv rx hassign hbody hdone hstop
  have hgd : gT < w.heap.size := (Array.getElem?_eq_some_iff.1 hv).1
  refine (wpIn_wide (n := 3)).1 ?_
  refine wp_range3 (α := Unit) (fun (_ _ : Unit) => True) () rfl (by decide) hg trivial (enters_of Try.func14 (by kernel_rfl) rfl) (encs := fun _ => #[.slice none 0 0]) (fun _ => hps.symm)
    (fun _ o V => TkJ [] w w.heap.size gT 0 (fun _ => False) o V) (fun _ _ _ _ => False) (fun o V => TkJ [] w w.heap.size gT 0 (fun _ => False) o V) (fun _ _ _ => False)
    (fun _ => TkJ.recs hgd 0 _) (fun _ _ => ⟨fun o V h => h.elim, fun o o' V h => h.elim⟩) (TkJ.recs hgd 0 _) (fun _ => ⟨fun o V h => h.elim, fun o o' V h => h.elim⟩) ?_ ?_
    (fun _ _ _ _ _ => False) (fun _ _ _ => ⟨fun o V h => h.elim, fun o o' V h => h.elim⟩) ?_ ?_ ?_ ?_
  · exact fun o => TkJ.start hv o
  · intro o Jx _ V hV
    refine callsIn_wide.2 ?_
    have HV := hide hV
    clear hV hv hassign hbody hdone hstop rx hits
    go_enter Try.func14, Try.ntmps14
    go_wp2
    refine bodyPost_end (results_none rfl _ _ _) rfl ?_
    exact ⟨⟨_, rfl⟩, .inl HV.out⟩
  · intro m x o V K h _; exact h.elim
  · intro m x b o V h; exact h.elim
  · exact fun o V h => hdone _ o V hφ h
  · exact fun c o V h => h.elim

theorem loop_yes (dB W C : Nat) (u : Value) (D : List Int) (z : Bool) (wi : World) (hB : Byt D) (hn : D.length ≤ 16777216) (hW : 1 ≤ W) (hW2 : W ≤ 32768) (hC : C ≤ 4096)
    (ho : OB wi (dB + 2) u D) (hd : wi.heap[dB]? = some (.cells #[u] 22 (0, 0))) (he : wi.heap[dB + 1]? = some (.cells #[.int .i64 (W : Int), .int .i64 (C : Int), .bool z] 24 (0, 0))) :
    LoopR (.func (.func 16) #[] #[.pointer (some ⟨dB, 0, none⟩), .pointer (some ⟨dB + 1, 0, none⟩)]) (tkl D W C z) (fun b => b = dB ∨ b = dB + 1 ∨ u.ownBlock = some b) wi := by
  intro g ps assign body Q a w gT Ix act φ hφ hg hps hsz hits hgT hv rx hassign hbody hdone hstop
  have hgd : gT < w.heap.size := (Array.getElem?_eq_some_iff.1 hv).1
  have hdw := (hits dB (.inl rfl)).trans hd
  have hew := (hits (dB + 1) (.inr (.inl rfl))).trans he
  have how : OB w (dB + 2) u D := ho.move fun k hk => hits k (.inr (.inr hk))
  have hub : ∀ b, u.ownBlock = some b → b < w.heap.size ∧ b ≠ gT := fun b e => ⟨(how.lt b e).2, fun q => hgT (.inr (.inr (q ▸ e)))⟩
  have n1 : dB ≠ gT := fun q => hgT (.inl q.symm)
  have n2 : dB + 1 ≠ gT := fun q => hgT (.inr (.inl q.symm))
  have l1 := (Array.getElem?_eq_some_iff.1 hdw).1
  have l2 := (Array.getElem?_eq_some_iff.1 hew).1
  refine (wpIn_wide (n := 3)).1 ?_
  refine wp_each dB (dB + 1) W C u D z hg hps hB hn hW hW2 (by omega) how.sb (fun k e => (hub k e).1) (cellIn hdw rfl) (cellIn hew rfl) (cellIn hew rfl) (cellIn hew rfl)
    (fun k S o V => φ k ∧ TkJ (tkl D W C z) w w.heap.size gT k S o V) Ix (fun k S => ⟨fun o V h => (TkJ.recs hgd k S).get _ _ h.2, fun o o' V h => ⟨h.1, (TkJ.recs hgd k S).put _ _ _ h.2⟩⟩) (fun k S o V h e => by have := h.2.sge _ e; omega) rx
    (fun S o V h => ⟨h.2.blk dB l1 n1, h.2.blk (dB + 1) l2 n2, by have := h.2.size; omega⟩) (fun o k S S' w1 w2 h h1 h2 h3 h4 => ⟨h.1, TkJ.bears hgd o k S S' w1 w2 h.2 h1 h2 h3 h4⟩) (fun o => ⟨hφ, TkJ.start hv o⟩) act hassign ?_ (fun S o V h => hdone S o V h.1 h.2) (fun c o V h => wpIn_wide.2 (hstop c o V h))
  intro k S o V c hk hT hS hU hc hcl hcS
  refine wpIn_mono (hbody k S o V c hk hT.1 hT.2 hS hc hcl hcS) ?_
  intro e a3 V3 hp
  cases e with
  | normal => exact ⟨hp.1, fun b hb => hp.2.1 b (hb.imp id fun e => hub b e), hp.2.2⟩
  | ret => exact hp
  | exit id => exact hp
  | goto t => exact hp
  | panic ch => exact hp
  | outgrown => exact hp
end Go.Proofs.Ytjldmphfdaoecaa

