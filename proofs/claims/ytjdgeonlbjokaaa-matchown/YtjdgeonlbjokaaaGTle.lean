import Derived.Test.YtjdgeonlbjokaaaGTlw
import Derived.Test.YtjdgeonlbjokaaaGTnt
namespace Go.Proofs.Ytjdgeonlbjokaaa
open Go.RowKit Go.Maps Go.Shelf
attribute [local go_sem] Oper.semAt_some
set_option maxRecDepth 20000
set_option linter.unusedVariables false

theorem eqIn_func {P : Program} (w : World) (d : Nat) (t : TypeId) {u : Array TypeId} {r : Array TypeId} {x : Bool} (h : P.underlying t = some (.func u r x)) (fn : Fn) (a b : Array Value) : (Op.equalIn (d + 1) t (.func fn a b) .nilFunc).run P w = .ok false w := by
  simp [Op.equalIn, run_underlying h]

theorem eql_func {P : Program} (w : World) (t : TypeId) {u : Array TypeId} {r : Array TypeId} {x : Bool} (h : P.underlying t = some (.func u r x)) (fn : Fn) (a b : Array Value) : (binOp .eql t (.func fn a b) .nilFunc).run P w = .ok (.bool false) w := by
  have h1 : (Op.equal t (.func fn a b) .nilFunc).run P w = .ok false w := eqIn_func w 9999 t h fn a b
  simp [binOp, h1]

theorem yld_under : Try.prog.underlying 43 = some (.func #[38] #[4] false) := by kernel_rfl

set_option maxHeartbeats 1000000 in
theorem each2_any (l dB eB W C : Nat) (u : Value) (D : List Int) (z : Bool) (hB : Byt D) (hn : D.length ≤ 16777216) (hW : 1 ≤ W) (hW2 : W ≤ 32768) (hC : C ≤ 1000000000)
    (J : Nat → (Nat → Prop) → World → Prop) (Jx : World → Prop) (hmv : Bears J) (hY : Turns (tkl D W C z) l u J Jx) (w : World) (S : Nat → Prop) (h : SB w u D) (hlow : ∀ k, u.ownBlock = some k → k < w.heap.size)
    (hd : w.cell? ⟨dB, 0, none⟩ = some u) (e0 : w.cell? ⟨eB, 0, none⟩ = some (.int .i64 (W : Int))) (e1 : w.cell? ⟨eB, 1, none⟩ = some (.int .i64 (C : Int))) (e2 : w.cell? ⟨eB, 2, none⟩ = some (.bool z)) (hSb : ∀ b, S b → b < w.heap.size) (hj : J 0 S w) :
    Calls Try.prog 26 #[.func (.yield l) #[] #[], .pointer (some ⟨dB, 0, none⟩), .pointer (some ⟨eB, 0, none⟩)] w fun e w' => (∃ v, e = .returned v) ∧ ((∃ S', J (tkl D W C z).length S' w') ∨ Jx w') := by
  have HMV := hide hmv
  have HY := hide hY
  have HSB := hide hSb
  have HJ := hide hj
  have HB := hide hB
  have HN := hide (newteller_any u D W C z w h hlow)
  obtain ⟨ao, cap, rfl, hlc, hcm⟩ := h.open
  clear h hlow hmv hY hSb hj hB
  have hyl : ∀ (fn : Fn) (a b : Array Value) (w : World), (binOp .eql 43 (.func fn a b) .nilFunc).run Try.prog w = .ok (.bool false) w := fun fn a b w => eql_func w _ yld_under fn a b
  go_enter Try.func26, Try.ntmps26
  go_wp2_with fail
  refine HN.out.mono ?_
  rintro e w2 ⟨g, m, rfl, ht, hb⟩
  have HTL : Hid (Calls Try.prog 28 #[.pointer (some ⟨g, 0, none⟩), .func (.yield l) #[] #[]] w2 fun e w' => (∃ v, e = .returned v) ∧ ((∃ S', J (tkl D W C z).length S' w') ∨ Jx w')) := by
    have hs := hb.size
    refine tell_any l w.heap.size g m W C _ D z _ HB.out hn hW hW2 hC J Jx HMV.out HY.out w2 (grw S w w2) ht (fun b e => ?_) (fun b e => ?_) (HMV.out 0 S _ w w2 HJ.out ⟨hb.os, hb.tape, hb.output, hs, fun b x _ => hb.block b x⟩ HSB.out (fun b e => .inl e) (fun b e => ?_))
    · rcases e with e | e | e | ⟨k, hk, e⟩
      · exact .inl (.inr ⟨by rw [e]; exact ht.bg, by rw [e]; exact ht.lt.1⟩)
      · exact .inl (.inr ⟨by rw [e]; exact ht.bm, by rw [e]; exact ht.lt.2⟩)
      · exact .inr e
      · cases e
    · rcases e with e | e
      · have := HSB.out b e; omega
      · exact e.2
    · rcases e with e | e
      · exact ⟨.inl e, by have := HSB.out b e; omega⟩
      · exact ⟨.inr e.1, e.2⟩
  clear ht hb HN
  go_wp2_with fail
  refine HTL.out.mono ?_
  rintro e w3 ⟨⟨v3, rfl⟩, h3⟩
  have H3 := hide h3
  clear h3 HTL
  go_wp2
  refine bodyPost_end (results_none rfl _ _ _) rfl ?_
  exact ⟨⟨_, rfl⟩, H3.out⟩

/-- How the body of a loop over Each may be left. -/
def eachEnd (T : Nat → (Nat → Prop) → Obj → World → Prop) (Ix : Code → Obj → World → Prop) (u : Value) (k : Nat) (S : Nat → Prop) (o : Obj) (W0 : World) : Exit → Act → World → Prop
  | .normal, _, W => T (k + 1) S o W ∧ (∀ b, S b ∨ u.ownBlock = some b → W.heap[b]? = W0.heap[b]?) ∧ W0.heap.size ≤ W.heap.size
  | .ret, _, W => Ix .ret o W
  | .exit id, _, W => Ix (.exit id) o W
  | .goto t, _, W => Ix (.goto t) o W
  | .panic _, _, _ => False
  | .outgrown, _, _ => False

/-- The loop's state, with a world that holds the iterator's blocks as they are. -/
def EI (T : Nat → (Nat → Prop) → Obj → World → Prop) (u : Value) (q : Nat × (Nat → Prop) × World) (o : Obj) (W : World) : Prop :=
  T q.1 q.2.1 o W ∧ (∀ b, q.2.1 b ∨ u.ownBlock = some b → b < q.2.2.heap.size ∧ W.heap[b]? = q.2.2.heap[b]?) ∧ q.2.2.heap.size ≤ W.heap.size

theorem putObj_ne (W : World) {l b : Nat} (o : Obj) (h : b ≠ l) : (W.putObj l o).heap[b]? = W.heap[b]? := by
  show (W.heap.setIfInBounds l o)[b]? = _
  rw [Array.getElem?_setIfInBounds_ne (fun e => h e.symm)]

theorem putObj_size (W : World) (l : Nat) (o : Obj) : (W.putObj l o).heap.size = W.heap.size := by show (W.heap.setIfInBounds l o).size = _; simp

theorem ei_rec {T : Nat → (Nat → Prop) → Obj → World → Prop} {u : Value} {l : Nat} (rT : ∀ k S, H4.Rec l (T k S)) (hnS : ∀ k S o W, T k S o W → ¬ S l) (hu : u.ownBlock ≠ some l) (q : Nat × (Nat → Prop) × World) : H4.Rec l (EI T u q) :=
  ⟨fun o W h => (rT _ _).get _ _ h.1, fun o o' W h => ⟨(rT _ _).put _ _ _ h.1, fun b hb => by
    refine ⟨(h.2.1 b hb).1, ?_⟩
    rw [putObj_ne _ _ (fun e => by
      rcases hb with hb | hb
      · exact hnS _ _ _ _ h.1 (e ▸ hb)
      · exact hu (e ▸ hb))]
    exact (h.2.1 b hb).2, by rw [putObj_size]; exact h.2.2⟩⟩

/-- A loop over what Each tells. -/
theorem wp_each {g : Operand} {ps : Array Tmp} {assign body : Code} {Q : Exit → Act → World → Prop} {a : Act} {w : World} (dB eB W C : Nat) (u : Value) (D : List Int) (z : Bool)
    (hg : a.eval g = .func (.func 26) #[] #[.pointer (some ⟨dB, 0, none⟩), .pointer (some ⟨eB, 0, none⟩)]) (hps : ps.size = 1) (hB : Byt D) (hn : D.length ≤ 16777216) (hW : 1 ≤ W) (hW2 : W ≤ 32768) (hC : C ≤ 1000000000)
    (h : SB w u D) (hlow : ∀ k, u.ownBlock = some k → k < w.heap.size) (hd : w.cell? ⟨dB, 0, none⟩ = some u) (e0 : w.cell? ⟨eB, 0, none⟩ = some (.int .i64 (W : Int))) (e1 : w.cell? ⟨eB, 1, none⟩ = some (.int .i64 (C : Int))) (e2 : w.cell? ⟨eB, 2, none⟩ = some (.bool z))
    (T : Nat → (Nat → Prop) → Obj → World → Prop) (Ix : Code → Obj → World → Prop) (rT : ∀ k S, H4.Rec (w.heap.size + 1) (T k S)) (hnS : ∀ k S o W, T k S o W → ¬ S (w.heap.size + 1)) (rx : ∀ c, H4.Rec (w.heap.size + 1) (Ix c))
    (hdd : ∀ S o W, T 0 S o W → W.heap[dB]? = w.heap[dB]? ∧ W.heap[eB]? = w.heap[eB]? ∧ w.heap.size ≤ W.heap.size) (hmv : ∀ o, Bears fun k S W => T k S o W)
    (h0 : ∀ o, T 0 (fun _ => False) o ((w.alloc (.deferred (some []))).alloc o)) (act : Tk → Nat → Act)
    (hassign : ∀ (x : Tk) (V : World) (c : Nat) (K : Act → World → Prop), V.heap.size = c → K (act x c) (V.alloc (.cells #[.int .i64 x.1, .int .i64 x.2.1, .int .u8 x.2.2] 38)) →
      assign.wpIn (Fence.wide.inRound (w.heap.size + 1)) 1 Try.prog (Exit.then K (fun _ _ _ => False)) { tmps := (ps.zip #[.agg #[.int .i64 x.1, .int .i64 x.2.1, .int .u8 x.2.2]]).foldl (fun t (p, v) => t.setIfInBounds p v) a.tmps, defers := [] } V)
    (hbody : ∀ k S o V c, k < (tkl D W C z).length → T k S o V → (∀ b, S b → b < V.heap.size) → (∀ b, u.ownBlock = some b → b < V.heap.size) → V.heap[c]? = some (.cells (tkc ((tkl D W C z).getD k tk0)) 38 (0, 0)) → w.heap.size + 1 < c → ¬ S c → body.wpIn (Fence.wide.inRound (w.heap.size + 1)) 1 Try.prog (eachEnd T Ix u k S o V) (act ((tkl D W C z).getD k tk0) c) V)
    (hdone : ∀ S o V, T (tkl D W C z).length S o V → Q .normal { a with defers := { target := .collected w.heap.size, args := #[] } :: a.defers } V)
    (hstop : ∀ c o V, Ix c o V → c.wpIn Fence.wide 3 Try.prog Q { a with defers := { target := .collected w.heap.size, args := #[] } :: a.defers } V) :
    (Code.rangeFunc g ps assign body).wpIn Fence.wide 3 Try.prog Q a w := by
  have hul : u.ownBlock ≠ some (w.heap.size + 1) := fun e => by have := hlow _ e; omega
  refine wp_range3 (α := Tk) (fun p q => q = (p.1 + 1, p.2.1, p.2.2)) (0, (fun _ => False), w) rfl (by decide) hg trivial (enters_of Try.func26 (by kernel_rfl) rfl) (encs := fun x => #[.agg (tkc x)]) (fun _ => hps.symm)
    (EI T u) (fun q x o V => x = (tkl D W C z).getD q.1 tk0 ∧ q.1 < (tkl D W C z).length ∧ EI T u q o V) (fun o V => ∃ S, T (tkl D W C z).length S o V) Ix
    (ei_rec rT hnS hul) (fun q x => ⟨fun o V hh => (ei_rec rT hnS hul q).get _ _ hh.2.2, fun o o' V hh => ⟨hh.1, hh.2.1, (ei_rec rT hnS hul q).put _ _ _ hh.2.2⟩⟩) ⟨fun o V ⟨S, hh⟩ => (rT _ S).get _ _ hh, fun o o' V ⟨S, hh⟩ => ⟨S, (rT _ S).put _ _ _ hh⟩⟩ rx ?_ ?_
    (fun q x b o V => x = (tkl D W C z).getD q.1 tk0 ∧ q.1 < (tkl D W C z).length ∧ EI T u q o V ∧ ∃ c, b = act x c ∧ V.heap[c]? = some (.cells (tkc x) 38 (0, 0)) ∧ w.heap.size + 1 < c ∧ ¬ q.2.1 c)
    (fun q x b => ⟨fun o V hh => (ei_rec rT hnS hul q).get _ _ hh.2.2.1, fun o o' V ⟨h1, h2, h3, c, h4, h5, h6, h7⟩ => ⟨h1, h2, (ei_rec rT hnS hul q).put _ _ _ h3, c, h4, (putObj_ne _ _ (by omega)).trans h5, h6, h7⟩⟩) ?_ ?_ ?_ hstop
  · intro o
    refine ⟨h0 o, fun b hb => ?_, by simp; omega⟩
    rcases hb with hb | hb
    · exact hb.elim
    · have hl := hlow b hb
      exact ⟨hl, by rw [Below.heap_alloc _ _ _ (by simp; omega), Below.heap_alloc _ _ _ hl]⟩
  · intro o Jx hY V hV
    obtain ⟨v1, v2, v3⟩ := hV
    obtain ⟨d1, d2, d3⟩ := hdd _ _ _ v1
    have hbl : ∀ {b : Nat} {x : Value} {k : Nat}, V.heap[b]? = w.heap[b]? → w.cell? ⟨b, k, none⟩ = some x → V.cell? ⟨b, k, none⟩ = some x := fun e c => (World.cell?_of_block e).trans c
    refine callsIn_wide.2 (each2_any (w.heap.size + 1) dB eB W C u D z hB hn hW hW2 hC (fun k S V => T k S o V) Jx (hmv o) ?_ V (fun _ => False) (h.move fun ad _ hc hb => (World.cell?_of_block (v2 _ (.inr hb)).2).trans hc) (fun k hk => Nat.lt_of_lt_of_le (hlow k hk) d3) (hbl d1 hd) (hbl d2 e0) (hbl d2 e1) (hbl d2 e2) (fun b e => e.elim) v1)
    · intro k S U hk hj hSb hub
      refine yield_any rfl 1 ((hY (k, S, U) _ U ⟨rfl, hk, hj, fun b hb => ⟨?_, rfl⟩, Nat.le_refl _⟩).mono ?_)
      · rcases hb with hb | hb
        · exact hSb b hb
        · exact hub b hb
      · rintro e U' (⟨rfl, q, rfl, hq1, hq2, hq3⟩ | ⟨rfl, hq⟩)
        · exact .inl ⟨rfl, hq1, fun b hb => (hq2 b hb).2, hq3⟩
        · exact .inr ⟨rfl, hq⟩
  · rintro ⟨k, S, U⟩ x o V K ⟨hx, hk, v1, v2, v3⟩ hK
    have hl := (Array.getElem?_eq_some_iff.1 ((rT k S).get _ _ v1)).1
    have hb : Below V.heap.size V (V.alloc (.cells #[.int .i64 x.1, .int .i64 x.2.1, .int .u8 x.2.2] 38)) := (Below.refl _ _).alloc (Nat.le_refl _) _
    have hSb : ∀ b, S b → b < V.heap.size := fun b e => Nat.lt_of_lt_of_le (v2 b (.inl e)).1 v3
    refine hassign x V _ K rfl (hK _ _ ⟨hx, hk, ⟨hmv o k S S V _ v1 ⟨hb.os, hb.tape, hb.output, hb.size, fun b e _ => hb.block b e⟩ hSb (fun b e => e) (fun b e => ⟨.inl e, Nat.lt_of_lt_of_le (hSb b e) hb.size⟩), fun b e => ⟨(v2 b e).1, (hb.block b (Nat.lt_of_lt_of_le (v2 b e).1 v3)).trans (v2 b e).2⟩, Nat.le_trans v3 hb.size⟩, _, rfl, heap_alloc_new V _, hl, fun e => ?_⟩)
    have := hSb _ e
    omega
  · rintro ⟨k, S, U⟩ x b o V ⟨rfl, hk, ⟨v1, v2, v3⟩, c, rfl, h5, h6, h7⟩
    refine wpIn_mono (hbody k S o V c hk v1 (fun b hb => Nat.lt_of_lt_of_le (v2 b (.inl hb)).1 v3) (fun b hb => Nat.lt_of_lt_of_le (v2 b (.inr hb)).1 v3) h5 h6 h7) ?_
    rintro e a3 V3 hp
    cases e with
    | normal =>
      obtain ⟨q1, q2, q3⟩ := hp
      exact ⟨(k + 1, S, U), rfl, q1, fun b hb => ⟨(v2 b hb).1, (q2 b hb).trans (v2 b hb).2⟩, Nat.le_trans v3 q3⟩
    | ret => exact hp
    | exit id => exact hp
    | goto t => exact hp
    | panic ch => exact hp
    | outgrown => exact hp
  · rintro o V ⟨S, hh⟩
    exact hdone S o V hh
end Go.Proofs.Ytjdgeonlbjokaaa

