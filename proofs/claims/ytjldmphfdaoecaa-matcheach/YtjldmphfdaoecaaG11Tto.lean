import Derived.Test.YtjldmphfdaoecaaG10Tnt
import Derived.Test.YtjldmphfdaoecaaG01App
import Derived.Lib.SliceRun
import Derived.Test.YtjldmphfdaoecaaG05Bcd
import Derived.Maps.OwnIn
namespace Go.Proofs.Ytjldmphfdaoecaa
open Go.RowKit Go.Maps Go.Shelf
attribute [local go_sem] Oper.semAt_some
set_option maxRecDepth 20000
set_option linter.unusedVariables false

theorem eqIn_func {P : Program} (w : World) (d : Nat) (t : TypeId) {u : Array TypeId} {r : Array TypeId} {x : Bool} (h : P.underlying t = some (.func u r x)) (fn : Fn) (a b : Array Value) : (Op.equalIn (d + 1) t (.func fn a b) .nilFunc).run P w = .ok false w := by
  simp [Op.equalIn, run_underlying h]

theorem eql_func {P : Program} (w : World) (t : TypeId) {u : Array TypeId} {r : Array TypeId} {x : Bool} (h : P.underlying t = some (.func u r x)) (fn : Fn) (a b : Array Value) : (binOp .eql t (.func fn a b) .nilFunc).run P w = .ok (.bool false) w := by
  have h1 : (Op.equal t (.func fn a b) .nilFunc).run P w = .ok false w := eqIn_func w 9999 t h fn a b
  simp [binOp, h1]

theorem yld_under : Try.prog.underlying 42 = some (.func #[38] #[4] false) := by kernel_rfl

set_option maxHeartbeats 1000000 in
theorem each2_any (l dB eB W C : Nat) (u : Value) (D : List Int) (z : Bool) (hB : Byt D) (hn : D.length ≤ 16777216) (hW : 1 ≤ W) (hW2 : W ≤ 32768) (hC : C ≤ 1000000000)
    (J : Nat → (Nat → Prop) → World → Prop) (Jx : World → Prop) (hmv : Bears J) (hY : Turns (tkl D W C z) l u J Jx) (w : World) (S : Nat → Prop) (h : SB w u D) (hlow : ∀ k, u.ownBlock = some k → k < w.heap.size)
    (hd : w.cell? ⟨dB, 0, none⟩ = some u) (e0 : w.cell? ⟨eB, 0, none⟩ = some (.int .i64 (W : Int))) (e1 : w.cell? ⟨eB, 1, none⟩ = some (.int .i64 (C : Int))) (e2 : w.cell? ⟨eB, 2, none⟩ = some (.bool z)) (hSb : ∀ b, S b → b < w.heap.size) (hj : J 0 S w) :
    Calls Try.prog 16 #[.func (.yield l) #[] #[], .pointer (some ⟨dB, 0, none⟩), .pointer (some ⟨eB, 0, none⟩)] w fun e w' => (∃ v, e = .returned v) ∧ ((∃ S', J (tkl D W C z).length S' w') ∨ Jx w') := by
  have HMV := hide hmv
  have HY := hide hY
  have HSB := hide hSb
  have HJ := hide hj
  have HB := hide hB
  have HN := hide (newteller_any u D W C z w h hlow)
  obtain ⟨ao, cap, rfl, hlc, hcm⟩ := h.open
  clear h hlow hmv hY hSb hj hB
  have hyl : ∀ (fn : Fn) (a b : Array Value) (w : World), (binOp .eql 42 (.func fn a b) .nilFunc).run Try.prog w = .ok (.bool false) w := fun fn a b w => eql_func w _ yld_under fn a b
  go_enter Try.func16, Try.ntmps16
  go_wp2_with fail
  refine HN.out.mono ?_
  rintro e w2 ⟨g, m, rfl, ht, hb⟩
  have HTL : Hid (Calls Try.prog 18 #[.pointer (some ⟨g, 0, none⟩), .func (.yield l) #[] #[]] w2 fun e w' => (∃ v, e = .returned v) ∧ ((∃ S', J (tkl D W C z).length S' w') ∨ Jx w')) := by
    have hs := hb.size
    refine tell_any l w.heap.size g m W C _ D z _ HB.out hn hW hW2 hC J Jx HMV.out HY.out w2 (grw S w w2) ht (fun b e => ?_) (fun b e => ?_) (HMV.out 0 S _ w w2 HJ.out ⟨hb.os, hb.tape, hb.output, hs, fun b x _ => hb.block b x⟩ HSB.out (fun b e => .inl e) (fun b e => ?_))
    · rcases e with e | e | e | ⟨k, hk, e⟩
      · exact .inl (.inr ⟨by rw [e]; exact ht.bg, by rw [e]; exact ht.lt.1⟩)
      · exact .inl (.inr ⟨by rw [e]; exact ht.bm, by rw [e]; exact ht.lt.2⟩)
      · exact .inr e
      · cases e
    · rcases e with e | e
      · have := HSB.out b e; omega
      · exact e.2
    · rcases e with e | e
      · exact ⟨.inl e, by have := HSB.out b e; omega⟩
      · exact ⟨.inr e.1, e.2⟩
  clear ht hb HN
  go_wp2_with fail
  refine HTL.out.mono ?_
  rintro e w3 ⟨⟨v3, rfl⟩, h3⟩
  have H3 := hide h3
  clear h3 HTL
  go_wp2
  refine bodyPost_end (results_none rfl _ _ _) rfl ?_
  exact ⟨⟨_, rfl⟩, H3.out⟩

def eachEnd (T : Nat → (Nat → Prop) → Obj → World → Prop) (Ix : Code → Obj → World → Prop) (u : Value) (k : Nat) (S : Nat → Prop) (o : Obj) (W0 : World) : Exit → Act → World → Prop
  | .normal, _, W => T (k + 1) S o W ∧ (∀ b, S b ∨ u.ownBlock = some b → W.heap[b]? = W0.heap[b]?) ∧ W0.heap.size ≤ W.heap.size
  | .ret, _, W => Ix .ret o W
  | .exit id, _, W => Ix (.exit id) o W
  | .goto t, _, W => Ix (.goto t) o W
  | .panic _, _, _ => False
  | .outgrown, _, _ => False

def EI (T : Nat → (Nat → Prop) → Obj → World → Prop) (u : Value) (q : Nat × (Nat → Prop) × World) (o : Obj) (W : World) : Prop :=
  T q.1 q.2.1 o W ∧ (∀ b, q.2.1 b ∨ u.ownBlock = some b → b < q.2.2.heap.size ∧ W.heap[b]? = q.2.2.heap[b]?) ∧ q.2.2.heap.size ≤ W.heap.size

theorem putObj_ne (W : World) {l b : Nat} (o : Obj) (h : b ≠ l) : (W.putObj l o).heap[b]? = W.heap[b]? := by
  show (W.heap.setIfInBounds l o)[b]? = _
  rw [Array.getElem?_setIfInBounds_ne (fun e => h e.symm)]

theorem putObj_size (W : World) (l : Nat) (o : Obj) : (W.putObj l o).heap.size = W.heap.size := by show (W.heap.setIfInBounds l o).size = _; simp

theorem ei_rec {T : Nat → (Nat → Prop) → Obj → World → Prop} {u : Value} {l : Nat} (rT : ∀ k S, H4.Rec l (T k S)) (hnS : ∀ k S o W, T k S o W → ¬ S l) (hu : u.ownBlock ≠ some l) (q : Nat × (Nat → Prop) × World) : H4.Rec l (EI T u q) :=
  ⟨fun o W h => (rT _ _).get _ _ h.1, fun o o' W h => ⟨(rT _ _).put _ _ _ h.1, fun b hb => by
    refine ⟨(h.2.1 b hb).1, ?_⟩
    rw [putObj_ne _ _ (fun e => by
      rcases hb with hb | hb
      · exact hnS _ _ _ _ h.1 (e ▸ hb)
      · exact hu (e ▸ hb))]
    exact (h.2.1 b hb).2, by rw [putObj_size]; exact h.2.2⟩⟩

theorem wp_each {g : Operand} {ps : Array Tmp} {assign body : Code} {Q : Exit → Act → World → Prop} {a : Act} {w : World} (dB eB W C : Nat) (u : Value) (D : List Int) (z : Bool)
    (hg : a.eval g = .func (.func 16) #[] #[.pointer (some ⟨dB, 0, none⟩), .pointer (some ⟨eB, 0, none⟩)]) (hps : ps.size = 1) (hB : Byt D) (hn : D.length ≤ 16777216) (hW : 1 ≤ W) (hW2 : W ≤ 32768) (hC : C ≤ 1000000000)
    (h : SB w u D) (hlow : ∀ k, u.ownBlock = some k → k < w.heap.size) (hd : w.cell? ⟨dB, 0, none⟩ = some u) (e0 : w.cell? ⟨eB, 0, none⟩ = some (.int .i64 (W : Int))) (e1 : w.cell? ⟨eB, 1, none⟩ = some (.int .i64 (C : Int))) (e2 : w.cell? ⟨eB, 2, none⟩ = some (.bool z))
    (T : Nat → (Nat → Prop) → Obj → World → Prop) (Ix : Code → Obj → World → Prop) (rT : ∀ k S, H4.Rec (w.heap.size + 1) (T k S)) (hnS : ∀ k S o W, T k S o W → ¬ S (w.heap.size + 1)) (rx : ∀ c, H4.Rec (w.heap.size + 1) (Ix c))
    (hdd : ∀ S o W, T 0 S o W → W.heap[dB]? = w.heap[dB]? ∧ W.heap[eB]? = w.heap[eB]? ∧ w.heap.size ≤ W.heap.size) (hmv : ∀ o, Bears fun k S W => T k S o W)
    (h0 : ∀ o, T 0 (fun _ => False) o ((w.alloc (.deferred (some []))).alloc o)) (act : Tk → Nat → Act)
    (hassign : ∀ (x : Tk) (V : World) (c : Nat) (K : Act → World → Prop), V.heap.size = c → K (act x c) (V.alloc (.cells #[.int .i64 x.1, .int .i64 x.2.1, .int .u8 x.2.2] 38)) →
      assign.wpIn (Fence.wide.inRound (w.heap.size + 1)) 1 Try.prog (Exit.then K (fun _ _ _ => False)) { tmps := (ps.zip #[.agg #[.int .i64 x.1, .int .i64 x.2.1, .int .u8 x.2.2]]).foldl (fun t (p, v) => t.setIfInBounds p v) a.tmps, defers := [] } V)
    (hbody : ∀ k S o V c, k < (tkl D W C z).length → T k S o V → (∀ b, S b → b < V.heap.size) → (∀ b, u.ownBlock = some b → b < V.heap.size) → V.heap[c]? = some (.cells (tkc ((tkl D W C z).getD k tk0)) 38 (0, 0)) → w.heap.size + 1 < c → ¬ S c → body.wpIn (Fence.wide.inRound (w.heap.size + 1)) 1 Try.prog (eachEnd T Ix u k S o V) (act ((tkl D W C z).getD k tk0) c) V)
    (hdone : ∀ S o V, T (tkl D W C z).length S o V → Q .normal { a with defers := { target := .collected w.heap.size, args := #[] } :: a.defers } V)
    (hstop : ∀ c o V, Ix c o V → c.wpIn Fence.wide 3 Try.prog Q { a with defers := { target := .collected w.heap.size, args := #[] } :: a.defers } V) :
    (Code.rangeFunc g ps assign body).wpIn Fence.wide 3 Try.prog Q a w := by
  have hul : u.ownBlock ≠ some (w.heap.size + 1) := fun e => by have := hlow _ e; omega
  refine wp_range3 (α := Tk) (fun p q => q = (p.1 + 1, p.2.1, p.2.2)) (0, (fun _ => False), w) rfl (by decide) hg trivial (enters_of Try.func16 (by kernel_rfl) rfl) (encs := fun x => #[.agg (tkc x)]) (fun _ => hps.symm)
    (EI T u) (fun q x o V => x = (tkl D W C z).getD q.1 tk0 ∧ q.1 < (tkl D W C z).length ∧ EI T u q o V) (fun o V => ∃ S, T (tkl D W C z).length S o V) Ix
    (ei_rec rT hnS hul) (fun q x => ⟨fun o V hh => (ei_rec rT hnS hul q).get _ _ hh.2.2, fun o o' V hh => ⟨hh.1, hh.2.1, (ei_rec rT hnS hul q).put _ _ _ hh.2.2⟩⟩) ⟨fun o V ⟨S, hh⟩ => (rT _ S).get _ _ hh, fun o o' V ⟨S, hh⟩ => ⟨S, (rT _ S).put _ _ _ hh⟩⟩ rx ?_ ?_
    (fun q x b o V => x = (tkl D W C z).getD q.1 tk0 ∧ q.1 < (tkl D W C z).length ∧ EI T u q o V ∧ ∃ c, b = act x c ∧ V.heap[c]? = some (.cells (tkc x) 38 (0, 0)) ∧ w.heap.size + 1 < c ∧ ¬ q.2.1 c)
    (fun q x b => ⟨fun o V hh => (ei_rec rT hnS hul q).get _ _ hh.2.2.1, fun o o' V ⟨h1, h2, h3, c, h4, h5, h6, h7⟩ => ⟨h1, h2, (ei_rec rT hnS hul q).put _ _ _ h3, c, h4, (putObj_ne _ _ (by omega)).trans h5, h6, h7⟩⟩) ?_ ?_ ?_ hstop
  · intro o
    refine ⟨h0 o, fun b hb => ?_, by simp; omega⟩
    rcases hb with hb | hb
    · exact hb.elim
    · have hl := hlow b hb
      exact ⟨hl, by rw [Below.heap_alloc _ _ _ (by simp; omega), Below.heap_alloc _ _ _ hl]⟩
  · intro o Jx hY V hV
    obtain ⟨v1, v2, v3⟩ := hV
    obtain ⟨d1, d2, d3⟩ := hdd _ _ _ v1
    have hbl : ∀ {b : Nat} {x : Value} {k : Nat}, V.heap[b]? = w.heap[b]? → w.cell? ⟨b, k, none⟩ = some x → V.cell? ⟨b, k, none⟩ = some x := fun e c => (World.cell?_of_block e).trans c
    refine callsIn_wide.2 (each2_any (w.heap.size + 1) dB eB W C u D z hB hn hW hW2 hC (fun k S V => T k S o V) Jx (hmv o) ?_ V (fun _ => False) (h.move fun ad _ hc hb => (World.cell?_of_block (v2 _ (.inr hb)).2).trans hc) (fun k hk => Nat.lt_of_lt_of_le (hlow k hk) d3) (hbl d1 hd) (hbl d2 e0) (hbl d2 e1) (hbl d2 e2) (fun b e => e.elim) v1)
    · intro k S U hk hj hSb hub
      refine yield_any rfl 1 ((hY (k, S, U) _ U ⟨rfl, hk, hj, fun b hb => ⟨?_, rfl⟩, Nat.le_refl _⟩).mono ?_)
      · rcases hb with hb | hb
        · exact hSb b hb
        · exact hub b hb
      · rintro e U' (⟨rfl, q, rfl, hq1, hq2, hq3⟩ | ⟨rfl, hq⟩)
        · exact .inl ⟨rfl, hq1, fun b hb => (hq2 b hb).2, hq3⟩
        · exact .inr ⟨rfl, hq⟩
  · rintro ⟨k, S, U⟩ x o V K ⟨hx, hk, v1, v2, v3⟩ hK
    have hl := (Array.getElem?_eq_some_iff.1 ((rT k S).get _ _ v1)).1
    have hb : Below V.heap.size V (V.alloc (.cells #[.int .i64 x.1, .int .i64 x.2.1, .int .u8 x.2.2] 38)) := (Below.refl _ _).alloc (Nat.le_refl _) _
    have hSb : ∀ b, S b → b < V.heap.size := fun b e => Nat.lt_of_lt_of_le (v2 b (.inl e)).1 v3
    refine hassign x V _ K rfl (hK _ _ ⟨hx, hk, ⟨hmv o k S S V _ v1 ⟨hb.os, hb.tape, hb.output, hb.size, fun b e _ => hb.block b e⟩ hSb (fun b e => e) (fun b e => ⟨.inl e, Nat.lt_of_lt_of_le (hSb b e) hb.size⟩), fun b e => ⟨(v2 b e).1, (hb.block b (Nat.lt_of_lt_of_le (v2 b e).1 v3)).trans (v2 b e).2⟩, Nat.le_trans v3 hb.size⟩, _, rfl, heap_alloc_new V _, hl, fun e => ?_⟩)
    have := hSb _ e
    omega
  · rintro ⟨k, S, U⟩ x b o V ⟨rfl, hk, ⟨v1, v2, v3⟩, c, rfl, h5, h6, h7⟩
    refine wpIn_mono (hbody k S o V c hk v1 (fun b hb => Nat.lt_of_lt_of_le (v2 b (.inl hb)).1 v3) (fun b hb => Nat.lt_of_lt_of_le (v2 b (.inr hb)).1 v3) h5 h6 h7) ?_
    rintro e a3 V3 hp
    cases e with
    | normal =>
      obtain ⟨q1, q2, q3⟩ := hp
      exact ⟨(k + 1, S, U), rfl, q1, fun b hb => ⟨(v2 b hb).1, (q2 b hb).trans (v2 b hb).2⟩, Nat.le_trans v3 q3⟩
    | ret => exact hp
    | exit id => exact hp
    | goto t => exact hp
    | panic ch => exact hp
    | outgrown => exact hp
  · rintro o V ⟨S, hh⟩
    exact hdone S o V hh
end Go.Proofs.Ytjldmphfdaoecaa

namespace Go.Proofs.Ytjldmphfdaoecaa
open Go.RowKit Go.Maps
set_option maxRecDepth 20000
set_option linter.unusedVariables false

theorem bclone_any (v : Value) (D : List Int) (w : World) (h : SB w v D) (hn : D.length ≤ 16777216) :
    Calls Try.prog 15 #[v] w fun e w' => ∃ u, e = .returned u ∧ OB w' w.heap.size u D ∧ Below w.heap.size w w' := by
  have he := fun (w : World) (a : Option Addr) (n c : Nat) => Lib.run_eql_slice_nil (P := Try.prog) w 22 5 a n c 0 0 Try.underlying22
  have H := hide h
  obtain ⟨ao, cap, rfl, hlc, hcm, hnil, hcell⟩ := h
  cases ao with
  | none =>
    have hc0 := hnil rfl
    subst hc0
    have hD : D = [] := List.length_eq_zero_iff.1 (by omega)
    subst hD
    clear hnil hcell hcm hlc
    go_enter Try.func15, Try.ntmps15
    go_wp2
    go_ret
    exact ⟨_, rfl, World.ownsRow_nil _ _ _ _, Below.refl _ _⟩
  | some ad =>
    clear hnil hcell
    have HSR := hide ((H.out.below ((Below.refl _ _).alloc (Nat.le_refl _) (.cells #[] 5))).src)
    have HO : Hid (OB (w.alloc (.cells #[] 5)) w.heap.size (.slice (some ⟨w.heap.size, 0, none⟩) 0 0) []) := by
      show World.ownsRow _ _ _ _ _ _ _
      refine ⟨by simp, .inr ⟨w.heap.size, 0, #[], by simp, Nat.le_refl _, heap_alloc_new w _, ?_⟩⟩
      simp
    go_enter Try.func15, Try.ntmps15
    go_wp2_with (at_builtin; refine wpList_app rfl _ _ 22 rfl w.heap.size (.slice (some ⟨w.heap.size, 0, none⟩) 0 0) _ [] D rfl HO.out rfl HSR.out (by simp; omega) (by simp) ?_)
    intro v6 w6 ho6 hg6
    have HN : Hid (OB w6 w.heap.size v6 D ∧ Below w.heap.size w w6) := by
      have b1 : Below w.heap.size w (w.alloc (.cells #[] 5)) := (Below.refl _ _).alloc (Nat.le_refl _) _
      have hb := hg6.by
      refine ⟨ho6, hb.os.trans b1.os, hb.tape.trans b1.tape, hb.output.trans b1.output, Nat.le_trans b1.size hb.size, fun k hk => (hb.block k (by have := b1.size; omega) (fun e => ?_)).trans (b1.block k hk)⟩
      simp [Value.ownBlock] at e
      omega
    go_wp2
    go_ret
    exact ⟨_, rfl, HN.out.1, HN.out.2⟩
end Go.Proofs.Ytjldmphfdaoecaa

namespace Go.Proofs.Ytjldmphfdaoecaa
open Go.RowKit Go.Maps
set_option maxRecDepth 20000
set_option linter.unusedVariables false

set_option maxHeartbeats 1000000 in
theorem each_yes (v : Value) (D : List Int) (x y : Int) (z : Bool) (w : World) (h : SB w v D) (hn : D.length ≤ 16777216) (hm : mbb D.length x y = true) :
    Calls Try.prog 4 #[v, .agg #[.int .i64 x, .int .i64 y, .bool z]] w fun e w' => ∃ u, e = .returned (.func (.func 16) #[] #[.pointer (some ⟨w.heap.size, 0, none⟩), .pointer (some ⟨w.heap.size + 1, 0, none⟩)]) ∧ OB w' (w.heap.size + 2) u D ∧
      w'.heap[w.heap.size]? = some (.cells #[u] 22 (0, 0)) ∧ w'.heap[w.heap.size + 1]? = some (.cells #[.int .i64 x, .int .i64 y, .bool z] 24 (0, 0)) ∧ Below w.heap.size w w' := by
  have HM := hide hm
  have b1 : Below w.heap.size w (w.alloc (.cells #[v] 22)) := (Below.refl _ _).alloc (Nat.le_refl _) _
  have HB2 := hide (b1.alloc (by have := b1.size; omega) (.cells #[.int .i64 x, .int .i64 y, .bool z] 24))
  have e1 := heap_alloc_new w (.cells #[v] 22)
  have e2 := heap_alloc_new (w.alloc (.cells #[v] 22)) (.cells #[.int .i64 x, .int .i64 y, .bool z] 24)
  obtain ⟨w2, hw2⟩ : ∃ w2, (w.alloc (.cells #[v] 22)).alloc (.cells #[.int .i64 x, .int .i64 y, .bool z] 24) = w2 := ⟨_, rfl⟩
  have hs2 : w2.heap.size = w.heap.size + 2 := by rw [← hw2]; simp
  have s1 : (w.alloc (.cells #[v] 22)).heap.size = w.heap.size + 1 := by simp
  rw [hw2] at HB2 e2
  rw [s1] at e2
  have g1 : w2.heap[w.heap.size]? = some (.cells #[v] 22 (0, 0)) := by rw [← hw2]; exact (Below.heap_alloc _ _ _ (by simp)).trans e1
  have HG1 := hide g1
  have HG2 := hide e2
  have c0 : w2.cell? ⟨w.heap.size, 0, none⟩ = some v := cellIn g1 rfl
  have d0 : w2.cell? ⟨w.heap.size + 1, 0, none⟩ = some (.int .i64 x) := cellIn e2 rfl
  have d1 : w2.cell? ⟨w.heap.size + 1, 1, none⟩ = some (.int .i64 y) := cellIn e2 rfl
  have d2 : w2.cell? ⟨w.heap.size + 1, 2, none⟩ = some (.bool z) := cellIn e2 rfl
  have HS2 := hide (h.below HB2.out)
  obtain ⟨ao, cap, rfl, hlc, hcm⟩ := h.open
  have HMB := hide (mayBe_any D ao cap x y z w2)
  rw [HM.out] at HMB
  clear h e1 b1 hm s1
  have hmf : ∀ (fn : Fn) (first cap : Array Value) (w : World), (Instr.makeFunc fn first cap).run Try.prog w = .ok (.func fn first cap) w := fun _ _ _ _ => rfl
  go_enter Try.func4, Try.ntmps4
  go_wp2_with fail
  refine HMB.out.mono ?_
  rintro e w3 ⟨rfl, b3⟩
  have hs3 := b3.size
  have c3 : w3.cell? ⟨w.heap.size, 0, none⟩ = some (.slice ao D.length cap) := (b3.cell (by show w.heap.size < w2.heap.size; omega)).trans c0
  have HG3 := hide ((b3.block w.heap.size (by omega)).trans HG1.out)
  have HH3 := hide ((b3.block (w.heap.size + 1) (by omega)).trans HG2.out)
  have HC := hide (bclone_any _ D w3 (HS2.out.below b3) hn)
  have HB3 := hide (HB2.out.trans (b3.mono (by omega)))
  clear hw2 b3 HMB c0 d0 d1 d2 g1 e2
  go_wp2_with fail
  refine HC.out.mono ?_
  rintro e w4 ⟨u, rfl, ho4, b4⟩
  have hs4 := b4.size
  have g4 := (b4.block w.heap.size (by omega)).trans HG3.out
  have h4 := (b4.block (w.heap.size + 1) (by omega)).trans HH3.out
  have c4 : w4.cell? ⟨w.heap.size, 0, none⟩ = some (.slice ao D.length cap) := cellIn g4 rfl
  have f4 : w4.frozen? ⟨w.heap.size, 0, none⟩ = false := by unfold World.frozen?; simp [g4]
  have b40 := HB3.out.trans (b4.mono (by omega))
  have HFN : Hid (OB (w4.setCell ⟨w.heap.size, 0, none⟩ u) (w.heap.size + 2) u D ∧ (w4.setCell ⟨w.heap.size, 0, none⟩ u).heap[w.heap.size]? = some (.cells #[u] 22 (0, 0)) ∧ (w4.setCell ⟨w.heap.size, 0, none⟩ u).heap[w.heap.size + 1]? = some (.cells #[.int .i64 x, .int .i64 y, .bool z] 24 (0, 0)) ∧ Below w.heap.size w (w4.setCell ⟨w.heap.size, 0, none⟩ u)) := by
    refine ⟨?_, ?_, ?_, ⟨b40.os, b40.tape, b40.output, by rw [size_setCell]; exact b40.size, fun k hk => (setCell_others _ _ _ _ k (by omega)).trans (b40.block k hk)⟩⟩
    · have := ho4.move (w' := w4.setCell ⟨w.heap.size, 0, none⟩ u) fun k hk => setCell_others _ _ _ _ k (by have := (ho4.lt k hk).1; omega)
      exact this.base (by omega)
    · rw [heap_setCell_at _ g4]; rfl
    · exact (setCell_others _ _ _ _ _ (by omega)).trans h4
  obtain ⟨au, pu, hu⟩ := ho4.shape
  subst hu
  clear ho4 b4 g4 h4 b40
  go_wp2
  go_ret
  exact ⟨_, rfl, HFN.out⟩
end Go.Proofs.Ytjldmphfdaoecaa

namespace Go.Proofs.Ytjldmphfdaoecaa
open Go.RowKit Go.Maps Go.Shelf
attribute [local go_sem] Oper.semAt_some
set_option maxRecDepth 20000
set_option linter.unusedVariables false

theorem wpTokIn {F : Fence} {nF : Nat} {w : World} {ops : Array Oper} {rest : List Oper} {o : Oper} {a : Act} {Q : Exit → Act → World → Prop} (hgd : o.guard = none) (s x : Operand)
    (ho : o.op = .call { callee := .builtin .append, args := #[s, x], argTypes := #[29, 29] }) (base : Nat) (v : Value) (R : List Tk) (p1 p2 p3 : Int) (hs : a.eval s = v) (hown : OK w base v R)
    (c : Nat) (hx : a.eval x = .slice (some ⟨w.heap.size, 0, none⟩) 1 c) (hn : R.length ≤ 5864062014800) (hbase : base ≤ w.heap.size)
    (h : ∀ v' w', OK w' base v' (R ++ [(p1, p2, p3)]) → (w.alloc (.cells #[.int .i64 p1, .int .i64 p2, .int .u8 p3] 38)).grownBy w' v.ownBlock → (v'.ownBlock = v.ownBlock ∨ v'.ownBlock = some (w.heap.size + 1)) → wpListIn F nF Try.prog ops Q rest (a.put o.dst v') w') :
    wpListIn F nF Try.prog ops Q (o :: rest) a (w.alloc (.cells #[.int .i64 p1, .int .i64 p2, .int .u8 p3] 38)) := by
  obtain ⟨i0, hi0, hz0, hz1, hz2⟩ := info_parts infoTok
  refine wpListIn_append_own_at _ hgd s x 29 ho base 38 i0 _ 3 24 Try.underlying29 hi0 hz0 hz1 hz2 rfl (by omega) v R.length (fr3 R) hs (hown.alloc _) ⟨w.heap.size, 0, none⟩ 1 c [.int .i64 p1, .int .i64 p2, .int .u8 p3] hx rfl (World.news_of_block (cs := #[.int .i64 p1, .int .i64 p2, .int .u8 p3]) (t := 38) (fr := (0, 0)) (heap_alloc_new w _))
    (fun u hu => by
      simp only [List.mem_cons, List.not_mem_nil, or_false] at hu
      rcases hu with rfl | rfl | rfl <;> rfl) (by unfold maxLen; omega) (by omega) (by simp; omega) fun v' w' h1 h2 _ h4 => h v' w' ?_ h2 (by rw [size_alloc'] at h4; exact h4)
  show World.ownsRow _ _ _ _ _ _ _
  rw [List.length_append, fr3_snoc]
  exact h1

structure TkJ (R : List Tk) (wb : World) (d gT k : Nat) (S : Nat → Prop) (o : Obj) (W : World) : Prop where
  dfr : W.heap[d]? = some (.deferred (some []))
  lp : W.heap[d + 1]? = some o
  os : W.os = wb.os
  tape : W.tape = wb.tape
  output : W.output = wb.output
  size : d + 2 ≤ W.heap.size
  blk : ∀ b, b < d → b ≠ gT → W.heap[b]? = wb.heap[b]?
  sge : ∀ b, S b → d + 2 ≤ b
  var : ∃ tv, W.heap[gT]? = some (.cells #[tv] 29 (0, 0)) ∧ OK W (d + 2) tv (R.take k) ∧ ∀ b, tv.ownBlock = some b → ¬ S b

theorem TkJ.put {R : List Tk} {wb : World} {d gT k : Nat} {S : Nat → Prop} {o o' : Obj} {W : World} (h : TkJ R wb d gT k S o W) (hg : gT < d) : TkJ R wb d gT k S o' (W.putObj (d + 1) o') where
  dfr := (putObj_ne _ _ (by omega)).trans h.dfr
  lp := by
    have := h.size
    show (W.heap.setIfInBounds (d + 1) o')[d + 1]? = some o'
    rw [Array.getElem?_setIfInBounds_self_of_lt (by omega)]
  os := h.os
  tape := h.tape
  output := h.output
  size := by rw [putObj_size]; exact h.size
  blk := fun b h1 h2 => (putObj_ne _ _ (by omega)).trans (h.blk b h1 h2)
  sge := h.sge
  var := by
    obtain ⟨tv, e1, e2, e3⟩ := h.var
    exact ⟨tv, (putObj_ne _ _ (by omega)).trans e1, tokown_move e2 fun b hb => putObj_ne _ _ (by have := (OK.lt e2 b hb).1; omega), e3⟩

theorem TkJ.recs {R : List Tk} {wb : World} {d gT : Nat} (hg : gT < d) (k : Nat) (S : Nat → Prop) : H4.Rec (d + 1) (TkJ R wb d gT k S) := ⟨fun o W h => h.lp, fun o o' W h => h.put hg⟩

theorem TkJ.bears {R : List Tk} {wb : World} {d gT : Nat} (hg : gT < d) (o : Obj) : Bears fun k S W => TkJ R wb d gT k S o W := by
  intro k S S' w w' h hm hb hs hn
  have hz := h.size
  have hz2 := hm.size
  have keep : ∀ b, b < d + 2 → w'.heap[b]? = w.heap[b]? := fun b hb2 => hm.blk b (by omega) (fun e => by have := h.sge b e; omega)
  obtain ⟨tv, e1, e2, e3⟩ := h.var
  refine ⟨(keep _ (by omega)).trans h.dfr, (keep _ (by omega)).trans h.lp, hm.os.trans h.os, hm.tape.trans h.tape, hm.output.trans h.output, by omega, fun b h1 h2 => (keep _ (by omega)).trans (h.blk b h1 h2), fun b e => ?_, tv, (keep _ (by omega)).trans e1, tokown_move e2 fun b hb2 => hm.blk b (OK.lt e2 b hb2).2 (e3 b hb2), fun b hb2 e => ?_⟩
  · rcases (hn b e).1 with e | e
    · exact h.sge b e
    · omega
  · rcases (hn b e).1 with e | e
    · exact e3 b hb2 e
    · have := (OK.lt e2 b hb2).2; omega

theorem TkJ.start {R : List Tk} {wb : World} {gT : Nat} (hv : wb.heap[gT]? = some (.cells #[.slice none 0 0] 29 (0, 0))) (o : Obj) : TkJ R wb wb.heap.size gT 0 (fun _ => False) o ((wb.alloc (.deferred (some []))).alloc o) := by
  have hg : gT < wb.heap.size := (Array.getElem?_eq_some_iff.1 hv).1
  have hlt : ∀ k, k < wb.heap.size → ((wb.alloc (.deferred (some []))).alloc o).heap[k]? = wb.heap[k]? := fun k hk => by rw [Below.heap_alloc _ _ _ (by simp; omega), Below.heap_alloc _ _ _ hk]
  exact ⟨(heap_two wb _ o).2, (heap_two wb _ o).1, rfl, rfl, rfl, by simp, fun k hk _ => hlt k hk, fun b e => e.elim, _, (hlt _ hg).trans hv, OK.nil _ _, fun b e => by cases e⟩

theorem TkJ.next {R : List Tk} {wb : World} {d gT k : Nat} {S : Nat → Prop} {o : Obj} {W w1 w2 : World} {tv tv2 : Value} (h : TkJ R wb d gT k S o W) (hg : gT < d) (hS : ∀ b, S b → b < W.heap.size)
    (hv : W.heap[gT]? = some (.cells #[tv] 29 (0, 0))) (ho : OK W (d + 2) tv (R.take k)) (hn : ∀ b, tv.ownBlock = some b → ¬ S b) (hb : Below W.heap.size W w1) (hgr : w1.grownBy w2 tv.ownBlock) (h2 : OK w2 (d + 2) tv2 (R.take (k + 1))) (hat : tv2.ownBlock = tv.ownBlock ∨ ∃ q, tv2.ownBlock = some q ∧ W.heap.size ≤ q) :
    TkJ R wb d gT (k + 1) S o (w2.setCell ⟨gT, 0, none⟩ tv2) ∧ (∀ b, S b ∨ (b < d ∧ b ≠ gT) → (w2.setCell ⟨gT, 0, none⟩ tv2).heap[b]? = W.heap[b]?) ∧ W.heap.size ≤ (w2.setCell ⟨gT, 0, none⟩ tv2).heap.size := by
  have hz := h.size
  have hs1 := hb.size
  have hs2 := hgr.size
  have keep : ∀ b, b < W.heap.size → tv.ownBlock ≠ some b → w2.heap[b]? = W.heap[b]? := fun b h1 h3 => (hgr.block b (by omega) (fun e => h3 e.symm)).trans (hb.block b h1)
  have low : ∀ b, b < d + 2 → w2.heap[b]? = W.heap[b]? := fun b h1 => keep b (by omega) (fun e => by have := (ho.lt b e).1; omega)
  have hot : ∀ b, b ≠ gT → (w2.setCell ⟨gT, 0, none⟩ tv2).heap[b]? = w2.heap[b]? := fun b hbr => setCell_others _ _ _ _ b hbr
  have hg2 := (low gT (by omega)).trans hv
  refine ⟨⟨(hot _ (by omega)).trans ((low _ (by omega)).trans h.dfr), (hot _ (by omega)).trans ((low _ (by omega)).trans h.lp), ?_, ?_, ?_, by rw [size_setCell]; omega, fun b x y => (hot _ y).trans ((low _ (by omega)).trans (h.blk b x y)), h.sge, tv2, ?_, ?_, fun b e1 e2 => ?_⟩, fun b e => ?_, by rw [size_setCell]; omega⟩
  · exact (hgr.os.trans hb.os).trans h.os
  · exact (hgr.tape.trans hb.tape).trans h.tape
  · exact (hgr.output.trans hb.output).trans h.output
  · rw [heap_setCell_at _ hg2]; rfl
  · exact tokown_move h2 fun b hb2 => hot b (by have := (h2.lt b hb2).1; omega)
  · rcases hat with e | ⟨q, e, e3⟩
    · exact hn b (e ▸ e1) e2
    · rw [e] at e1; cases e1
      have := hS _ e2; omega
  · rcases e with e | ⟨e, e2⟩
    · have h3 := h.sge b e
      exact (hot b (by omega)).trans (keep b (hS b e) (fun q => hn b q e))
    · exact (hot b e2).trans (low b (by omega))
end Go.Proofs.Ytjldmphfdaoecaa

