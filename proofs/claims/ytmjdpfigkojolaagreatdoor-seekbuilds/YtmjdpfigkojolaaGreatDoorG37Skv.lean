import Derived.Test.YtmjdpfigkojolaaGreatDoorG15Qr
import Derived.Test.YtmjdpfigkojolaaGreatDoorG35Skz
import Derived.Test.YtmjdpfigkojolaaGreatDoorG36Skw
namespace Go.Proofs.YtmjdpfigkojolaaGreatDoor
open Go.RowKit Go.Maps Go.Shelf
set_option maxRecDepth 20000
set_option linter.unusedVariables false
set_option linter.unusedSimpArgs false

/-! Build's loop: what lies in memory when k blocks have come. -/

theorem Txt.upto {row : List Int} {L p : Nat} {out : List Int} {ps : List Pc} {e : Int} {q : Nat} {o : List Int} (h : Txt row L p out ps e q o) : ∀ {k : Nat} {x : Pc}, ps[k]? = some x → out ++ (ps.take k).flatMap (sgb o) = o.take x.to0 ∧ out.length ≤ x.to0 ∧ x.to0 ≤ x.to1 ∧ x.to1 ≤ o.length := by
  induction h with
  | bad h1 h2 => intro k x hk; simp at hk
  | @last p out kd q o h1 =>
    obtain ⟨s, rfl⟩ := h1.pre
    intro k x hk
    cases k with
    | zero =>
      simp only [List.getElem?_cons_zero, Option.some.injEq] at hk
      subst hk
      simp
    | succ k => simp at hk
  | @go p out kd q o ps e q' o' h1 h2 ih =>
    obtain ⟨s, rfl⟩ := h1.pre
    obtain ⟨t, rfl⟩ := h2.pre
    intro k x hk
    cases k with
    | zero =>
      simp only [List.getElem?_cons_zero, Option.some.injEq] at hk
      subst hk
      simp
    | succ k =>
      rw [List.getElem?_cons_succ] at hk
      obtain ⟨a, b, c⟩ := ih hk
      refine ⟨?_, by rw [List.length_append] at b; omega, c⟩
      rw [List.take_succ_cons, List.flatMap_cons, sg_at (out := out) (s := s) (t := t) (x := ⟨kd, false, p, q, out.length, (out ++ s).length⟩) rfl rfl, ← List.append_assoc]
      exact a

theorem Txt.rise {row : List Int} {L p : Nat} {out : List Int} {ps : List Pc} {e : Int} {q : Nat} {o : List Int} (h : Txt row L p out ps e q o) : (ps.Pairwise fun a b => a.to0 ≤ b.to0) ∧ ∀ x ∈ ps, out.length ≤ x.to0 ∧ x.to0 ≤ o.length := by
  induction h with
  | bad h1 h2 => exact ⟨List.Pairwise.nil, by simp⟩
  | last h1 =>
    obtain ⟨s, rfl⟩ := h1.pre
    exact ⟨List.pairwise_singleton _ _, by simp⟩
  | go h1 h2 ih =>
    obtain ⟨s, rfl⟩ := h1.pre
    obtain ⟨t, rfl⟩ := h2.pre
    obtain ⟨a, b⟩ := ih
    refine ⟨List.pairwise_cons.2 ⟨fun y hy => ?_, a⟩, fun y hy => ?_⟩
    · have := (b y hy).1; rw [List.length_append] at this; simp only; omega
    · rcases List.mem_cons.1 hy with rfl | hy
      · simp only [List.length_append]; omega
      · have := b y hy; rw [List.length_append] at this; omega

theorem kept_fold {oo : List Int} (step : Int) : ∀ (ps : List Pc) (s : List Mk × List Int), s.2.length ≤ lastA s.1 → (ps.Pairwise fun a b => a.to0 ≤ b.to0) → (∀ x ∈ ps, lastA s.1 ≤ x.to0 ∧ x.to0 ≤ oo.length) →
    (ps.foldl (stepM step oo) s).2.length ≤ lastA (ps.foldl (stepM step oo) s).1 ∧ (ps.foldl (stepM step oo) s).1.length ≤ s.1.length + ps.length
  | [], s, w, _, _ => ⟨w, Nat.le_refl _⟩
  | x :: ps, s, w, hp, hb => by
    rw [List.pairwise_cons] at hp
    have hx := hb x (List.mem_cons_self ..)
    have key : (stepM step oo s x).2.length ≤ lastA (stepM step oo s x).1 ∧ lastA (stepM step oo s x).1 ≤ x.to0 ∧ (stepM step oo s x).1.length ≤ s.1.length + 1 := by
      unfold stepM
      split
      · refine ⟨?_, by rw [addM, lastA_snoc]; exact Nat.le_refl _, by simp [addM]⟩
        rw [addM, lastA_snoc, List.length_append, List.length_drop, List.length_take]
        simp only
        omega
      · exact ⟨w, hx.1, by omega⟩
    obtain ⟨a, b⟩ := kept_fold step ps (stepM step oo s x) key.1 hp.2 fun y hy => ⟨Nat.le_trans key.2.1 (hp.1 y hy), (hb y (List.mem_cons_of_mem _ hy)).2⟩
    rw [List.foldl_cons]
    exact ⟨a, by rw [List.length_cons]; omega⟩

theorem run_facts {row : List Int} {L : Nat} {ps : List Pc} {e : Int} {q : Nat} {oo : List Int} (h : Txt row L 0 [] ps e q oo) (step : Int) {k : Nat} {x : Pc} (hk : ps[k]? = some x) :
    lastA (runM step oo (ps.take k)).1 ≤ x.to0 ∧ (runM step oo (ps.take k)).2.length ≤ x.to0 ∧ (runM step oo (ps.take k)).1.length ≤ k ∧ (ps.take k).flatMap (sgb oo) = oo.take x.to0 ∧ x.to0 ≤ x.to1 ∧ x.to1 ≤ oo.length := by
  obtain ⟨a, -, b, c⟩ := h.upto hk
  obtain ⟨hr, hm⟩ := h.rise
  have htk : ps.take (k + 1) = ps.take k ++ [x] := by rw [List.take_add_one, hk]; rfl
  have hr2 : (ps.take k ++ [x]).Pairwise fun a b => a.to0 ≤ b.to0 := by rw [← htk]; exact hr.sublist (List.take_sublist _ _)
  rw [List.pairwise_append] at hr2
  have hmem : ∀ y ∈ ps.take k, y.to0 ≤ x.to0 := fun y hy => hr2.2.2 y hy x (List.mem_singleton.2 rfl)
  have hb : ∀ y ∈ ps.take k, lastA ([] : List Mk) ≤ y.to0 ∧ y.to0 ≤ oo.length := fun y hy => ⟨by simp [lastA], (hm y (List.mem_of_mem_take hy)).2⟩
  have w1 := (win_fold step (ps.take k) ([], []) (win_nil oo) hr2.1 hb).2 x.to0 (by simp [lastA]) hmem
  have w2 := kept_fold (oo := oo) step (ps.take k) ([], []) (by simp) hr2.1 hb
  have hl : (ps.take k).length ≤ k := by rw [List.length_take]; omega
  refine ⟨w1, Nat.le_trans w2.1 w1, Nat.le_trans w2.2 (by simpa using hl), by simpa using a, b, c⟩

def finK (ps : List Pc) (k : Nat) : Bool := ((ps.take k).getLast?.map (·.fin)).getD false

theorem finK_snoc {ps : List Pc} {k : Nat} {x : Pc} (hk : ps[k]? = some x) : finK ps (k + 1) = x.fin := by
  have htk : ps.take (k + 1) = ps.take k ++ [x] := by rw [List.take_add_one, hk]; rfl
  simp [finK, htk]

structure Off3 (S : Nat → Prop) (mv kv vt : Value) : Prop where
  m : ∀ b, mv.ownBlock = some b → ¬ S b
  k : ∀ b, kv.ownBlock = some b → ¬ S b
  t : ∀ b, vt.ownBlock = some b → ¬ S b
  mk' : ∀ b, mv.ownBlock = some b → kv.ownBlock ≠ some b
  mt : ∀ b, mv.ownBlock = some b → vt.ownBlock ≠ some b
  kt : ∀ b, kv.ownBlock = some b → vt.ownBlock ≠ some b

structure SkJ (ps : List Pc) (o0 : List Int) (step : Int) (wb : World) (d gI gP gW k : Nat) (S : Nat → Prop) (o : Obj) (W : World) : Prop where
  dfr : W.heap[d]? = some (.deferred (some []))
  lp : W.heap[d + 1]? = some o
  os : W.os = wb.os
  tape : W.tape = wb.tape
  output : W.output = wb.output
  size : d + 2 ≤ W.heap.size
  blk : ∀ b, b < d → b ≠ gI → b ≠ gP → b ≠ gW → W.heap[b]? = wb.heap[b]?
  sge : ∀ b, S b → d + 2 ≤ b
  whl : W.heap[gW]? = some (.cells #[.bool (finK ps k)] 4 (0, 0))
  var : ∃ mv kv vt, Ix W (d + 2) gI 0 (runM step o0 (ps.take k)).1 (runM step o0 (ps.take k)).2 mv kv ∧ W.heap[gP]? = some (.cells #[vt] 22 (0, 0)) ∧ OB W (d + 2) vt ((ps.take k).flatMap (sgb o0)) ∧ Off3 S mv kv vt

theorem Ix.move {w w' : World} {B g : Nat} {sz : Int} {ms : List Mk} {K : List Int} {mv kv : Value} (h : Ix w B g sz ms K mv kv) (hg : w'.heap[g]? = w.heap[g]?) (hm : ∀ b, mv.ownBlock = some b → w'.heap[b]? = w.heap[b]?) (hk : ∀ b, kv.ownBlock = some b → w'.heap[b]? = w.heap[b]?) : Ix w' B g sz ms K mv kv :=
  ⟨hg.trans h.box, h.marks.move hm, h.kept.move hk⟩

variable {ps : List Pc} {o0 : List Int} {step : Int} {wb : World} {d gI gP gW k : Nat} {S : Nat → Prop} {o : Obj} {W : World}

theorem SkJ.put {o' : Obj} (h : SkJ ps o0 step wb d gI gP gW k S o W) (hI : gI < d) (hP : gP < d) (hW : gW < d) : SkJ ps o0 step wb d gI gP gW k S o' (W.putObj (d + 1) o') where
  dfr := (putObj_at8 _ _ (by omega)).trans h.dfr
  lp := by
    have := h.size
    show (W.heap.setIfInBounds (d + 1) o')[d + 1]? = some o'
    rw [Array.getElem?_setIfInBounds_self_of_lt (by omega)]
  os := h.os
  tape := h.tape
  output := h.output
  size := by rw [putObj_size8]; exact h.size
  blk := fun b h1 h2 h3 h4 => (putObj_at8 _ _ (by omega)).trans (h.blk b h1 h2 h3 h4)
  sge := h.sge
  whl := (putObj_at8 _ _ (by omega)).trans h.whl
  var := by
    obtain ⟨mv, kv, vt, e1, e2, e3, e4⟩ := h.var
    exact ⟨mv, kv, vt, e1.move (putObj_at8 _ _ (by omega)) (fun b hb => putObj_at8 _ _ (by have := (e1.marks.lt b hb).1; omega)) (fun b hb => putObj_at8 _ _ (by have := (e1.kept.lt b hb).1; omega)), (putObj_at8 _ _ (by omega)).trans e2, e3.move fun b hb => putObj_at8 _ _ (by have := (e3.lt b hb).1; omega), e4⟩

theorem SkJ.recs (hI : gI < d) (hP : gP < d) (hW : gW < d) (k : Nat) (S : Nat → Prop) : H4.Rec (d + 1) (SkJ ps o0 step wb d gI gP gW k S) := ⟨fun o W h => h.lp, fun o o' W h => h.put hI hP hW⟩

theorem SkJ.bears (hI : gI < d) (hP : gP < d) (hW : gW < d) (o : Obj) : BBears fun k S W => SkJ ps o0 step wb d gI gP gW k S o W := by
  intro k S S' w w' h hm hb hs hn
  have hz := h.size
  have hz2 := hm.size
  have keep : ∀ b, b < d + 2 → w'.heap[b]? = w.heap[b]? := fun b hb2 => hm.blk b (by omega) (fun e => by have := h.sge b e; omega)
  obtain ⟨mv, kv, vt, e1, e2, e3, e4⟩ := h.var
  refine ⟨(keep _ (by omega)).trans h.dfr, (keep _ (by omega)).trans h.lp, hm.os.trans h.os, hm.tape.trans h.tape, hm.output.trans h.output, by omega, fun b h1 h2 h3 h4 => (keep _ (by omega)).trans (h.blk b h1 h2 h3 h4), fun b e => ?_, (keep _ (by omega)).trans h.whl, mv, kv, vt,
    e1.move (keep _ (by omega)) (fun b hb2 => hm.blk b (e1.marks.lt b hb2).2 (e4.m b hb2)) (fun b hb2 => hm.blk b (e1.kept.lt b hb2).2 (e4.k b hb2)), (keep _ (by omega)).trans e2, e3.move fun b hb2 => hm.blk b (e3.lt b hb2).2 (e4.t b hb2), ⟨fun b hb2 e => ?_, fun b hb2 e => ?_, fun b hb2 e => ?_, e4.mk', e4.mt, e4.kt⟩⟩
  · rcases (hn b e).1 with e | e
    · exact h.sge b e
    · omega
  · rcases (hn b e).1 with e | e
    · exact e4.m b hb2 e
    · have := (e1.marks.lt b hb2).2; omega
  · rcases (hn b e).1 with e | e
    · exact e4.k b hb2 e
    · have := (e1.kept.lt b hb2).2; omega
  · rcases (hn b e).1 with e | e
    · exact e4.t b hb2 e
    · have := (e3.lt b hb2).2; omega

theorem SkJ.start (hI : wb.heap[gI]? = some (ixO 0 (.slice none 0 0) (.slice none 0 0))) (hP : wb.heap[gP]? = some (.cells #[.slice none 0 0] 22 (0, 0))) (hW : wb.heap[gW]? = some (.cells #[.bool false] 4 (0, 0))) (o : Obj) : SkJ ps o0 step wb wb.heap.size gI gP gW 0 (fun _ => False) o ((wb.alloc (.deferred (some []))).alloc o) := by
  have h1 : gI < wb.heap.size := (Array.getElem?_eq_some_iff.1 hI).1
  have h2 : gP < wb.heap.size := (Array.getElem?_eq_some_iff.1 hP).1
  have h3 : gW < wb.heap.size := (Array.getElem?_eq_some_iff.1 hW).1
  have hlt : ∀ k, k < wb.heap.size → ((wb.alloc (.deferred (some []))).alloc o).heap[k]? = wb.heap[k]? := fun k hk => by rw [Below.heap_alloc _ _ _ (by simp; omega), Below.heap_alloc _ _ _ hk]
  refine ⟨(heap_two8 wb _ o).2, (heap_two8 wb _ o).1, rfl, rfl, rfl, by simp, fun k hk _ _ _ => hlt k hk, fun b e => e.elim, (hlt _ h3).trans hW, _, _, _, ⟨(hlt _ h1).trans hI, ?_, ?_⟩, (hlt _ h2).trans hP, ?_, ⟨(fun b e => by cases e), (fun b e => by cases e), (fun b e => by cases e), (fun b e => by cases e), (fun b e => by cases e), (fun b e => by cases e)⟩⟩
  · rw [List.take_zero]; exact ORp.nil _ _ _ _
  · rw [List.take_zero]; exact World.ownsRow_nil _ _ _ _
  · rw [List.take_zero]; exact World.ownsRow_nil _ _ _ _

theorem SkJ.heap {W' : World} (h : SkJ ps o0 step wb d gI gP gW k S o W) (e : W'.heap = W.heap) (e1 : W'.os = W.os) (e2 : W'.tape = W.tape) (e3 : W'.output = W.output) : SkJ ps o0 step wb d gI gP gW k S o W' := by
  have hb : ∀ b : Nat, W'.heap[b]? = W.heap[b]? := fun b => by rw [e]
  obtain ⟨mv, kv, vt, q1, q2, q3, q4⟩ := h.var
  exact ⟨(hb _).trans h.dfr, (hb _).trans h.lp, e1.trans h.os, e2.trans h.tape, e3.trans h.output, by rw [e]; exact h.size, fun b a1 a2 a3 a4 => (hb _).trans (h.blk b a1 a2 a3 a4), h.sge, (hb _).trans h.whl, mv, kv, vt, q1.heap e, (hb _).trans q2, q3.move fun b _ => hb b, q4⟩

theorem SkJ.next {x : Pc} {u mv kv vt mv' kv' vt' : Value} {V w6 w8 w9 : World} (h : SkJ ps o0 step wb d gI gP gW k S o V) (hI : gI < d) (hP : gP < d) (hW : gW < d) (n1 : gI ≠ gP) (n2 : gI ≠ gW) (n3 : gP ≠ gW) (hS : ∀ b, S b → b < V.heap.size) (hk : ps[k]? = some x)
    (e1 : Ix V (d + 2) gI 0 (runM step o0 (ps.take k)).1 (runM step o0 (ps.take k)).2 mv kv) (e3 : OB V (d + 2) vt ((ps.take k).flatMap (sgb o0))) (e4 : Off3 S mv kv vt)
    (m1 : Mvb (fun b => b = gI ∨ kv.ownBlock = some b ∨ mv.ownBlock = some b) V w6) (a1 : Ix w6 (d + 2) gI 0 (stepM step o0 (runM step o0 (ps.take k)) x).1 (stepM step o0 (runM step o0 (ps.take k)) x).2 mv' kv')
    (a2 : ∀ b, kv'.ownBlock = some b → kv.ownBlock = some b ∨ V.heap.size ≤ b) (a3 : ∀ b, mv'.ownBlock = some b → mv.ownBlock = some b ∨ V.heap.size ≤ b) (a4 : ∀ b, mv'.ownBlock = some b → kv'.ownBlock ≠ some b)
    (m2 : Mvb (fun b => b = gP ∨ vt.ownBlock = some b) w6 w8) (b1 : w8.heap[gP]? = some (.cells #[vt'] 22 (0, 0))) (b2 : OB w8 (d + 2) vt' ((ps.take k).flatMap (sgb o0) ++ sgb o0 x)) (b3 : ∀ b, vt'.ownBlock = some b → vt.ownBlock = some b ∨ w6.heap.size ≤ b)
    (c1 : Wrt gW (.cells #[.bool x.fin] 4 (0, 0)) w8 w9) :
    SkJ ps o0 step wb d gI gP gW (k + 1) (fun b => S b ∧ u.ownBlock ≠ some b) o w9 ∧ (∀ b, S b → u.ownBlock ≠ some b → w9.heap[b]? = V.heap[b]?) ∧ V.heap.size ≤ w9.heap.size := by
  have hz := h.size
  have z1 := m1.size
  have z2 := m2.size
  have m3 : Mvb (fun b => b = gW) w8 w9 := c1.mvb rfl
  have z3 := m3.size
  have htk : ps.take (k + 1) = ps.take k ++ [x] := by rw [List.take_add_one, hk]; rfl
  have lm := e1.marks.lt
  have lk := e1.kept.lt
  have lt' := e3.lt
  have k1 : ∀ b, b < V.heap.size → b ≠ gI → kv.ownBlock ≠ some b → mv.ownBlock ≠ some b → w6.heap[b]? = V.heap[b]? := fun b q1 q2 q3 q4 => m1.blk b q1 (fun e => by rcases e with e | e | e; exact q2 e; exact q3 e; exact q4 e)
  have k2 : ∀ b, b < w6.heap.size → b ≠ gP → vt.ownBlock ≠ some b → w8.heap[b]? = w6.heap[b]? := fun b q1 q2 q3 => m2.blk b q1 (fun e => by rcases e with e | e; exact q2 e; exact q3 e)
  have k3 : ∀ b, b < w8.heap.size → b ≠ gW → w9.heap[b]? = w8.heap[b]? := fun b q1 q2 => m3.blk b q1 q2
  have low : ∀ b, b < d + 2 → b ≠ gI → b ≠ gP → b ≠ gW → w9.heap[b]? = V.heap[b]? := fun b q1 q2 q3 q4 => (k3 b (by omega) q4).trans ((k2 b (by omega) q3 (fun e => by have := (lt' b e).1; omega)).trans (k1 b (by omega) q2 (fun e => by have := (lk b e).1; omega) (fun e => by have := (lm b e).1; omega)))
  have lm' := a1.marks.lt
  have lk' := a1.kept.lt
  have vm : ∀ b, mv'.ownBlock = some b → vt.ownBlock ≠ some b := fun b q1 q2 => by
    rcases a3 b q1 with q | q
    · exact e4.mt b q q2
    · have := (lt' b q2).2; omega
  have vk : ∀ b, kv'.ownBlock = some b → vt.ownBlock ≠ some b := fun b q1 q2 => by
    rcases a2 b q1 with q | q
    · exact e4.kt b q q2
    · have := (lt' b q2).2; omega
  have up : ∀ b, b < w6.heap.size → d + 2 ≤ b → vt.ownBlock ≠ some b → w9.heap[b]? = w6.heap[b]? := fun b q0 q1 q2 => (k3 b (by omega) (by omega)).trans (k2 b q0 (by omega) q2)
  refine ⟨⟨(low _ (by omega) (by omega) (by omega) (by omega)).trans h.dfr, (low _ (by omega) (by omega) (by omega) (by omega)).trans h.lp, m3.os.trans (m2.os.trans (m1.os.trans h.os)), m3.tape.trans (m2.tape.trans (m1.tape.trans h.tape)), m3.output.trans (m2.output.trans (m1.output.trans h.output)), by omega,
    fun b q1 q2 q3 q4 => (low b (by omega) q2 q3 q4).trans (h.blk b q1 q2 q3 q4), fun b e => h.sge b e.1, ?_, mv', kv', vt', ?_, (k3 gP (by omega) n3).trans b1, ?_, ⟨fun b q1 q2 => ?_, fun b q1 q2 => ?_, fun b q1 q2 => ?_, a4, fun b q1 q2 => ?_, fun b q1 q2 => ?_⟩⟩, fun b q1 q2 => ?_, by omega⟩
  · rw [finK_snoc hk]; exact c1.at
  · rw [htk, runM_snoc]
    exact a1.move ((k3 gI (by omega) n2).trans (k2 gI (by omega) n1 (fun e => by have := (lt' _ e).1; omega))) (fun b hb => up b (lm' b hb).2 (lm' b hb).1 (vm b hb)) (fun b hb => up b (lk' b hb).2 (lk' b hb).1 (vk b hb))
  · rw [htk, List.flatMap_append, List.flatMap_cons, List.flatMap_nil, List.append_nil]
    exact b2.move fun b hb => k3 b (b2.lt b hb).2 (by have := (b2.lt b hb).1; omega)
  · rcases a3 b q1 with q | q
    · exact e4.m b q q2.1
    · have := hS b q2.1; omega
  · rcases a2 b q1 with q | q
    · exact e4.k b q q2.1
    · have := hS b q2.1; omega
  · rcases b3 b q1 with q | q
    · exact e4.t b q q2.1
    · have := hS b q2.1; omega
  · rcases b3 b q2 with q | q
    · exact vm b q1 q
    · have := (lm' b q1).2; omega
  · rcases b3 b q2 with q | q
    · exact vk b q1 q
    · have := (lk' b q1).2; omega
  · have l := h.sge b q1
    have l2 := hS b q1
    exact (up b (by omega) l (fun e => e4.t b e q1)).trans (k1 b l2 (by omega) (fun e => e4.k b e q1) (fun e => e4.m b e q1))
end Go.Proofs.YtmjdpfigkojolaaGreatDoor

